/-
  What is proved here: the law WireLists answers true at all commands in memory and writes nothing that was there.
-/
import Derived.Test.YtgalmkhgbokidaaMgR
import Derived.Test.YtgalmkhgbokidaaMgFC
import Derived.Test.YtgalmkhgbokidaaMgGA
import Derived.Test.YtgalmkhgbokidaaMgSSt

namespace Go.Proofs.Ytgalmkhgbokidaa
open Go.RowKit Go.Proofs
set_option maxRecDepth 20000
set_option linter.unusedVariables false
set_option linter.unusedSimpArgs false

def nrm (q : Cm × CmS) : Cm := normC q.1

theorem flat_norm : ∀ (X : List (Cm × CmS)), (∀ q ∈ X, chk q.1 = 0) → (X.map nrm).flatMap cmdB = X.flatMap cmB := by
  intro X
  induction X with
  | nil => intro _; rfl
  | cons q X ih =>
    intro h
    rw [List.map_cons, List.flatMap_cons, List.flatMap_cons, ih (fun r hr => h r (by simp [hr]))]
    unfold nrm cmB
    rw [cmdB_norm (h q (by simp))]

/-- How decoding ends of what was encoded. -/
theorem dend_of {X : List (Cm × CmS)} (hl : X.length ≤ 4096) (hc : ∀ q ∈ X, chk q.1 = 0) (hn : ∀ q ∈ X, CmN q.1) (hb : ∀ q ∈ X, Byt q.1.sheet) :
    DEnd (bytesOf X.length ++ X.flatMap cmB) (X.map nrm) 0 ((bytesOf X.length ++ X.flatMap cmB).length : Int) := by
  refine .inr ⟨X.length, X.map nrm, (bytesOf X.length).length, (bytesOf X.length ++ X.flatMap cmB).length, hl, by simp, by simp, ⟨fun c hcm => ?_, ?_, Nat.le_refl _⟩, rfl, .inr (.inr ⟨rfl, rfl, by simp, rfl⟩)⟩
  · obtain ⟨q, hq, rfl⟩ := List.mem_map.1 hcm
    exact normC_nice (hc q hq) (hn q hq) (hb q hq)
  · rw [List.drop_length, List.append_nil, flat_norm X hc]
    simp

theorem byt_cmds : ∀ (X : List (Cm × CmS)), (∀ q ∈ X, chk q.1 = 0 ∧ Byt q.1.sheet) → Byt (X.flatMap cmB) := by
  intro X
  induction X with
  | nil => intro _ z hz; simp at hz
  | cons q X ih =>
    intro h
    rw [List.flatMap_cons]
    exact Byt.app (byt_cmd (h q (by simp)).1 (h q (by simp)).2) (ih (fun r hr => h r (by simp [hr])))

set_option maxHeartbeats 8000000 in
theorem lists_walk (P : Nat → Prop) (w : World) (a : Option Addr) (cap : Nat) (X : List (Cm × CmS)) (hp : SP 9 cCm (c0, s0) P w a X) (hs : Sh a X.length cap) (hg : ∀ q ∈ X, Giv w q) :
    Calls Try.prog 6 #[.slice a X.length cap] w fun e w' => e = .returned (.bool true) ∧ Below w.heap.size w w' := by
  have hX : Cms (fun _ => True) w a X := ⟨SP.mono hp (fun _ _ => trivial), fun q hq => (hg q hq).1.mono (fun _ _ => trivial)⟩
  have HX := hid' hX
  have HN : Hid (∀ q ∈ X, CmN q.1) := fun q hq => (hg q hq).2
  have HBY : Hid (∀ q ∈ X, Byt q.1.sheet) := fun q hq => (hg q hq).1.byt
  have HM := hid' (much_any _ w a cap X hX)
  have HLV := hid' live_any
  obtain ⟨n, hn⟩ : ∃ n, X.length = n := ⟨_, rfl⟩
  have HLN := hid' hn
  rw [hn] at HM ⊢
  clear hX hp hs hg hn
  go_enter Try.func6, Try.ntmps6
  go_wp2_with fail
  refine HM.out.mono ?_
  rintro e w1 ⟨⟨b, rfl, hsm⟩, hb1⟩
  have HB1 := hid' hb1
  clear hb1 HM
  cases b with
  | true =>
    clear hsm
    go_wp2_with fail
    refine (HLV.out _).mono ?_
    rintro e w2 ⟨rfl, hb2⟩
    go_wp2
    go_ret
    exact ⟨rfl, bel_trans' HB1.out hb2⟩
  | false =>
    obtain ⟨h100, hsm⟩ := hsm rfl
    have HSM := hid' hsm
    have HE1 := hid' (encode_any _ w1 a cap X (HX.out.on HB1.out) HN.out (by rw [HLN.out]; omega))
    have HE2 := hid' (fun W (hW : Below w.heap.size w W) => rEncode_any _ W a cap X (HX.out.on hW) HN.out (by rw [HLN.out]; omega))
    rw [HLN.out] at HE1 HE2
    clear hsm
    go_wp2_with fail
    refine HE1.out.mono ?_
    intro e2 w2 hans2
    have HA2 := hid' hans2
    have hb2 := hans2.1
    have HB2 := hid' (bel_trans' HB1.out hb2)
    have HE3 := hid' (HE2.out w2 HB2.out)
    rcases hans2.2 with ⟨h4, _⟩ | ⟨h4, hne, rfl⟩ | ⟨h4, hall, v2, rfl, hown2⟩
    · exfalso
      rw [HLN.out] at h4
      omega
    · clear hans2 HA2 HE1 HE2 hb2
      go_wp2_with fail
      refine HE3.out.mono ?_
      rintro e3 w3 ⟨hb3, ⟨h5, _⟩ | ⟨h5, _, rfl⟩ | ⟨h5, hall, v3, rfl, hown3⟩⟩
      · exfalso
        rw [HLN.out] at h5
        omega
      · have HB3 := hid' (bel_trans' HB2.out hb3)
        have hcv := (Bts.nil w3.heap.size w3 none).conv 0 0 rfl
        clear HE3 hb3 h4 h5
        generalize encE X = en at *
        go_wp2_with fail
        refine (code_any en _).mono ?_
        rintro e w4 ⟨rfl, rfl⟩
        go_wp2_with fail
        refine (HLV.out _).mono ?_
        rintro e w5 ⟨rfl, hb5⟩
        go_wp2
        go_ret
        exact ⟨rfl, bel_trans' HB3.out hb5⟩
      · exact absurd (encE_zero X hall) hne
    · have hbyt : Byt (bytesOf X.length ++ X.flatMap cmB) := Byt.app (bytesOf_range _) (byt_cmds X (fun q hq => ⟨hall q hq, HBY.out q hq⟩))
      have hlb : (bytesOf X.length ++ X.flatMap cmB).length ≤ 1000000000 := by
        have h1 := len_cmds X (fun q hq => ⟨hall q hq, HN.out q hq⟩)
        have h2 := sz_le_ten X.length (by rw [HLN.out]; omega)
        rw [List.length_append, length_bytesOf]
        rw [HLN.out] at h1 h2 ⊢
        omega
      have HEND := hid' (dend_of h4 hall HN.out HBY.out)
      have HFL : Hid (∀ q ∈ X, Nice (nrm q)) := fun q hq => normC_nice (hall q hq) (HN.out q hq) (HBY.out q hq)
      obtain ⟨xa, xc, rfl, hxc, hxb, _⟩ := hown2.bts hbyt
      have HXB := hid' hxb
      have HALL : Hid (∀ q ∈ X, chk q.1 = 0) := hall
      have HBYT := hid' hbyt
      obtain ⟨L, hL⟩ : ∃ L, bytesOf X.length ++ X.flatMap cmB = L := ⟨_, rfl⟩
      have HLL := hid' hL
      rw [hL] at HEND HXB hlb hxc HBYT ⊢
      obtain ⟨ln, hln⟩ : ∃ n, L.length = n := ⟨_, rfl⟩
      have HLEN := hid' hln
      rw [hln] at HEND hlb hxc ⊢
      clear hans2 HA2 HE1 HE2 hown2 hxb hbyt hall hL hln
      have HB22 := hid' hb2
      clear hb2
      go_wp2_with fail
      refine HE3.out.mono ?_
      rintro e3 w3 ⟨hb3, ⟨h5, _⟩ | ⟨h5, hne, _⟩ | ⟨h5, _, v3, rfl, hown3⟩⟩
      · exfalso
        rw [HLN.out] at h5
        omega
      · exact absurd (encE_zero X HALL.out) hne
      · rw [HLL.out] at hown3
        obtain ⟨ya, yc, rfl, _, hyb, _⟩ := hown3.bts HBYT.out
        have hcv1 := (HXB.out.keep hb3).conv ln xc HLEN.out
        have hcv2 := hyb.conv ln yc HLEN.out
        have HB3 := hid' (bel_trans' HB2.out hb3)
        have HD := hid' (decode_any w3 xa xc L ((HXB.out.keep hb3).mono hb3.size) (by rw [HLEN.out]; exact hxc) (by rw [HLEN.out]; exact hlb))
        rw [HLEN.out] at HD ⊢
        clear hown3 hyb HE3 h4 h5 hb3 HB2 HXB
        go_wp2_with fail
        refine (code_any 0 _).mono ?_
        rintro e w4 ⟨rfl, rfl⟩
        go_wp2_with fail
        refine HD.out.mono ?_
        rintro e w5 ⟨Y, za, zc, er, at1, rfl, hend, hcy, hb5⟩
        obtain ⟨hXY, rfl, rfl⟩ := hend.uniq HEND.out
        have hlenY : Y.length = X.length := by simpa using congrArg List.length hXY
        have HB5 := hid' (bel_trans' HB3.out hb5)
        have hget : ∀ i, i < Y.length → (Y.getD i (c0, s0)).1 = nrm (X.getD i (c0, s0)) ∧ X.getD i (c0, s0) ∈ X := fun i hi => by
          have hi' : i < X.length := by omega
          have e1 : (Y.map (·.1)).getD i c0 = (X.map nrm).getD i c0 := by rw [hXY]
          rw [List.getD_eq_getElem?_getD, List.getD_eq_getElem?_getD, List.getElem?_map, List.getElem?_map, List.getElem?_eq_getElem hi, List.getElem?_eq_getElem hi'] at e1
          refine ⟨?_, getD_mem hi'⟩
          rw [List.getD_eq_getElem?_getD, List.getD_eq_getElem?_getD, List.getElem?_eq_getElem hi, List.getElem?_eq_getElem hi']
          simpa using e1
        have HSAME := hid' (rSame_true _ _ w5 za a zc cap Y X hcy (HX.out.on HB5.out) hlenY (by rw [hlenY, HLN.out]; omega) (fun i hi => by
          obtain ⟨e1, e2⟩ := hget i hi
          rw [e1, (HFL.out _ e2).pl]
          exact AlC.ofNorm _) (fun q hq => Nice.sm (.inr (by
            have h1 : q.1 ∈ Y.map (·.1) := List.mem_map_of_mem hq
            rw [hXY] at h1
            obtain ⟨r, hr, hr2⟩ := List.mem_map.1 h1
            rw [← hr2]
            exact HFL.out r hr))))
        rw [hlenY, HLN.out] at HSAME
        rw [hlenY, HLN.out]
        clear hend hcy hb5 hXY hlenY hget HD HEND hcv1 hcv2
        go_wp2_with fail
        refine (code_any 0 _).mono ?_
        rintro e w6 ⟨rfl, rfl⟩
        go_wp2_with fail
        refine HSAME.out.mono ?_
        rintro e w7 ⟨rfl, hb7⟩
        have HB7 := hid' (bel_trans' HB5.out hb7)
        clear hb7 HSAME
        go_wp2_with fail
        refine (HLV.out _).mono ?_
        rintro e w8 ⟨rfl, hb8⟩
        go_wp2
        go_ret
        exact ⟨rfl, bel_trans' HB7.out hb8⟩

end Go.Proofs.Ytgalmkhgbokidaa
