/-
  What is proved here: the law WireDecodes answers true at all bytes and writes nothing that was there.
-/
import Derived.Test.YtgalmkhgbokidaaDC
import Derived.Test.YtgalmkhgbokidaaEA
import Derived.Test.YtgalmkhgbokidaaGetsW
namespace Go.Proofs.Ytgalmkhgbokidaa
open Go.RowKit Go.Proofs
set_option maxRecDepth 20000
set_option linter.unusedVariables false
set_option linter.unusedSimpArgs false

theorem own_empty (w : World) : Own w.heap.size (w.alloc (.cells #[] 5)) (.slice (some ⟨w.heap.size, 0, none⟩) 0 0) [] :=
  ⟨rfl, .inr ⟨w.heap.size, 0, #[], rfl, Nat.le_refl _, heap_alloc_new _ _, Nat.le_refl _, by unfold maxLen; omega, rfl, rfl⟩⟩

theorem chkL_zero : ∀ (l : List V), (∀ v ∈ l, VN v) → chkL l = 0 := by
  intro l
  induction l with
  | nil => intro _; rfl
  | cons v l ih =>
    intro h
    have h1 : chkV v = 0 := by
      unfold chkV
      rcases h v (by simp) with ⟨e, _⟩ | ⟨e, _, e2⟩
      · rw [if_neg (by omega), if_pos e]
      · rw [if_pos e, if_neg (by omega)]
    unfold chkL
    rw [if_pos h1]
    exact ih (fun x hx => h x (by simp [hx]))

theorem Nice.chk0 {c : Cm} (h : Nice c) : chk c = 0 := by
  have h1 := h.lo
  have h2 := h.hi
  have h3 := h.sheet.1
  have h4 := h.front.1
  have h5 := h.row.1
  have h6 := chkL_zero c.row h.row.2
  unfold chk chkR
  rw [if_neg (by omega)]
  split
  · rw [if_neg (by omega)]
  · split
    · rw [if_neg (by omega)]
    · split
      · rw [if_neg (by omega)]; exact h6
      · rfl

set_option maxHeartbeats 8000000 in
theorem decodes_walk (w : World) (a : Option Addr) (cap : Nat) (l : List Int) (hb : Bts w.heap.size w a l) (hsh : Sh a l.length cap) :
    Calls Try.prog 7 #[.slice a l.length cap] w fun e w' => e = .returned (.bool true) ∧ Below w.heap.size w w' := by
  have HC := hid' hsh
  clear hsh
  by_cases hbig : 3000 < l.length
  · clear hb
    generalize l.length = ln at *
    have HL := hid' (live_any w)
    have h' : (3000 : Int) < (ln : Int) := by omega
    go_enter Try.func7, Try.ntmps7
    go_wp2_with fail
    refine HL.out.mono ?_
    rintro e w1 ⟨rfl, hb1⟩
    go_wp2
    go_ret
    exact ⟨rfl, hb1⟩
  · have h' : ¬ (3000 : Int) < (l.length : Int) := by omega
    have HBT := hid' hb
    have BA := (Below.refl w.heap.size w).alloc (Nat.le_refl _) (.cells #[] 5)
    have HOE := hid' (own_empty w)
    have HSR := hid' (Src.of_bts (hb.keep BA) (fun h => (HC.out.1 h).2))
    have HBA := hid' BA
    obtain ⟨ln, hln⟩ : ∃ n, l.length = n := ⟨_, rfl⟩
    have HLN := hid' hln
    rw [hln] at h' ⊢
    clear hb hbig hln BA
    go_enter Try.func7, Try.ntmps7
    go_wp2_with (at_builtin; refine wpList_appB rfl (.tmp 16) (.tmp 17) rfl w.heap.size _ [] rfl HOE.out a ln cap l rfl HLN.out HSR.out (by have := HLN.out; simp; omega) HBA.out.size ?_; intro v' w1 hown1 hk1)
    have HK := hid' (HBA.out.trans (hk1.below HBA.out.size))
    rw [List.nil_append] at hown1
    obtain ⟨va, vc, rfl, hvc, hvb, _⟩ := hown1.bts HBT.out.range
    have HVB := hid' hvb
    have HD1 := hid' (decode_any w1 va vc l hvb hvc (by rw [HLN.out]; omega))
    have HD2 := hid' (fun W (hW : Below w.heap.size w W) => rDecode_any W a cap l ((HBT.out.keep hW).mono hW.size) HC.out.2 (by rw [HLN.out]; omega))
    rw [HLN.out] at HD1 HD2 ⊢
    clear hown1 hk1 hvc hvb HOE HSR HBA
    go_wp2_with fail
    refine HD1.out.mono ?_
    rintro e w2 ⟨X, xa, xc, er, at1, rfl, hend1, hcx, hb2⟩
    have HB2 := hid' (bel_trans' HK.out hb2)
    have HB12 := hid' hb2
    have HE2 := hid' (HD2.out w2 HB2.out)
    have HEND := hid' hend1
    have HCX := hid' hcx
    clear HD1 HD2 hb2 hend1 hcx HK
    go_wp2_with fail
    refine HE2.out.mono ?_
    rintro e w3 ⟨Y, ya, yc, er', at2, rfl, hend2, hcy, hb3⟩
    obtain ⟨hXY, rfl, rfl⟩ := HEND.out.uniq hend2
    obtain ⟨hn1, hn2, hn3, hn4⟩ := HEND.out.nice
    have hlenXY : X.length = Y.length := by simpa using congrArg List.length hXY
    have hX5 : X.length ≤ 4096 := by simpa using hn1
    have hnice : ∀ q ∈ X, Nice q.1 := fun q hq => hn2 q.1 (List.mem_map_of_mem hq)
    have hcx3 := HCX.out.on hb3
    have HCX3 := hid' hcx3
    have HSAME := hid' (rSame_false _ _ w3 xa ya xc yc X Y hcx3 hcy hlenXY (by omega) (fun i hi => by
      have e1 : (X.map (·.1)).getD i c0 = (Y.map (·.1)).getD i c0 := by rw [hXY]
      rw [List.getD_eq_getElem?_getD, List.getD_eq_getElem?_getD, List.getElem?_map, List.getElem?_map, List.getElem?_eq_getElem hi, List.getElem?_eq_getElem (show i < Y.length by omega)] at e1
      rw [List.getD_eq_getElem?_getD, List.getD_eq_getElem?_getD, List.getElem?_eq_getElem hi, List.getElem?_eq_getElem (show i < Y.length by omega)]
      simp only [Option.map_some, Option.getD_some] at e1 ⊢
      rw [e1]
      exact AlC.refl _) (fun q hq => Nice.sm (.inr (hnice q hq))))
    have HB3 := hid' (bel_trans' HB2.out hb3)
    have HB13 := hid' (bel_trans' HB12.out hb3)
    have HENC := hid' (fun W (hW : Below w3.heap.size w3 W) => encode_any _ W xa xc X (hcx3.on hW) (fun q hq => (hnice q hq).num) (by omega))
    have HN3 := hid' hn3
    have HN4 := hid' hn4
    have HALL : Hid (∀ q ∈ X, Nice q.1) := hnice
    have HLV := hid' live_any
    have HX5 := hid' hX5
    obtain ⟨xn, hxn⟩ : ∃ n, X.length = n := ⟨_, rfl⟩
    obtain ⟨yn, hyn⟩ : ∃ n, Y.length = n := ⟨_, rfl⟩
    rw [hxn, hyn] at HSAME
    rw [hxn] at HENC
    rw [hxn, hyn]
    clear hend2 hcy hb3 hXY hn1 hn2 hn3 hn4 hlenXY hX5 hnice hcx3 HEND HCX HE2 HB12 HB2 hxn hyn
    go_wp2_with fail
    refine HSAME.out.mono ?_
    rintro e w4 ⟨rfl, hb4⟩
    have HB4 := hid' (bel_trans' HB3.out hb4)
    have HE4 := hid' (HENC.out w4 hb4)
    have hcv1 := (HVB.out.keep (bel_trans' HB13.out hb4)).conv ln vc HLN.out
    have hcv2 := (HBT.out.keep HB4.out).conv ln cap HLN.out
    clear HSAME HENC hb4 HB3
    go_wp2_with fail
    refine (code_any er _).mono ?_
    rintro e w5 ⟨rfl, rfl⟩
    by_cases h0 : er = 0
    · subst h0
      have HEQ := hid' (HN3.out rfl).1
      clear HN3 HN4
      go_wp2_with fail
      refine HE4.out.mono ?_
      rintro e w6 ⟨hb6, ⟨h4, rfl⟩ | ⟨h4, hne, rfl⟩ | ⟨h4, hall, v6, rfl, hown6⟩⟩
      · exfalso
        have := HX5.out
        omega
      · exfalso
        exact hne (encE_zero X (fun q hq => (HALL.out q hq).chk0))
      · have e6 : bytesOf X.length ++ X.flatMap cmB = l := by
          have := HEQ.out
          rw [List.length_map, List.flatMap_map] at this
          exact this.symm
        rw [e6] at hown6
        obtain ⟨wa, wc, rfl, _, hwb, _⟩ := hown6.bts HBT.out.range
        have hcv3 := hwb.conv ln wc HLN.out
        have hcv4 := (HBT.out.keep (bel_trans' HB4.out hb6)).conv ln cap HLN.out
        have HB6 := hid' (bel_trans' HB4.out hb6)
        rw [HLN.out]
        clear hwb hown6 e6 hb6 hcv1 hcv2 HE4 h4 hall HB4
        go_wp2_with fail
        refine (code_any 0 _).mono ?_
        rintro e w7 ⟨rfl, rfl⟩
        go_wp2_with fail
        refine (HLV.out _).mono ?_
        rintro e w8 ⟨rfl, hb8⟩
        go_wp2
        go_ret
        exact ⟨rfl, bel_trans' HB6.out hb8⟩
    · go_wp2_with fail
      refine (HLV.out _).mono ?_
      rintro e w8 ⟨rfl, hb8⟩
      go_wp2
      go_ret
      exact ⟨rfl, bel_trans' HB4.out hb8⟩

end Go.Proofs.Ytgalmkhgbokidaa
