/-
  What is proved here: Encode of the program.
  What is proved here: the law WireDecodes answers true at all bytes and writes nothing that was there.
-/
import Derived.Test.YtgalmkhgbokidaaMgQ
import Derived.Test.YtgalmkhgbokidaaMgP

namespace Go.Proofs.Ytgalmkhgbokidaa
open Go.RowKit Go.Proofs
set_option maxRecDepth 20000
set_option linter.unusedVariables false
set_option linter.unusedSimpArgs false

/-- The first error of commands. -/
def encE : List (Cm × CmS) → Int
  | [] => 0
  | q :: X => if chk q.1 = 0 then encE X else chk q.1

def cmB (q : Cm × CmS) : List Int := cmdB q.1

theorem encE_zero : ∀ (X : List (Cm × CmS)), (∀ q ∈ X, chk q.1 = 0) → encE X = 0 := by
  intro X
  induction X with
  | nil => intro _; rfl
  | cons q X ih => intro h; unfold encE; rw [if_pos (h q (by simp))]; exact ih (fun r hr => h r (by simp [hr]))

theorem encE_all : ∀ (X : List (Cm × CmS)), encE X = 0 → ∀ q ∈ X, chk q.1 = 0 := by
  intro X
  induction X with
  | nil => intro _ q hq; cases hq
  | cons q X ih =>
    intro h r hr
    unfold encE at h
    by_cases hc : chk q.1 = 0
    · rw [if_pos hc] at h
      rcases List.mem_cons.1 hr with rfl | hr
      · exact hc
      · exact ih h r hr
    · rw [if_neg hc] at h; exact absurd h hc

theorem encE_at : ∀ (X : List (Cm × CmS)) (j : Nat), j < X.length → (∀ q ∈ X.take j, chk q.1 = 0) → chk (X.getD j (c0, s0)).1 ≠ 0 → encE X = chk (X.getD j (c0, s0)).1 := by
  intro X
  induction X with
  | nil => intro j hj; simp at hj
  | cons q X ih =>
    intro j hj h hne
    cases j with
    | zero =>
      unfold encE
      rw [if_neg (by simpa using hne)]
      rfl
    | succ j =>
      unfold encE
      rw [if_pos (h q (by simp))]
      exact ih j (by simpa using hj) (fun r hr => h r (by simp [hr])) (by simpa using hne)

theorem take_all0 {X : List (Cm × CmS)} {j : Nat} (hj : j < X.length) (h : ∀ q ∈ X.take j, chk q.1 = 0) (hc : chk (X.getD j (c0, s0)).1 = 0) : ∀ q ∈ X.take (j + 1), chk q.1 = 0 := by
  intro q hq
  rw [List.take_add_one] at hq
  rcases List.mem_append.1 hq with hq | hq
  · exact h q hq
  · rw [List.getElem?_eq_getElem hj] at hq
    simp at hq
    subst hq
    rw [List.getD_eq_getElem?_getD, List.getElem?_eq_getElem hj] at hc
    exact hc

theorem len_cmds : ∀ (X : List (Cm × CmS)), (∀ q ∈ X, chk q.1 = 0 ∧ CmN q.1) → (X.flatMap cmB).length ≤ X.length * 66000 := by
  intro X
  induction X with
  | nil => intro _; simp
  | cons q X ih =>
    intro h
    rw [List.flatMap_cons, List.length_append, List.length_cons]
    have h1 := ih (fun r hr => h r (by simp [hr]))
    have h2 := len_cmd (h q (by simp)).1 (h q (by simp)).2
    unfold cmB at *
    omega

/-- What Encode tells. -/
def EAns (X : List (Cm × CmS)) (w : World) (e : Ending) (w' : World) : Prop :=
  Below w.heap.size w w' ∧
  ((4096 < X.length ∧ e = .returned (.tuple #[.slice none 0 0, .int .i64 3])) ∨
   (X.length ≤ 4096 ∧ encE X ≠ 0 ∧ e = .returned (.tuple #[.slice none 0 0, .int .i64 (encE X)])) ∨
   (X.length ≤ 4096 ∧ (∀ q ∈ X, chk q.1 = 0) ∧ ∃ v, e = .returned (.tuple #[v, .int .i64 0]) ∧ Own w.heap.size w' v (bytesOf X.length ++ X.flatMap cmB)))

/-- What holds in the loop of Encode. -/
def enInv (w : World) (X : List (Cm × CmS)) (n k : Nat) (bv i : Value) (wr : World) : Prop :=
  ∃ j : Nat, j + k = n ∧ i = .int .i64 (j : Int) ∧ (∀ q ∈ X.take j, chk q.1 = 0) ∧ Own w.heap.size wr bv (bytesOf n ++ (X.take j).flatMap cmB) ∧ Below w.heap.size w wr

theorem cmdB_ne (c : Cm) : cmdB c ≠ [] := by
  unfold cmdB
  simp

theorem len_cmds_take {X : List (Cm × CmS)} {j : Nat} (hj : j ≤ X.length) (hn : ∀ q ∈ X, CmN q.1) (h : ∀ q ∈ X.take j, chk q.1 = 0) : ((X.take j).flatMap cmB).length ≤ j * 66000 := by
  have := len_cmds (X.take j) (fun q hq => ⟨h q hq, hn q (List.mem_of_mem_take hq)⟩)
  rw [List.length_take, Nat.min_eq_left hj] at this
  exact this

theorem flat_take {X : List (Cm × CmS)} {j : Nat} (hj : j < X.length) : (X.take (j + 1)).flatMap cmB = (X.take j).flatMap cmB ++ cmdB (X.getD j (c0, s0)).1 := by
  rw [List.take_add_one, List.getElem?_eq_getElem hj, List.flatMap_append, List.getD_eq_getElem?_getD, List.getElem?_eq_getElem hj]
  simp [cmB]

set_option maxHeartbeats 8000000 in
theorem encode_any (P : Nat → Prop) (w : World) (a : Option Addr) (cap : Nat) (X : List (Cm × CmS)) (hX : Cms P w a X) (hn : ∀ q ∈ X, CmN q.1) (hl : X.length ≤ 1000000000) :
    Calls Try.prog 25 #[.slice a X.length cap] w (EAns X w) := by
  by_cases hbig : 4096 < X.length
  · have HZ : Hid (EAns X w (.returned (.tuple #[.slice none 0 0, .int .i64 3])) w) := ⟨Below.refl _ _, .inl ⟨hbig, rfl⟩⟩
    obtain ⟨n, hnn⟩ : ∃ n, X.length = n := ⟨_, rfl⟩
    rw [hnn] at hbig ⊢
    have h' : (4096 : Int) < (n : Int) := by omega
    clear hX hn hl hnn
    go_enter Try.func25, Try.ntmps25
    go_wp2
    go_ret2
    exact HZ.out
  · have HX := hid' hX
    have HCN := hid' hn
    have HERR : Hid (∀ W j, j < X.length → (∀ q ∈ X.take j, chk q.1 = 0) → chk (X.getD j (c0, s0)).1 ≠ 0 → Below w.heap.size w W → EAns X w (.returned (.tuple #[.slice none 0 0, .int .i64 (chk (X.getD j (c0, s0)).1)])) W) := fun W j h1 h2 h3 h4 => by
      have e := encE_at X j h1 h2 h3
      exact ⟨h4, .inr (.inl ⟨by omega, by rw [e]; exact h3, by rw [e]⟩)⟩
    have HYES : Hid (∀ W v, (∀ q ∈ X.take X.length, chk q.1 = 0) → Own w.heap.size W v (bytesOf X.length ++ (X.take X.length).flatMap cmB) → Below w.heap.size w W → EAns X w (.returned (.tuple #[v, .int .i64 0])) W) := fun W v h1 h2 h3 => by
      rw [List.take_length] at h1 h2
      exact ⟨h3, .inr (.inr ⟨by omega, h1, v, rfl, h2⟩)⟩
    obtain ⟨n, hnn⟩ : ∃ n, X.length = n := ⟨_, rfl⟩
    have HN := hid' hnn
    rw [hnn] at hbig HYES ⊢
    have h' : ¬ (4096 : Int) < (n : Int) := by omega
    have HP := hid' (put_own w none 0 [] n (Bts.nil _ _ _) (by simp) (by omega))
    simp only [List.length_nil, List.nil_append] at HP
    have HI : Hid (∀ k bv i wr, enInv w X n k bv i wr → ∃ j : Nat, j + k = n ∧ i = .int .i64 (j : Int) ∧ (∀ q ∈ X.take j, chk q.1 = 0) ∧ Own w.heap.size wr bv (bytesOf n ++ (X.take j).flatMap cmB) ∧ Below w.heap.size w wr) := fun k bv i wr h => h
    clear hX hn hl hnn
    go_enter Try.func25, Try.ntmps25
    go_wp2_with fail
    refine HP.out.mono ?_
    rintro e w2 ⟨v0, rfl, hown, hbel⟩
    have H0 : Hid (enInv w X n n v0 (.int .i64 0) w2) := ⟨0, by omega, rfl, by simp, by simpa using hown, hbel⟩
    clear hown hbel HP
    go_wp2
    go_loopg [4, 17] n (fun k bv i wr => enInv w X n k bv i wr)
    case atStart => exact H0.out
    case round =>
      obtain ⟨j, hj, rfl, hall, hown, hbel⟩ := HI.out _ _ _ _ hrel
      clear hrel H0
      cases gk with
      | zero =>
        obtain rfl : j = n := by omega
        have HZ := hid' (HYES.out wr _ hall hown hbel)
        clear hall hown hbel HYES HERR
        go_wp2
        go_ret2
        exact HZ.out
      | succ k =>
        have hjl : j < X.length := by rw [HN.out]; omega
        have hjn : j < n := by omega
        obtain ⟨b1, o1, rfl⟩ := SP.lt HX.out.cells (by rintro rfl; simp at hjl)
        have hcells := (Cms.at (HX.out.on hbel) hjl).2
        have HCR := hid' ((HX.out.each _ (getD_mem (d := (c0, s0)) hjl)).on hbel)
        have HNM := hid' (HCN.out _ (getD_mem (d := (c0, s0)) hjl))
        have HER := hid' (fun W hne hW => HERR.out W j hjl hall hne hW)
        have HFT := hid' (flat_take hjl)
        have HTA := hid' (fun hc => take_all0 hjl hall hc)
        have HLT := hid' (len_cmds_take (Nat.le_of_lt hjl) HCN.out hall)
        have HB := hid' hbel
        have HO := hid' hown
        clear hown hbel hjl hall HERR HYES
        generalize X.getD j (c0, s0) = q at *
        obtain ⟨c, s⟩ := q
        simp only at hcells HCR HNM HER HFT HTA
        have d0 := hcells 0 (by decide)
        have d1 := hcells 1 (by decide)
        have d2 := hcells 2 (by decide)
        have d3 := hcells 3 (by decide)
        have d4 := hcells 4 (by decide)
        have d5 := hcells 5 (by decide)
        have d6 := hcells 6 (by decide)
        have d7 := hcells 7 (by decide)
        have d8 := hcells 8 (by decide)
        unfold cmA at d0 d1 d2 d3 d4 d5 d6 d7 d8
        simp only [Nat.add_zero] at d0
        clear hcells
        have BA := (Below.refl wr.heap.size wr).alloc (Nat.le_refl _) (.cells (cmA c s) 31)
        have HBX := hid' (Bx.new wr (cmA c s) 31)
        have HCK := hid' (wCheck_any P _ c s (HCR.out.on BA))
        have HB1 := hid' (bel_trans' HB.out BA)
        have HBA := hid' BA
        unfold cmV at HCK
        clear BA
        go_wp2_with fail
        refine HCK.out.mono ?_
        rintro e w3 ⟨rfl, hb3⟩
        have HB3 := hid' (bel_trans' HB1.out hb3)
        have HBB := hid' (bel_trans' HBA.out hb3)
        have hbx3 := HBX.out.keep hb3
        obtain ⟨m0, m1, m2, m3, m4, m5, m6, m7, m8⟩ := cm_cells hbx3
        clear hbx3 hb3 HBX HCK HB1 HBA d0 d1 d2 d3 d4 d5 d6 d7 d8
        by_cases hc : chk c = 0
        · have HTO := hid' (told_any P w3 c s (HCR.out.on HBB.out) HNM.out hc)
          have hlb := len_cmd hc HNM.out
          have HO3 := hid' (HO.out.below HBB.out)
          have HALL := hid' (HTA.out hc)
          have hln : (bytesOf n).length ≤ 10 := by rw [length_bytesOf]; exact sz_le_ten _ (by omega)
          rw [hc]
          unfold cmV at HTO
          clear HER HTA HO hc HNM HCR HBB
          go_wp2_with fail
          refine HTO.out.mono ?_
          rintro e w4 ⟨v4, rfl, ⟨g, cg, rfl, hg, hcell⟩, hb4⟩
          have HO4 := hid' (HO3.out.below hb4)
          have HSR := hid' (Src.of_new (c := cg) hcell)
          have HB4 := hid' (bel_trans' HB3.out hb4)
          have HLEN : Hid ((bytesOf n ++ (X.take j).flatMap cmB).length + (cmdB c).length ≤ 1000000000) := (by
            have h1 := HLT.out
            rw [List.length_append]
            omega : _ ≤ _)
          clear hcell hb4 HO3 HTO HB3 HLT hg hlb hln m0 m1 m2 m3 m4 m5 m6 m7 m8
          go_wp2_with (at_builtin; refine wpList_appB rfl (.tmp 26) (.tmp 28) rfl w.heap.size u4 _ rfl HO4.out (some ⟨g, 0, none⟩) (cmdB c).length cg (cmdB c) rfl rfl HSR.out HLEN.out HB4.out.size ?_; intro v' w5 hown1 hk1)
          have H3 : Hid (enInv w X n k v' (.int .i64 ((j : Int) + 1)) w5) := ⟨j + 1, by omega, by simp, HALL.out, by rw [HFT.out, ← List.append_assoc]; exact hown1, HB4.out.trans (hk1.below HB4.out.size)⟩
          clear hown1 hk1 HSR HO4 HLEN HB4 HALL
          go_wp2
          go_roundg k
          case measure => omega
          case rel => exact H3.out
        · have HZ := hid' (HER.out w3 hc HB3.out)
          generalize chk c = ck at *
          clear HER HTA HO HNM HCR HBB HB3 HFT m0 m1 m2 m3 m4 m5 m6 m7 m8
          go_wp2
          go_ret2
          exact HZ.out

end Go.Proofs.Ytgalmkhgbokidaa

namespace Go.Proofs.Ytgalmkhgbokidaa
open Go.RowKit Go.Proofs
set_option maxRecDepth 20000
set_option linter.unusedVariables false
set_option linter.unusedSimpArgs false

theorem own_empty (w : World) : Own w.heap.size (w.alloc (.cells #[] 5)) (.slice (some ⟨w.heap.size, 0, none⟩) 0 0) [] :=
  ⟨rfl, .inr ⟨w.heap.size, 0, #[], rfl, Nat.le_refl _, heap_alloc_new _ _, Nat.le_refl _, by unfold maxLen; omega, rfl, rfl⟩⟩

theorem chkL_zero : ∀ (l : List V), (∀ v ∈ l, VN v) → chkL l = 0 := by
  intro l
  induction l with
  | nil => intro _; rfl
  | cons v l ih =>
    intro h
    have h1 : chkV v = 0 := by
      unfold chkV
      rcases h v (by simp) with ⟨e, _⟩ | ⟨e, _, e2⟩
      · rw [if_neg (by omega), if_pos e]
      · rw [if_pos e, if_neg (by omega)]
    unfold chkL
    rw [if_pos h1]
    exact ih (fun x hx => h x (by simp [hx]))

theorem Nice.chk0 {c : Cm} (h : Nice c) : chk c = 0 := by
  have h1 := h.lo
  have h2 := h.hi
  have h3 := h.sheet.1
  have h4 := h.front.1
  have h5 := h.row.1
  have h6 := chkL_zero c.row h.row.2
  unfold chk chkR
  rw [if_neg (by omega)]
  split
  · rw [if_neg (by omega)]
  · split
    · rw [if_neg (by omega)]
    · split
      · rw [if_neg (by omega)]; exact h6
      · rfl

set_option maxHeartbeats 8000000 in
theorem decodes_walk (w : World) (a : Option Addr) (cap : Nat) (l : List Int) (hb : Bts w.heap.size w a l) (hsh : Sh a l.length cap) :
    Calls Try.prog 7 #[.slice a l.length cap] w fun e w' => e = .returned (.bool true) ∧ Below w.heap.size w w' := by
  have HC := hid' hsh
  clear hsh
  by_cases hbig : 3000 < l.length
  · clear hb
    generalize l.length = ln at *
    have HL := hid' (live_any w)
    have h' : (3000 : Int) < (ln : Int) := by omega
    go_enter Try.func7, Try.ntmps7
    go_wp2_with fail
    refine HL.out.mono ?_
    rintro e w1 ⟨rfl, hb1⟩
    go_wp2
    go_ret
    exact ⟨rfl, hb1⟩
  · have h' : ¬ (3000 : Int) < (l.length : Int) := by omega
    have HBT := hid' hb
    have BA := (Below.refl w.heap.size w).alloc (Nat.le_refl _) (.cells #[] 5)
    have HOE := hid' (own_empty w)
    have HSR := hid' (Src.of_bts (hb.keep BA) (fun h => (HC.out.1 h).2))
    have HBA := hid' BA
    obtain ⟨ln, hln⟩ : ∃ n, l.length = n := ⟨_, rfl⟩
    have HLN := hid' hln
    rw [hln] at h' ⊢
    clear hb hbig hln BA
    go_enter Try.func7, Try.ntmps7
    go_wp2_with (at_builtin; refine wpList_appB rfl (.tmp 16) (.tmp 17) rfl w.heap.size _ [] rfl HOE.out a ln cap l rfl HLN.out HSR.out (by have := HLN.out; simp; omega) HBA.out.size ?_; intro v' w1 hown1 hk1)
    have HK := hid' (HBA.out.trans (hk1.below HBA.out.size))
    rw [List.nil_append] at hown1
    obtain ⟨va, vc, rfl, hvc, hvb, _⟩ := hown1.bts HBT.out.range
    have HVB := hid' hvb
    have HD1 := hid' (decode_any w1 va vc l hvb hvc (by rw [HLN.out]; omega))
    have HD2 := hid' (fun W (hW : Below w.heap.size w W) => rDecode_any W a cap l ((HBT.out.keep hW).mono hW.size) HC.out.2 (by rw [HLN.out]; omega))
    rw [HLN.out] at HD1 HD2 ⊢
    clear hown1 hk1 hvc hvb HOE HSR HBA
    go_wp2_with fail
    refine HD1.out.mono ?_
    rintro e w2 ⟨X, xa, xc, er, at1, rfl, hend1, hcx, hb2⟩
    have HB2 := hid' (bel_trans' HK.out hb2)
    have HB12 := hid' hb2
    have HE2 := hid' (HD2.out w2 HB2.out)
    have HEND := hid' hend1
    have HCX := hid' hcx
    clear HD1 HD2 hb2 hend1 hcx HK
    go_wp2_with fail
    refine HE2.out.mono ?_
    rintro e w3 ⟨Y, ya, yc, er', at2, rfl, hend2, hcy, hb3⟩
    obtain ⟨hXY, rfl, rfl⟩ := HEND.out.uniq hend2
    obtain ⟨hn1, hn2, hn3, hn4⟩ := HEND.out.nice
    have hlenXY : X.length = Y.length := by simpa using congrArg List.length hXY
    have hX5 : X.length ≤ 4096 := by simpa using hn1
    have hnice : ∀ q ∈ X, Nice q.1 := fun q hq => hn2 q.1 (List.mem_map_of_mem hq)
    have hcx3 := HCX.out.on hb3
    have HCX3 := hid' hcx3
    have HSAME := hid' (rSame_false _ _ w3 xa ya xc yc X Y hcx3 hcy hlenXY (by omega) (fun i hi => by
      have e1 : (X.map (·.1)).getD i c0 = (Y.map (·.1)).getD i c0 := by rw [hXY]
      rw [List.getD_eq_getElem?_getD, List.getD_eq_getElem?_getD, List.getElem?_map, List.getElem?_map, List.getElem?_eq_getElem hi, List.getElem?_eq_getElem (show i < Y.length by omega)] at e1
      rw [List.getD_eq_getElem?_getD, List.getD_eq_getElem?_getD, List.getElem?_eq_getElem hi, List.getElem?_eq_getElem (show i < Y.length by omega)]
      simp only [Option.map_some, Option.getD_some] at e1 ⊢
      rw [e1]
      exact AlC.refl _) (fun q hq => Nice.sm (.inr (hnice q hq))))
    have HB3 := hid' (bel_trans' HB2.out hb3)
    have HB13 := hid' (bel_trans' HB12.out hb3)
    have HENC := hid' (fun W (hW : Below w3.heap.size w3 W) => encode_any _ W xa xc X (hcx3.on hW) (fun q hq => (hnice q hq).num) (by omega))
    have HN3 := hid' hn3
    have HN4 := hid' hn4
    have HALL : Hid (∀ q ∈ X, Nice q.1) := hnice
    have HLV := hid' live_any
    have HX5 := hid' hX5
    obtain ⟨xn, hxn⟩ : ∃ n, X.length = n := ⟨_, rfl⟩
    obtain ⟨yn, hyn⟩ : ∃ n, Y.length = n := ⟨_, rfl⟩
    rw [hxn, hyn] at HSAME
    rw [hxn] at HENC
    rw [hxn, hyn]
    clear hend2 hcy hb3 hXY hn1 hn2 hn3 hn4 hlenXY hX5 hnice hcx3 HEND HCX HE2 HB12 HB2 hxn hyn
    go_wp2_with fail
    refine HSAME.out.mono ?_
    rintro e w4 ⟨rfl, hb4⟩
    have HB4 := hid' (bel_trans' HB3.out hb4)
    have HE4 := hid' (HENC.out w4 hb4)
    have hcv1 := (HVB.out.keep (bel_trans' HB13.out hb4)).conv ln vc HLN.out
    have hcv2 := (HBT.out.keep HB4.out).conv ln cap HLN.out
    clear HSAME HENC hb4 HB3
    go_wp2_with fail
    refine (code_any er _).mono ?_
    rintro e w5 ⟨rfl, rfl⟩
    by_cases h0 : er = 0
    · subst h0
      have HEQ := hid' (HN3.out rfl).1
      clear HN3 HN4
      go_wp2_with fail
      refine HE4.out.mono ?_
      rintro e w6 ⟨hb6, ⟨h4, rfl⟩ | ⟨h4, hne, rfl⟩ | ⟨h4, hall, v6, rfl, hown6⟩⟩
      · exfalso
        have := HX5.out
        omega
      · exfalso
        exact hne (encE_zero X (fun q hq => (HALL.out q hq).chk0))
      · have e6 : bytesOf X.length ++ X.flatMap cmB = l := by
          have := HEQ.out
          rw [List.length_map, List.flatMap_map] at this
          exact this.symm
        rw [e6] at hown6
        obtain ⟨wa, wc, rfl, _, hwb, _⟩ := hown6.bts HBT.out.range
        have hcv3 := hwb.conv ln wc HLN.out
        have hcv4 := (HBT.out.keep (bel_trans' HB4.out hb6)).conv ln cap HLN.out
        have HB6 := hid' (bel_trans' HB4.out hb6)
        rw [HLN.out]
        clear hwb hown6 e6 hb6 hcv1 hcv2 HE4 h4 hall HB4
        go_wp2_with fail
        refine (code_any 0 _).mono ?_
        rintro e w7 ⟨rfl, rfl⟩
        go_wp2_with fail
        refine (HLV.out _).mono ?_
        rintro e w8 ⟨rfl, hb8⟩
        go_wp2
        go_ret
        exact ⟨rfl, bel_trans' HB6.out hb8⟩
    · go_wp2_with fail
      refine (HLV.out _).mono ?_
      rintro e w8 ⟨rfl, hb8⟩
      go_wp2
      go_ret
      exact ⟨rfl, bel_trans' HB4.out hb8⟩

end Go.Proofs.Ytgalmkhgbokidaa
