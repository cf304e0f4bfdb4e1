/-
  What is proved here: the laws WeighPairs, WeighProducts, WeighSums and WeighBack answer true, whatever they are handed.
-/
import Derived.Test.YtpmlcpnnfllenaaRDot
namespace Go.Proofs.Ytpmlcpnnfllenaa
open Go.RowKit Go.Proofs
set_option linter.unusedVariables false
set_option linter.unusedSimpArgs false

theorem live_B (w : World) : Calls Try.prog 13 #[] w fun e w' => e = .returned (.bool true) ∧ Below w.heap.size w w' := (live_any w).mono fun e w' ⟨h, g⟩ => ⟨h, g.below⟩
theorem code_B (n : Int) (w : World) : Calls Try.prog 12 #[.int .i64 n] w fun e w' => e = .returned (.int .i64 n) ∧ Below w.heap.size w w' := (code_any n w).mono fun e w' ⟨h, g⟩ => ⟨h, by rw [g]; exact Below.refl _ _⟩
theorem Add_B (a b : Int) (w : World) (ha : R64 a) (hb : R64 b) : Calls Try.prog 7 #[.int .i64 a, .int .i64 b] w fun e w' => e = .returned (pr (fit (a + b))) ∧ Below w.heap.size w w' := (Add_any a b w ha hb).mono fun e w' ⟨h, g⟩ => ⟨h, g.below⟩
theorem rAdd_B (a b : Int) (w : World) (ha : R64 a) (hb : R64 b) : Calls Try.prog 8 #[.int .i64 a, .int .i64 b] w fun e w' => e = .returned (pr (fit (a + b))) ∧ Below w.heap.size w w' := (rAdd_any a b w ha hb).mono fun e w' ⟨h, g⟩ => ⟨h, g.below⟩
theorem Sub_B (a b : Int) (w : World) (ha : R64 a) (hb : R64 b) : Calls Try.prog 9 #[.int .i64 a, .int .i64 b] w fun e w' => e = .returned (pr (fit (a - b))) ∧ Below w.heap.size w w' := (Sub_any a b w ha hb).mono fun e w' ⟨h, g⟩ => ⟨h, by rw [g]; exact Below.refl _ _⟩
theorem rSub_B (a b : Int) (w : World) (ha : R64 a) (hb : R64 b) : Calls Try.prog 10 #[.int .i64 a, .int .i64 b] w fun e w' => e = .returned (pr (fit (a - b))) ∧ Below w.heap.size w w' := (rSub_any a b w ha hb).mono fun e w' ⟨h, g⟩ => ⟨h, g.below⟩
theorem Neg_B (a : Int) (w : World) (ha : R64 a) : Calls Try.prog 11 #[.int .i64 a] w fun e w' => e = .returned (pr (fit (0 - a))) ∧ Below w.heap.size w w' := (Neg_any a w ha).mono fun e w' ⟨h, g⟩ => ⟨h, by rw [g]; exact Below.refl _ _⟩
theorem Mul_B (a b : Int) (w : World) (ha : R64 a) (hb : R64 b) : Calls Try.prog 14 #[.int .i64 a, .int .i64 b] w fun e w' => e = .returned (pr (fit (a * b))) ∧ Below w.heap.size w w' := (Mul_any a b w ha hb).mono fun e w' ⟨h, g⟩ => ⟨h, by rw [g]; exact Below.refl _ _⟩
theorem rMul_B (a b : Int) (w : World) (ha : R64 a) (hb : R64 b) : Calls Try.prog 15 #[.int .i64 a, .int .i64 b] w fun e w' => e = .returned (pr (fit (a * b))) ∧ Below w.heap.size w w' := (rMul_any a b w ha hb).mono fun e w' ⟨h, g⟩ => ⟨h, g.below⟩
theorem on_B {w w1 w2 : World} (h : Hid (Below w.heap.size w w1)) (g : Below w1.heap.size w1 w2) : Hid (Below w.heap.size w w2) := hid' (h.out.trans (g.mono h.out.size))

theorem zero64 : R64 0 := ⟨by simp, by simp⟩

set_option maxRecDepth 10000 in
set_option maxHeartbeats 2000000 in
theorem pairs_walk (w : World) (a b : Int) (ha : R64 a) (hb : R64 b) :
    Calls Try.prog 3 #[.int .i64 a, .int .i64 b] w fun e w' => e = .returned (.bool true) ∧ Below w.heap.size w w' := by
  have H1 := hid' (fun w => Add_B a b w ha hb)
  have H2 := hid' (fun w => rAdd_B a b w ha hb)
  have H3 := hid' (fun w => Sub_B a b w ha hb)
  have H4 := hid' (fun w => rSub_B a b w ha hb)
  have H5 := hid' (fun w => Neg_B a w ha)
  have H6 := hid' (fun w => rSub_B 0 a w zero64 ha)
  generalize fit (a + b) = x at H1 H2
  generalize fit (a - b) = y at H3 H4
  generalize fit (0 - a) = z at H5 H6
  obtain ⟨x1, x2⟩ := x
  obtain ⟨y1, y2⟩ := y
  obtain ⟨z1, z2⟩ := z
  unfold pr at H1 H2 H3 H4 H5 H6
  simp only at H1 H2 H3 H4 H5 H6
  clear ha hb
  have HLV := hid' live_B
  have HCO := hid' code_B
  have HB := hid' (Below.refl w.heap.size w)
  go_enter Try.func3, Try.ntmps3
  go_wp2_with fail
  refine (H1.out _).mono ?_
  rintro e w1 ⟨rfl, g⟩
  replace HB := on_B HB g
  clear g
  go_wp2_with fail
  refine (H2.out _).mono ?_
  rintro e w2 ⟨rfl, g⟩
  replace HB := on_B HB g
  clear g
  go_wp2_with fail
  refine (H3.out _).mono ?_
  rintro e w3 ⟨rfl, g⟩
  replace HB := on_B HB g
  clear g
  go_wp2_with fail
  refine (H4.out _).mono ?_
  rintro e w4 ⟨rfl, g⟩
  replace HB := on_B HB g
  clear g
  go_wp2_with fail
  refine (H5.out _).mono ?_
  rintro e w5 ⟨rfl, g⟩
  replace HB := on_B HB g
  clear g
  go_wp2_with fail
  refine (H6.out _).mono ?_
  rintro e w6 ⟨rfl, g⟩
  replace HB := on_B HB g
  clear g
  clear H1 H2 H3 H4 H5 H6
  go_wp2_with fail
  refine (HCO.out _ _).mono ?_
  rintro e w7 ⟨rfl, g⟩
  replace HB := on_B HB g
  clear g
  go_wp2_with fail
  refine (HCO.out _ _).mono ?_
  rintro e w8 ⟨rfl, g⟩
  replace HB := on_B HB g
  clear g
  go_wp2_with fail
  refine (HCO.out _ _).mono ?_
  rintro e w9 ⟨rfl, g⟩
  replace HB := on_B HB g
  clear g
  go_wp2_with fail
  refine (HLV.out _).mono ?_
  rintro e w10 ⟨rfl, g⟩
  replace HB := on_B HB g
  clear g
  go_wp2
  go_ret
  exact ⟨rfl, HB.out⟩

set_option maxRecDepth 10000 in
set_option maxHeartbeats 2000000 in
theorem products_walk (w : World) (a b : Int) (ha : R64 a) (hb : R64 b) :
    Calls Try.prog 4 #[.int .i64 a, .int .i64 b] w fun e w' => e = .returned (.bool true) ∧ Below w.heap.size w w' := by
  have H1 := hid' (fun w => Mul_B a b w ha hb)
  have H2 := hid' (fun w => rMul_B a b w ha hb)
  have H3 := hid' (fun w => Mul_B b a w hb ha)
  rw [Int.mul_comm b a] at H3
  generalize fit (a * b) = x at H1 H2 H3
  obtain ⟨x1, x2⟩ := x
  unfold pr at H1 H2 H3
  simp only at H1 H2 H3
  clear ha hb
  have HLV := hid' live_B
  have HCO := hid' code_B
  have HB := hid' (Below.refl w.heap.size w)
  go_enter Try.func4, Try.ntmps4
  go_wp2_with fail
  refine (H1.out _).mono ?_
  rintro e w1 ⟨rfl, g⟩
  replace HB := on_B HB g
  clear g
  go_wp2_with fail
  refine (H2.out _).mono ?_
  rintro e w2 ⟨rfl, g⟩
  replace HB := on_B HB g
  clear g
  go_wp2_with fail
  refine (H3.out _).mono ?_
  rintro e w3 ⟨rfl, g⟩
  replace HB := on_B HB g
  clear g
  clear H1 H2 H3
  go_wp2_with fail
  refine (HCO.out _ _).mono ?_
  rintro e w4 ⟨rfl, g⟩
  replace HB := on_B HB g
  clear g
  go_wp2_with fail
  refine (HCO.out _ _).mono ?_
  rintro e w5 ⟨rfl, g⟩
  replace HB := on_B HB g
  clear g
  go_wp2_with fail
  refine (HLV.out _).mono ?_
  rintro e w6 ⟨rfl, g⟩
  replace HB := on_B HB g
  clear g
  go_wp2
  go_ret
  exact ⟨rfl, HB.out⟩

set_option maxRecDepth 10000 in
set_option maxHeartbeats 2000000 in
theorem sums_walk (w : World) (a b : Option Addr) (ca cb : Nat) (l r : List Int) (h : Ns w.heap.size w a l) (h' : Ns w.heap.size w b r) :
    Calls Try.prog 5 #[.slice a l.length ca, .slice b r.length cb] w fun e w' => e = .returned (.bool true) ∧ Below w.heap.size w w' := by
  have HLV := hid' live_B
  have HCO := hid' code_B
  have HB := hid' (Below.refl w.heap.size w)
  by_cases hl : 1000 < l.length
  · generalize l.length = n at hl ⊢
    generalize r.length = m
    clear h h' 
    go_enter Try.func5, Try.ntmps5
    go_wp2_with fail
    refine (HLV.out _).mono ?_
    rintro e w1 ⟨rfl, g⟩
    replace HB := on_B HB g
    clear g
    go_wp2
    go_ret
    exact ⟨rfl, HB.out⟩
  by_cases hr : 1000 < r.length
  · generalize l.length = n at hl ⊢
    generalize r.length = m at hr ⊢
    clear h h' 
    go_enter Try.func5, Try.ntmps5
    go_wp2_with fail
    refine (HLV.out _).mono ?_
    rintro e w1 ⟨rfl, g⟩
    replace HB := on_B HB g
    clear g
    go_wp2
    go_ret
    exact ⟨rfl, HB.out⟩
  have H1 : Hid (∀ W, Below w.heap.size w W → Calls Try.prog 16 #[.slice a l.length ca] W fun e w' => e = .returned (pr (sumF 0 l)) ∧ Below W.heap.size W w') := fun W hW => (Sum_any W a ca l (h.on hW) (by omega)).mono fun e w' ⟨h, g⟩ => ⟨h, g.below⟩
  have H2 : Hid (∀ W, Below w.heap.size w W → Calls Try.prog 17 #[.slice a l.length ca] W fun e w' => e = .returned (pr (sumF 0 l)) ∧ Below W.heap.size W w') := fun W hW => (rSum_any W a ca l (h.on hW) (by omega)).mono fun e w' ⟨h, g⟩ => ⟨h, g.below⟩
  have H3 : Hid (∀ W, Below w.heap.size w W → Calls Try.prog 18 #[.slice a l.length ca, .slice b r.length cb] W fun e w' => e = .returned (pr (dotT l r)) ∧ Below W.heap.size W w') := fun W hW => (Dot_any W a b ca cb l r (h.on hW) (h'.on hW) (by omega) (by omega)).mono fun e w' ⟨h, g⟩ => ⟨h, g.below⟩
  have H4 : Hid (∀ W, Below w.heap.size w W → Calls Try.prog 19 #[.slice a l.length ca, .slice b r.length cb] W fun e w' => e = .returned (pr (dotT l r)) ∧ Below W.heap.size W w') := fun W hW => rDot_any W a b ca cb l r (h.on hW) (h'.on hW) (by omega) (by omega)
  generalize sumF 0 l = x at H1 H2
  generalize dotT l r = y at H3 H4
  generalize l.length = n at H1 H2 H3 H4 hl ⊢
  generalize r.length = m at H3 H4 hr ⊢
  obtain ⟨x1, x2⟩ := x
  obtain ⟨y1, y2⟩ := y
  unfold pr at H1 H2 H3 H4
  simp only at H1 H2 H3 H4
  clear h h' 
  go_enter Try.func5, Try.ntmps5
  go_wp2_with fail
  refine (H1.out _ HB.out).mono ?_
  rintro e w1 ⟨rfl, g⟩
  replace HB := on_B HB g
  clear g
  go_wp2_with fail
  refine (H2.out _ HB.out).mono ?_
  rintro e w2 ⟨rfl, g⟩
  replace HB := on_B HB g
  clear g
  go_wp2_with fail
  refine (H3.out _ HB.out).mono ?_
  rintro e w3 ⟨rfl, g⟩
  replace HB := on_B HB g
  clear g
  go_wp2_with fail
  refine (H4.out _ HB.out).mono ?_
  rintro e w4 ⟨rfl, g⟩
  replace HB := on_B HB g
  clear g
  clear H1 H2 H3 H4
  go_wp2_with fail
  refine (HCO.out _ _).mono ?_
  rintro e w5 ⟨rfl, g⟩
  replace HB := on_B HB g
  clear g
  go_wp2_with fail
  refine (HCO.out _ _).mono ?_
  rintro e w6 ⟨rfl, g⟩
  replace HB := on_B HB g
  clear g
  go_wp2_with fail
  refine (HLV.out _).mono ?_
  rintro e w7 ⟨rfl, g⟩
  replace HB := on_B HB g
  clear g
  go_wp2
  go_ret
  exact ⟨rfl, HB.out⟩

set_option maxRecDepth 10000 in
set_option maxHeartbeats 2000000 in
theorem back_walk (w : World) (a b : Int) (ha : R64 a) (hb : R64 b) :
    Calls Try.prog 6 #[.int .i64 a, .int .i64 b] w fun e w' => e = .returned (.bool true) ∧ Below w.heap.size w w' := by
  have H1 := hid' (fun w => Add_B a b w ha hb)
  have H2 := hid' (fun w => Add_B b a w hb ha)
  rw [Int.add_comm b a] at H2
  have HLV := hid' live_B
  have HCO := hid' code_B
  have HB := hid' (Below.refl w.heap.size w)
  by_cases h : R64 (a + b)
  · have H3 := hid' (fun w => Sub_B (a + b) b w h hb)
    rw [Int.add_sub_cancel, fit_in ha] at H3
    rw [fit_in h] at H1 H2
    unfold pr at H1 H2 H3
    simp only at H1 H2 H3
    by_cases hb0 : 0 ≤ b
    · have hx : a ≤ a + b := by omega
      generalize a + b = x at H1 H2 H3 hx
      clear ha hb h
      go_enter Try.func6, Try.ntmps6
      go_wp2_with fail
      refine (H1.out _).mono ?_
      rintro e w1 ⟨rfl, g⟩
      replace HB := on_B HB g
      clear g
      go_wp2_with fail
      refine (H2.out _).mono ?_
      rintro e w2 ⟨rfl, g⟩
      replace HB := on_B HB g
      clear g
      go_wp2_with fail
      refine (HCO.out _ _).mono ?_
      rintro e w3 ⟨rfl, g⟩
      replace HB := on_B HB g
      clear g
      go_wp2_with fail
      refine (HCO.out _ _).mono ?_
      rintro e w4 ⟨rfl, g⟩
      replace HB := on_B HB g
      clear g
      go_wp2_with fail
      refine (HCO.out _ _).mono ?_
      rintro e w5 ⟨rfl, g⟩
      replace HB := on_B HB g
      clear g
      go_wp2_with fail
      refine (H3.out _).mono ?_
      rintro e w6 ⟨rfl, g⟩
      replace HB := on_B HB g
      clear g
      go_wp2_with fail
      refine (HCO.out _ _).mono ?_
      rintro e w7 ⟨rfl, g⟩
      replace HB := on_B HB g
      clear g
      go_wp2_with fail
      refine (HLV.out _).mono ?_
      rintro e w8 ⟨rfl, g⟩
      replace HB := on_B HB g
      clear g
      go_wp2
      go_ret
      exact ⟨rfl, HB.out⟩
    · have hx : ¬ a ≤ a + b := by omega
      generalize a + b = x at H1 H2 H3 hx
      clear ha hb h
      go_enter Try.func6, Try.ntmps6
      go_wp2_with fail
      refine (H1.out _).mono ?_
      rintro e w1 ⟨rfl, g⟩
      replace HB := on_B HB g
      clear g
      go_wp2_with fail
      refine (H2.out _).mono ?_
      rintro e w2 ⟨rfl, g⟩
      replace HB := on_B HB g
      clear g
      go_wp2_with fail
      refine (HCO.out _ _).mono ?_
      rintro e w3 ⟨rfl, g⟩
      replace HB := on_B HB g
      clear g
      go_wp2_with fail
      refine (HCO.out _ _).mono ?_
      rintro e w4 ⟨rfl, g⟩
      replace HB := on_B HB g
      clear g
      go_wp2_with fail
      refine (HCO.out _ _).mono ?_
      rintro e w5 ⟨rfl, g⟩
      replace HB := on_B HB g
      clear g
      go_wp2_with fail
      refine (H3.out _).mono ?_
      rintro e w6 ⟨rfl, g⟩
      replace HB := on_B HB g
      clear g
      go_wp2_with fail
      refine (HCO.out _ _).mono ?_
      rintro e w7 ⟨rfl, g⟩
      replace HB := on_B HB g
      clear g
      go_wp2_with fail
      refine (HLV.out _).mono ?_
      rintro e w8 ⟨rfl, g⟩
      replace HB := on_B HB g
      clear g
      go_wp2
      go_ret
      exact ⟨rfl, HB.out⟩
  · rw [fit_out h] at H1 H2
    unfold pr at H1 H2
    simp only at H1 H2
    unfold R64 at ha hb h
    by_cases hb0 : 0 < b
    · have ha0 : 0 < a := by omega
      clear ha hb h
      go_enter Try.func6, Try.ntmps6
      go_wp2_with fail
      refine (H1.out _).mono ?_
      rintro e w1 ⟨rfl, g⟩
      replace HB := on_B HB g
      clear g
      go_wp2_with fail
      refine (H2.out _).mono ?_
      rintro e w2 ⟨rfl, g⟩
      replace HB := on_B HB g
      clear g
      go_wp2_with fail
      refine (HCO.out _ _).mono ?_
      rintro e w3 ⟨rfl, g⟩
      replace HB := on_B HB g
      clear g
      go_wp2_with fail
      refine (HCO.out _ _).mono ?_
      rintro e w4 ⟨rfl, g⟩
      replace HB := on_B HB g
      clear g
      go_wp2_with fail
      refine (HCO.out _ _).mono ?_
      rintro e w5 ⟨rfl, g⟩
      replace HB := on_B HB g
      clear g
      go_wp2_with fail
      refine (HLV.out _).mono ?_
      rintro e w6 ⟨rfl, g⟩
      replace HB := on_B HB g
      clear g
      go_wp2
      go_ret
      exact ⟨rfl, HB.out⟩
    · have ha0 : ¬ 0 < a := by omega
      clear ha hb h
      go_enter Try.func6, Try.ntmps6
      go_wp2_with fail
      refine (H1.out _).mono ?_
      rintro e w1 ⟨rfl, g⟩
      replace HB := on_B HB g
      clear g
      go_wp2_with fail
      refine (H2.out _).mono ?_
      rintro e w2 ⟨rfl, g⟩
      replace HB := on_B HB g
      clear g
      go_wp2_with fail
      refine (HCO.out _ _).mono ?_
      rintro e w3 ⟨rfl, g⟩
      replace HB := on_B HB g
      clear g
      go_wp2_with fail
      refine (HCO.out _ _).mono ?_
      rintro e w4 ⟨rfl, g⟩
      replace HB := on_B HB g
      clear g
      go_wp2_with fail
      refine (HCO.out _ _).mono ?_
      rintro e w5 ⟨rfl, g⟩
      replace HB := on_B HB g
      clear g
      go_wp2_with fail
      refine (HLV.out _).mono ?_
      rintro e w6 ⟨rfl, g⟩
      replace HB := on_B HB g
      clear g
      go_wp2
      go_ret
      exact ⟨rfl, HB.out⟩
end Go.Proofs.Ytpmlcpnnfllenaa
