/-
  What is proved here: the order of times: cmp.Compare, cmp.Or, the method order, Order of the program and of the document.
-/
import Derived.Test.YtboeodcjcbgeaaaBase
import Derived.Test.YtboeodcjcbgeaaaPlan
import Derived.Laws.StructEq
namespace Go.Proofs.Ytboeodcjcbgeaaa
open Go.RowKit
set_option linter.unusedVariables false
set_option linter.unusedSimpArgs false

def cmp1 (x y : Int) : Int := if x < y then -1 else if y < x then 1 else 0

def cfT (x y : T) : Int := if x.1 < y.1 then -1 else if y.1 < x.1 then 1 else if x.2 < y.2 then -1 else if y.2 < x.2 then 1 else 0

set_option maxRecDepth 100000 in
theorem cfT_or (x y : T) : cfT x y = if cmp1 x.1 y.1 ≠ 0 then cmp1 x.1 y.1 else cmp1 x.2 y.2 := by
  unfold cfT cmp1
  by_cases h1 : x.1 < y.1
  · simp [h1]
  · by_cases h2 : y.1 < x.1
    · simp [h1, h2]
    · simp [h1, h2]

set_option maxRecDepth 100000 in
set_option maxHeartbeats 1000000 in
theorem isNaN_any (x : Int) (w : World) : Calls Try.prog 51 #[.int .i64 x] w fun e w' => e = .returned (.bool false) ∧ w' = w := by
  go_enter Try.func51, Try.ntmps51
  go_wp2
  go_ret
  exact ⟨rfl, rfl⟩

set_option maxRecDepth 100000 in
set_option maxHeartbeats 1000000 in
theorem compare_any (x y : Int) (w : World) : Calls Try.prog 47 #[.int .i64 x, .int .i64 y] w fun e w' => e = .returned (.int .i64 (cmp1 x y)) ∧ w' = w := by
  unfold cmp1
  have H1 := hid' (isNaN_any x w)
  have H2 := hid' (isNaN_any y w)
  go_enter Try.func47, Try.ntmps47
  go_wp2_with fail
  refine H1.out.mono ?_
  rintro e w' ⟨rfl, rfl⟩
  go_wp2_with fail
  refine H2.out.mono ?_
  rintro e w' ⟨rfl, rfl⟩
  by_cases h1 : x < y
  · go_wp2
    go_ret
    exact ⟨by simp [h1], rfl⟩
  · by_cases h2 : y < x
    · go_wp2
      go_ret
      exact ⟨by simp [h1, h2], rfl⟩
    · go_wp2
      go_ret
      exact ⟨by simp [h1, h2], rfl⟩

set_option maxRecDepth 100000 in
set_option maxHeartbeats 1000000 in
theorem or_any (w : World) (b cap : Nat) (x y : Int) (h0 : w.cell? ⟨b, 0, none⟩ = some (.int .i64 x)) (h1 : w.cell? ⟨b, 1, none⟩ = some (.int .i64 y)) :
    Calls Try.prog 46 #[.slice (some ⟨b, 0, none⟩) 2 cap] w fun e w' => e = .returned (.int .i64 (if x ≠ 0 then x else y)) ∧ w' = w := by
  go_enter Try.func46, Try.ntmps46
  go_wp2
  go_loopg [8] 2 (fun k i wr => ∃ j : Nat, j + k = 2 ∧ i = .int .i64 (j : Int) ∧ (1 ≤ j → x = 0) ∧ (2 ≤ j → y = 0) ∧ wr = w)
  case atStart => exact ⟨0, rfl, rfl, by omega, by omega, rfl⟩
  case round =>
    obtain ⟨j, hj, rfl, hx, hy, rfl⟩ := hrel
    match gk, hj with
    | 0, hj =>
      obtain rfl : j = 2 := by omega
      obtain rfl := hx (by omega)
      obtain rfl := hy (by omega)
      go_wp2
      go_ret
      exact ⟨rfl, rfl⟩
    | 1, hj =>
      obtain rfl : j = 1 := by omega
      obtain rfl := hx (by omega)
      by_cases hy0 : y = 0
      · subst hy0
        go_wp2
        go_roundg 0
        case measure => omega
        case rel => exact ⟨2, rfl, rfl, by simp, by simp, rfl⟩
      · go_wp2
        go_ret
        exact ⟨rfl, rfl⟩
    | 2, hj =>
      obtain rfl : j = 0 := by omega
      by_cases hx0 : x = 0
      · subst hx0
        go_wp2
        go_roundg 1
        case measure => omega
        case rel => exact ⟨1, rfl, rfl, by simp, by omega, rfl⟩
      · go_wp2
        go_ret
        exact ⟨by simp [hx0], rfl⟩
    | k + 3, hj => omega

section
variable {a : Act} {t : Nat} {dst : Option Tmp} {ty : TypeId} {pos : String} {aft : Array Edge} {guard : Option (Nat × Bool)}

set_option maxRecDepth 100000 in
theorem run_field0 {B : Nat} (w : World) (h : slot a t = .pointer (some ⟨B, 0, none⟩)) :
    (execOp a.eval { dst := dst, op := .fieldAddr 80 (.tmp t) 0, type := ty, pos := pos, after := aft, guard := guard }).run Try.prog w = .ok (.value (.pointer (some ⟨B, 0, none⟩))) w := by
  have h1 : a.tmps[t]?.getD undef = .pointer (some ⟨B, 0, none⟩) := by rw [← Array.getD_eq_getD_getElem?]; exact h
  go_simp

set_option maxRecDepth 100000 in
theorem run_field1 {B : Nat} (w : World) (h : slot a t = .pointer (some ⟨B, 0, none⟩)) :
    (execOp a.eval { dst := dst, op := .fieldAddr 80 (.tmp t) 1, type := ty, pos := pos, after := aft, guard := guard }).run Try.prog w = .ok (.value (.pointer (some ⟨B, 1, none⟩))) w := by
  have h1 : a.tmps[t]?.getD undef = .pointer (some ⟨B, 0, none⟩) := by rw [← Array.getD_eq_getD_getElem?]; exact h
  go_simp

set_option maxRecDepth 100000 in
theorem run_load3 {B i : Nat} {z : Int} (w : World) (h : slot a t = .pointer (some ⟨B, i, none⟩)) (hc : w.cell? ⟨B, i, none⟩ = some (.int .i64 z)) :
    (execOp a.eval { dst := dst, op := .load 3 (.tmp t), type := ty, pos := pos, after := aft, guard := guard }).run Try.prog w = .ok (.value (.int .i64 z)) w := by
  have h1 : a.tmps[t]?.getD undef = .pointer (some ⟨B, i, none⟩) := by rw [← Array.getD_eq_getD_getElem?]; exact h
  go_simp

set_option maxRecDepth 100000 in
theorem run_pair {u : Nat} {x y : Int} (w : World) (h : slot a t = .int .i64 x) (h' : slot a u = .int .i64 y) :
    (execOp a.eval { dst := dst, op := .buildSlice 99 2 #[(0, .tmp t), (1, .tmp u)], type := ty, pos := pos, after := aft, guard := guard }).run Try.prog w = .ok (.value (.slice (some ⟨w.heap.size, 0, none⟩) 2 2)) (w.alloc (.cells #[.int .i64 x, .int .i64 y] 3)) := by
  have h1 : a.tmps[t]?.getD undef = .int .i64 x := by rw [← Array.getD_eq_getD_getElem?]; exact h
  have h2 : a.tmps[u]?.getD undef = .int .i64 y := by rw [← Array.getD_eq_getD_getElem?]; exact h'
  go_simp
end

set_option maxRecDepth 100000 in
/-- An operation that runs to a value in a world that has grown. -/
theorem does_grown {P : Program} {ops : Array Oper} {Q : Exit → Act → World → Prop} {o : Oper} {a : Act} {w w' : World} {p : Value → World → Prop} {v : Value} (hw : Region.wanted o (yielded ops a.tmps) = true) (hrun : (execOp a.eval o).run P w = .ok (.value v) w') (hg : Gr w w') (hp : p v w') : Does P ops Q p o a w := by
  refine ⟨hw, ?_⟩
  unfold Oper.wp
  rw [hrun]
  exact ⟨v, rfl, hg, hp⟩

/-- A new slice of two numbers. -/
def Two (x y : Int) : Value → World → Prop := fun v w => ∃ g, v = .slice (some ⟨g, 0, none⟩) 2 2 ∧ g < w.heap.size ∧ w.cell? ⟨g, 0, none⟩ = some (.int .i64 x) ∧ w.cell? ⟨g, 1, none⟩ = some (.int .i64 y)

set_option maxRecDepth 100000 in
theorem two_lasts (x y : Int) : Lasts (Two x y) := by
  rintro v w w' ⟨g, rfl, hg, h0, h1⟩ hb
  exact ⟨g, rfl, Nat.lt_of_lt_of_le hg hb.below.size, (hb.below.cell (p := ⟨g, 0, none⟩) hg).trans h0, (hb.below.cell (p := ⟨g, 1, none⟩) hg).trans h1⟩

set_option maxRecDepth 100000 in
theorem compare_new (x y : Int) (w : World) : Calls Try.prog 47 #[.int .i64 x, .int .i64 y] w fun e w' => ∃ v, e = .returned v ∧ Gr w w' ∧ E (.int .i64 (cmp1 x y)) v w' := by
  refine (compare_any x y w).mono ?_
  rintro e w' ⟨rfl, rfl⟩
  exact ⟨_, rfl, Gr.refl _, rfl⟩

set_option maxRecDepth 100000 in
theorem or_new (x y : Int) (v : Value) (w : World) (h : Two x y v w) : Calls Try.prog 46 #[v] w fun e w' => ∃ u, e = .returned u ∧ Gr w w' ∧ E (.int .i64 (if x ≠ 0 then x else y)) u w' := by
  obtain ⟨g, rfl, hg, h0, h1⟩ := h
  refine (or_any w g 2 x y h0 h1).mono ?_
  rintro e w' ⟨rfl, rfl⟩
  exact ⟨_, rfl, Gr.refl _, rfl⟩

set_option maxRecDepth 100000 in
set_option maxHeartbeats 2000000 in
theorem order_any (x y : T) (w : World) : Calls Try.prog 40 #[.agg #[.int .i64 x.1, .int .i64 x.2], .agg #[.int .i64 y.1, .int .i64 y.2]] w fun e w' => e = .returned (.int .i64 (cfT x y)) ∧ Gr w w' := by
  have HC := hid' (cfT_or x y)
  generalize cfT x y = r at HC ⊢
  obtain ⟨a1, a2⟩ := x
  obtain ⟨b1, b2⟩ := y
  go_enter Try.func40, Try.ntmps40
  go_wp2_with fail
  have hs0 : Gr w ((w.alloc (.cells #[.int .i64 a1, .int .i64 a2] 80)).alloc (.cells #[.int .i64 b1, .int .i64 b2] 80)) := ((Gr.refl w).alloc _).alloc _
  obtain ⟨W0, hW0⟩ : ∃ W0, (w.alloc (.cells #[.int .i64 a1, .int .i64 a2] 80)).alloc (.cells #[.int .i64 b1, .int .i64 b2] 80) = W0 := ⟨_, rfl⟩
  have l1 : w.heap.size + 1 < W0.heap.size := by rw [← hW0]; simp
  have c1 : W0.cell? ⟨w.heap.size, 0, none⟩ = some (.int .i64 a1) := by rw [← hW0, cell_of_row _ _ _ _ _ _ (heap_alloc2_old w _ _)]; rfl
  have c2 : W0.cell? ⟨w.heap.size, 1, none⟩ = some (.int .i64 a2) := by rw [← hW0, cell_of_row _ _ _ _ _ _ (heap_alloc2_old w _ _)]; rfl
  have c3 : W0.cell? ⟨w.heap.size + 1, 0, none⟩ = some (.int .i64 b1) := by rw [← hW0, cell_of_row _ _ _ _ _ _ (heap_alloc2_new w _ _)]; rfl
  have c4 : W0.cell? ⟨w.heap.size + 1, 1, none⟩ = some (.int .i64 b2) := by rw [← hW0, cell_of_row _ _ _ _ _ _ (heap_alloc2_new w _ _)]; rfl
  rw [hW0] at hs0 ⊢
  clear hW0
  have K1 : Hid (∀ W, Gr W0 W → W.cell? ⟨w.heap.size, 0, none⟩ = some (.int .i64 a1)) := fun W h => (h.below.cell (p := ⟨w.heap.size, 0, none⟩) (by show w.heap.size < _; omega)).trans c1
  have K2 : Hid (∀ W, Gr W0 W → W.cell? ⟨w.heap.size, 1, none⟩ = some (.int .i64 a2)) := fun W h => (h.below.cell (p := ⟨w.heap.size, 1, none⟩) (by show w.heap.size < _; omega)).trans c2
  have K3 : Hid (∀ W, Gr W0 W → W.cell? ⟨w.heap.size + 1, 0, none⟩ = some (.int .i64 b1)) := fun W h => (h.below.cell (p := ⟨w.heap.size + 1, 0, none⟩) (by show w.heap.size + 1 < _; omega)).trans c3
  have K4 : Hid (∀ W, Gr W0 W → W.cell? ⟨w.heap.size + 1, 1, none⟩ = some (.int .i64 b2)) := fun W h => (h.below.cell (p := ⟨w.heap.size + 1, 1, none⟩) (by show w.heap.size + 1 < _; omega)).trans c4
  refine wp_region_plan (phi [E (.pointer (some ⟨w.heap.size, 0, none⟩)), E (.int .i64 a1), E (.pointer (some ⟨w.heap.size + 1, 0, none⟩)), E (.int .i64 b1), E (.int .i64 (cmp1 a1 b1)),
      E (.pointer (some ⟨w.heap.size, 1, none⟩)), E (.int .i64 a2), E (.pointer (some ⟨w.heap.size + 1, 1, none⟩)), E (.int .i64 b2), E (.int .i64 (cmp1 a2 b2)), Two (cmp1 a1 b1) (cmp1 a2 b2),
      E (.int .i64 (if cmp1 a1 b1 ≠ 0 then cmp1 a1 b1 else cmp1 a2 b2)), E (.int .i64 (if cmp1 a1 b1 ≠ 0 then cmp1 a1 b1 else cmp1 a2 b2))]) (by kernel_rfl) (by kernel_rfl)
    (phi_lasts _ ⟨E_lasts _, E_lasts _, E_lasts _, E_lasts _, E_lasts _, E_lasts _, E_lasts _, E_lasts _, E_lasts _, E_lasts _, two_lasts _ _, E_lasts _, E_lasts _, trivial⟩) ?_ ?_
  · refine ⟨?_, ?_, ?_, ?_, ?_, ?_, ?_, ?_, ?_, ?_, ?_, ?_, ?_, trivial⟩ <;> intro A W hB hS hA
    · exact does_run (wanted_free rfl) (run_field0 W (hS.slots 2 rfl)) rfl
    · exact does_run (wanted_free rfl) (run_load3 W (hA 0 rfl) (K1.out W hB)) rfl
    · exact does_run (wanted_free rfl) (run_field0 W (hS.slots 3 rfl)) rfl
    · exact does_run (wanted_free rfl) (run_load3 W (hA 2 rfl) (K3.out W hB)) rfl
    · exact does_call #[.int .i64 a1, .int .i64 b1] (wanted_free rfl) rfl Try.func47 rfl rfl (by show [slot A 6, slot A 8] = _; rw [show slot A 6 = .int .i64 a1 from hA 1 rfl, show slot A 8 = .int .i64 b1 from hA 3 rfl]) (compare_new a1 b1 W)
    · exact does_run (wanted_free rfl) (run_field1 W (hS.slots 2 rfl)) rfl
    · exact does_run (wanted_free rfl) (run_load3 W (hA 5 rfl) (K2.out W hB)) rfl
    · exact does_run (wanted_free rfl) (run_field1 W (hS.slots 3 rfl)) rfl
    · exact does_run (wanted_free rfl) (run_load3 W (hA 7 rfl) (K4.out W hB)) rfl
    · exact does_call #[.int .i64 a2, .int .i64 b2] (wanted_free rfl) rfl Try.func47 rfl rfl (by show [slot A 11, slot A 13] = _; rw [show slot A 11 = .int .i64 a2 from hA 6 rfl, show slot A 13 = .int .i64 b2 from hA 8 rfl]) (compare_new a2 b2 W)
    · exact does_grown (wanted_free rfl) (run_pair W (hA 4 rfl) (hA 9 rfl)) ((Gr.refl W).alloc _) ⟨W.heap.size, rfl, by simp, by go_simp, by go_simp⟩
    · exact does_call #[slot A 15] (wanted_free rfl) rfl Try.func46 rfl rfl rfl (or_new _ _ _ W (hA 10 rfl))
    · exact does_assign (wanted_free rfl) rfl (hA 11 rfl)
  · intro A W hB hS hL
    have h12 : slot A 4 = .int .i64 (if cmp1 a1 b1 ≠ 0 then cmp1 a1 b1 else cmp1 a2 b2) := hL 12 (by decide)
    obtain ⟨tmps, defers⟩ := A
    have hd : defers = [] := hS.defers
    subst hd
    go_wp2
    go_ret
    exact ⟨congrArg Ending.returned (h12.trans (congrArg (Value.int IntKind.i64) HC.out.symm)), hs0.trans hB⟩

set_option maxRecDepth 100000 in
theorem beq_times (w : World) (a1 a2 b1 b2 : Int) : (binOp .eql 36 (.agg #[.int .i64 a1, .int .i64 a2]) (.agg #[.int .i64 b1, .int .i64 b2])).run Try.prog w = .ok (.bool (decide ((a1, a2) = (b1, b2)))) w := by
  go_simp
  by_cases h1 : a1 = b1 <;> by_cases h2 : a2 = b2 <;> simp [h1, h2]

set_option maxRecDepth 100000 in
theorem cfT_refl (x : T) : cfT x x = 0 := by simp [cfT]

set_option maxRecDepth 100000 in
set_option maxHeartbeats 1000000 in
theorem refOrder_any (x y : T) (w : World) : Calls Try.prog 29 #[.agg #[.int .i64 x.1, .int .i64 x.2], .agg #[.int .i64 y.1, .int .i64 y.2]] w fun e w' => e = .returned (.int .i64 (cfT x y)) ∧ Gr w w' := by
  obtain ⟨a1, a2⟩ := x
  obtain ⟨b1, b2⟩ := y
  by_cases h1 : a1 = b1
  · subst h1
    by_cases h2 : a2 = b2
    · subst h2
      have H := hid' (cfT_refl (a1, a2))
      go_enter Try.func29, Try.ntmps29
      go_wp2
      go_ret
      exact ⟨congrArg (fun z => Ending.returned (Value.int .i64 z)) H.out.symm, ((Gr.refl w).alloc _).alloc _⟩
    · by_cases h3 : a2 < b2
      · have H : Hid (cfT (a1, a2) (a1, b2) = -1) := by unfold Hid; simp [cfT, h3]
        go_enter Try.func29, Try.ntmps29
        go_wp2
        go_ret
        exact ⟨congrArg (fun z => Ending.returned (Value.int .i64 z)) H.out.symm, ((Gr.refl w).alloc _).alloc _⟩
      · have H : Hid (cfT (a1, a2) (a1, b2) = 1) := by unfold Hid; simp [cfT, h3]; omega
        go_enter Try.func29, Try.ntmps29
        go_wp2
        go_ret
        exact ⟨congrArg (fun z => Ending.returned (Value.int .i64 z)) H.out.symm, ((Gr.refl w).alloc _).alloc _⟩
  · by_cases h3 : a1 < b1
    · have H : Hid (cfT (a1, a2) (b1, b2) = -1) := by unfold Hid; simp [cfT, h3]
      go_enter Try.func29, Try.ntmps29
      go_wp2
      go_ret
      exact ⟨congrArg (fun z => Ending.returned (Value.int .i64 z)) H.out.symm, ((Gr.refl w).alloc _).alloc _⟩
    · have H : Hid (cfT (a1, a2) (b1, b2) = 1) := by unfold Hid; simp [cfT, h3]; omega
      go_enter Try.func29, Try.ntmps29
      go_wp2
      go_ret
      exact ⟨congrArg (fun z => Ending.returned (Value.int .i64 z)) H.out.symm, ((Gr.refl w).alloc _).alloc _⟩

end Go.Proofs.Ytboeodcjcbgeaaa
