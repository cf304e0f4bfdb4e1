/-
  What is proved here: a relation on memory (it has only grown), numbers of 64 bits, and the program's and the document's small functions: Sub, Neg, code; wide, signed, narrow, Add, Sub.
-/
import Derived.Test.YtpmlcpnnfllenaaChecked
import Derived.WalkKit
import Derived.BigQuiet
import Derived.Deep.Draws
import Derived.Deep.LoopGhost
import Derived.WalkSmall
namespace Go.Proofs.Ytpmlcpnnfllenaa
open Go.RowKit
set_option linter.unusedVariables false
set_option linter.unusedSimpArgs false

theorem hid' {p : Prop} (h : p) : Hid p := h

/-- Memory has only grown; what was drawn stays drawn. -/
structure Gr (w w' : World) : Prop where
  below : Below w.heap.size w w'
  drawn : w.drawn ≤ w'.drawn

theorem Gr.refl (w : World) : Gr w w := ⟨Below.refl _ _, Nat.le_refl _⟩
theorem Gr.trans {a b c : World} (h : Gr a b) (k : Gr b c) : Gr a c := ⟨h.below.trans (k.below.mono h.below.size), Nat.le_trans h.drawn k.drawn⟩
theorem Gr.alloc {a w : World} (h : Gr a w) (o : Obj) : Gr a (w.alloc o) := ⟨h.below.alloc h.below.size o, h.drawn⟩
theorem Gr.drew {a w : World} (h : Gr a w) : Gr a w.drew := ⟨h.below.drew, Nat.le_trans h.drawn (Nat.le_succ _)⟩
theorem Gr.drewN {a w : World} (h : Gr a w) (n : Nat) : Gr a (w.drewN n) := ⟨below_drewN h.below n, Nat.le_trans h.drawn (Nat.le_add_right _ _)⟩
theorem Gr.setCell {a w : World} (h : Gr a w) {p : Addr} (hp : a.heap.size ≤ p.block) (u : Value) : Gr a (w.setCell p u) := ⟨h.below.setCell hp u, h.drawn⟩

/-- A number of 64 bits. -/
def R64 (z : Int) : Prop := -9223372036854775808 ≤ z ∧ z ≤ 9223372036854775807

instance (z : Int) : Decidable (R64 z) := inferInstanceAs (Decidable (_ ∧ _))

/-- A number with its error: none, if it is one of 64 bits. -/
def fit (z : Int) : Int × Int := if R64 z then (z, 0) else (0, 60)

theorem fit_in {z : Int} (h : R64 z) : fit z = (z, 0) := if_pos h
theorem fit_out {z : Int} (h : ¬ R64 z) : fit z = (0, 60) := if_neg h

theorem fit_range (z : Int) : R64 (fit z).1 := by
  unfold fit
  split
  · assumption
  · exact ⟨by simp, by simp⟩

/-- Two numbers that are answered. -/
def pr (p : Int × Int) : Value := .tuple #[.int .i64 p.1, .int .i64 p.2]

theorem code_any (n : Int) (w : World) : Calls Try.prog 12 #[.int .i64 n] w fun e w' => e = .returned (.int .i64 n) ∧ w' = w := by
  go_enter Try.func12, Try.ntmps12
  go_wp2
  go_ret
  exact ⟨rfl, rfl⟩

theorem wrap_in {z : Int} (h : R64 z) : wrap64 z = z := by
  unfold wrap64 R64 at *; omega

theorem wrap_over {z : Int} (h : 9223372036854775807 < z) (h' : z < 27670116110564327424) : wrap64 z = z - 18446744073709551616 := by
  unfold wrap64; omega

theorem wrap_under {z : Int} (h : z < -9223372036854775808) (h' : -27670116110564327424 ≤ z) : wrap64 z = z + 18446744073709551616 := by
  unfold wrap64; omega

set_option maxHeartbeats 1000000 in
theorem Sub_any (a b : Int) (w : World) (ha : R64 a) (hb : R64 b) : Calls Try.prog 9 #[.int .i64 a, .int .i64 b] w fun e w' => e = .returned (pr (fit (a - b))) ∧ w' = w := by
  by_cases h : R64 (a - b)
  · rw [fit_in h]
    unfold R64 at ha hb h
    by_cases hs : b < 0
    · have ht : a < a - b := by omega
      go_enter Try.func9, Try.ntmps9
      go_wp2
      go_ret2
      exact ⟨rfl, rfl⟩
    · have ht : ¬ a < a - b := by omega
      go_enter Try.func9, Try.ntmps9
      go_wp2
      go_ret2
      exact ⟨rfl, rfl⟩
  · rw [fit_out h]
    unfold R64 at ha hb h
    by_cases hs : b < 0
    · have hc : wrap64 (a - b) = a - b - 18446744073709551616 := wrap_over (by omega) (by omega)
      have ht : ¬ a < a - b - 18446744073709551616 := by omega
      go_enter Try.func9, Try.ntmps9
      go_wp2
      go_ret2
      exact ⟨rfl, rfl⟩
    · have hc : wrap64 (a - b) = a - b + 18446744073709551616 := wrap_under (by omega) (by omega)
      have ht : a < a - b + 18446744073709551616 := by omega
      go_enter Try.func9, Try.ntmps9
      go_wp2
      go_ret2
      exact ⟨rfl, rfl⟩

set_option maxHeartbeats 1000000 in
theorem Neg_any (a : Int) (w : World) (ha : R64 a) : Calls Try.prog 11 #[.int .i64 a] w fun e w' => e = .returned (pr (fit (0 - a))) ∧ w' = w := by
  have HC := hid' (Sub_any 0 a w ⟨by simp, by simp⟩ ha)
  generalize fit (0 - a) = r at HC ⊢
  unfold pr at HC ⊢
  go_enter Try.func11, Try.ntmps11
  go_wp2_with fail
  refine HC.out.mono ?_
  rintro e w' ⟨rfl, rfl⟩
  go_wp2
  go_ret2
  exact ⟨rfl, rfl⟩

/-- A number by its halves. -/
def wideV (h l : Int) : Value := .agg #[.int .i64 h, .int .i64 l]

theorem wide_low (n : Int) : wrap64 ((IntKind.u64.wrap n).tmod 4294967296) = n % 4294967296 := by
  rw [IntKind.wrap_u64, Int.tmod_eq_emod_of_nonneg (by omega)]
  unfold wrap64; omega

theorem wide_high (n : Int) : wrap64 (IntKind.u64.wrap ((IntKind.u64.wrap (IntKind.u64.wrap n - IntKind.u64.wrap (n % 4294967296))).tdiv 4294967296)) = n % 18446744073709551616 / 4294967296 := by
  rw [IntKind.wrap_u64, IntKind.wrap_u64, IntKind.wrap_u64, IntKind.wrap_u64, Int.tdiv_eq_ediv_of_nonneg (by omega)]
  unfold wrap64; omega

set_option maxHeartbeats 1000000 in
theorem wide_any (n : Int) (w : World) (hn : R64 n) : Calls Try.prog 23 #[.int .i64 n] w fun e w' => e = .returned (wideV (n % 18446744073709551616 / 4294967296) (n % 4294967296)) ∧ Gr w w' := by
  have HL := hid' (wide_low n)
  have HH := hid' (wide_high n)
  unfold R64 at hn
  go_enter Try.func23, Try.ntmps23
  go_wp2
  (try simp only [Exit.inBlock, Exit.then])
  refine bodyPost_ret (v := wideV (n % 18446744073709551616 / 4294967296) (n % 4294967296)) ?_ rfl ⟨rfl, (Gr.refl w).alloc _⟩
  unfold results
  go_simp
  rw [HL.out, HH.out]
  rfl

theorem alloc_new (w : World) (o : Obj) : (w.alloc o).heap[w.heap.size]? = some o := by
  show (w.heap.push o)[w.heap.size]? = some o
  simp

theorem alloc_old {w : World} {g : Nat} {x : Obj} (h : w.heap[g]? = some x) (o : Obj) : (w.alloc o).heap[g]? = some x := by
  show (w.heap.push o)[g]? = some x
  have hl := (Array.getElem?_eq_some_iff.1 h).1
  rw [Array.getElem?_push, if_neg (by omega)]
  exact h

/-- A variable of two cells. -/
theorem box_facts {w : World} {g : Nat} {x y : Value} {t : TypeId} (h : w.heap[g]? = some (.cells #[x, y] t (0, 0))) : w.cell? ⟨g, 0, none⟩ = some x ∧ w.cell? ⟨g, 1, none⟩ = some y ∧ w.frozen? ⟨g, 0, none⟩ = false ∧ w.frozen? ⟨g, 1, none⟩ = false :=
  ⟨by rw [cell_of_row _ _ _ _ _ _ h]; rfl, by rw [cell_of_row _ _ _ _ _ _ h]; rfl, by simp [World.frozen?, h], by simp [World.frozen?, h]⟩

theorem half_high (n : Int) (hn : R64 n) (h : n < 0) : n % 18446744073709551616 / 4294967296 - 4294967296 = n / 4294967296 := by
  unfold R64 at hn; omega

theorem half_pos (n : Int) (hn : R64 n) (h : ¬ n < 0) : n % 18446744073709551616 / 4294967296 = n / 4294967296 := by
  unfold R64 at hn; omega

set_option maxHeartbeats 1000000 in
theorem signed_any (n : Int) (w : World) (hn : R64 n) : Calls Try.prog 21 #[.int .i64 n] w fun e w' => e = .returned (wideV (n / 4294967296) (n % 4294967296)) ∧ Gr w w' := by
  have HC := hid' (wide_any n (w.alloc (.cells #[.int .i64 0, .int .i64 0] 39)) hn)
  unfold wideV at HC ⊢
  have hb : 0 ≤ n % 18446744073709551616 / 4294967296 ∧ n % 18446744073709551616 / 4294967296 < 4294967296 := by omega
  by_cases h : n < 0
  · rw [← half_high n hn h]
    generalize n % 18446744073709551616 / 4294967296 = x at hb HC ⊢
    generalize n % 4294967296 = y at HC ⊢
    clear hn
    go_enter Try.func21, Try.ntmps21
    go_wp2_with fail
    refine HC.out.mono ?_
    clear HC
    rintro e w1 ⟨rfl, hg⟩
    have hsz := hg.below.size
    simp at hsz
    have HB := hid' ((hg.below.block w.heap.size (by simp)).trans (alloc_new w _))
    have o0 := fun o => (box_facts (alloc_old HB.out o)).1
    have o1 := fun o => (box_facts (alloc_old HB.out o)).2.1
    have f0 := fun o => (box_facts (alloc_old HB.out o)).2.2.1
    have f1 := fun o => (box_facts (alloc_old HB.out o)).2.2.2
    go_wp2
    (try simp only [Exit.inBlock, Exit.then])
    refine bodyPost_ret (v := .agg #[.int .i64 (x - 4294967296), .int .i64 y]) ?_ rfl ⟨rfl, ((((((Gr.refl w).alloc _).trans hg).alloc _).setCell (Nat.le_refl _) _).setCell (Nat.le_refl _) _)⟩
    unfold results
    go_simp
  · rw [← half_pos n hn h]
    generalize n % 18446744073709551616 / 4294967296 = x at hb HC ⊢
    generalize n % 4294967296 = y at HC ⊢
    clear hn
    go_enter Try.func21, Try.ntmps21
    go_wp2_with fail
    refine HC.out.mono ?_
    clear HC
    rintro e w1 ⟨rfl, hg⟩
    have hsz := hg.below.size
    simp at hsz
    have HB := hid' ((hg.below.block w.heap.size (by simp)).trans (alloc_new w _))
    have o0 := fun o => (box_facts (alloc_old HB.out o)).1
    have o1 := fun o => (box_facts (alloc_old HB.out o)).2.1
    have f0 := fun o => (box_facts (alloc_old HB.out o)).2.2.1
    have f1 := fun o => (box_facts (alloc_old HB.out o)).2.2.2
    go_wp2
    (try simp only [Exit.inBlock, Exit.then])
    refine bodyPost_ret (v := .agg #[.int .i64 x, .int .i64 y]) ?_ rfl ⟨rfl, ((((((Gr.refl w).alloc _).trans hg).alloc _).setCell (Nat.le_refl _) _).setCell (Nat.le_refl _) _)⟩
    unfold results
    go_simp

theorem narrow_in {h l : Int} (hl : 0 ≤ l ∧ l < 4294967296) : R64 (h * 4294967296 + l) ↔ -2147483648 ≤ h ∧ h ≤ 2147483647 := by
  unfold R64; omega

set_option maxHeartbeats 1000000 in
theorem narrow_any (h l : Int) (w : World) (hl : 0 ≤ l ∧ l < 4294967296) : Calls Try.prog 22 #[.agg #[.int .i64 h, .int .i64 l]] w fun e w' => e = .returned (pr (fit (h * 4294967296 + l))) ∧ Gr w w' := by
  by_cases hi : R64 (h * 4294967296 + l)
  · rw [fit_in hi]
    obtain ⟨h1, h2⟩ := (narrow_in hl).1 hi
    clear hi
    go_enter Try.func22, Try.ntmps22
    go_wp2
    go_ret2
    exact ⟨rfl, (Gr.refl w).alloc _⟩
  · rw [fit_out hi]
    have hh : h < -2147483648 ∨ 2147483647 < h := by
      have : ¬ (-2147483648 ≤ h ∧ h ≤ 2147483647) := fun a => hi ((narrow_in hl).2 a)
      omega
    clear hi
    rcases hh with hh | hh
    · go_enter Try.func22, Try.ntmps22
      go_wp2
      go_ret2
      exact ⟨rfl, (Gr.refl w).alloc _⟩
    · go_enter Try.func22, Try.ntmps22
      go_wp2
      go_ret2
      exact ⟨rfl, (Gr.refl w).alloc _⟩

theorem halves {a : Int} (ha : R64 a) : ∃ h l : Int, a / 4294967296 = h ∧ a % 4294967296 = l ∧ (-2147483648 ≤ h ∧ h ≤ 2147483647) ∧ (0 ≤ l ∧ l < 4294967296) ∧ Hid (h * 4294967296 + l = a) := by
  unfold R64 at ha
  exact ⟨_, _, rfl, rfl, by omega, by omega, by unfold Hid; omega⟩

set_option maxHeartbeats 1000000 in
theorem rAdd_any (a b : Int) (w : World) (ha : R64 a) (hb : R64 b) : Calls Try.prog 8 #[.int .i64 a, .int .i64 b] w fun e w' => e = .returned (pr (fit (a + b))) ∧ Gr w w' := by
  have H1 := hid' (fun w => signed_any a w ha)
  have H2 := hid' (fun w => signed_any b w hb)
  obtain ⟨x1, x2, e1, e2, r1, r2, X⟩ := halves ha
  obtain ⟨y1, y2, e3, e4, s1, s2, Y⟩ := halves hb
  rw [e1, e2] at H1
  rw [e3, e4] at H2
  unfold wideV at H1 H2
  have H3 := hid' (fun w => narrow_any (x1 + y1 + (x2 + y2) / 4294967296) ((x2 + y2) % 4294967296) w (by omega))
  have E : (x1 + y1 + (x2 + y2) / 4294967296) * 4294967296 + (x2 + y2) % 4294967296 = a + b := by
    have := X.out; have := Y.out; omega
  rw [E] at H3
  unfold pr at H3 ⊢
  generalize fit (a + b) = r at H3 ⊢
  clear e1 e2 e3 e4 ha hb X Y E
  go_enter Try.func8, Try.ntmps8
  go_wp2_with fail
  refine (H1.out _).mono ?_
  rintro e w1 ⟨rfl, g1⟩
  go_wp2_with fail
  refine (H2.out _).mono ?_
  rintro e w2 ⟨rfl, g2⟩
  go_wp2_with fail
  refine (H3.out _).mono ?_
  rintro e w3 ⟨rfl, g3⟩
  go_wp2
  go_ret2
  exact ⟨rfl, (((g1.trans g2).alloc _).alloc _).trans g3⟩

set_option maxHeartbeats 1000000 in
theorem rSub_any (a b : Int) (w : World) (ha : R64 a) (hb : R64 b) : Calls Try.prog 10 #[.int .i64 a, .int .i64 b] w fun e w' => e = .returned (pr (fit (a - b))) ∧ Gr w w' := by
  have H1 := hid' (fun w => signed_any a w ha)
  have H2 := hid' (fun w => signed_any b w hb)
  obtain ⟨x1, x2, e1, e2, r1, r2, X⟩ := halves ha
  obtain ⟨y1, y2, e3, e4, s1, s2, Y⟩ := halves hb
  rw [e1, e2] at H1
  rw [e3, e4] at H2
  unfold wideV at H1 H2
  by_cases hlow : x2 - y2 < 0
  · have H3 := hid' (fun w => narrow_any (x1 - y1 - 1) (x2 - y2 + 4294967296) w (by omega))
    have E : (x1 - y1 - 1) * 4294967296 + (x2 - y2 + 4294967296) = a - b := by
      have := X.out; have := Y.out; omega
    rw [E] at H3
    unfold pr at H3 ⊢
    generalize fit (a - b) = r at H3 ⊢
    clear e1 e2 e3 e4 ha hb X Y E
    go_enter Try.func10, Try.ntmps10
    go_wp2_with fail
    refine (H1.out _).mono ?_
    rintro e w1 ⟨rfl, g1⟩
    go_wp2_with fail
    refine (H2.out _).mono ?_
    rintro e w2 ⟨rfl, g2⟩
    go_wp2_with fail
    refine (H3.out _).mono ?_
    rintro e w3 ⟨rfl, g3⟩
    go_wp2
    go_ret2
    exact ⟨rfl, (((g1.trans g2).alloc _).alloc _).trans g3⟩
  · have H3 := hid' (fun w => narrow_any (x1 - y1) (x2 - y2) w (by omega))
    have E : (x1 - y1) * 4294967296 + (x2 - y2) = a - b := by
      have := X.out; have := Y.out; omega
    rw [E] at H3
    unfold pr at H3 ⊢
    generalize fit (a - b) = r at H3 ⊢
    clear e1 e2 e3 e4 ha hb X Y E
    go_enter Try.func10, Try.ntmps10
    go_wp2_with fail
    refine (H1.out _).mono ?_
    rintro e w1 ⟨rfl, g1⟩
    go_wp2_with fail
    refine (H2.out _).mono ?_
    rintro e w2 ⟨rfl, g2⟩
    go_wp2_with fail
    refine (H3.out _).mono ?_
    rintro e w3 ⟨rfl, g3⟩
    go_wp2
    go_ret2
    exact ⟨rfl, (((g1.trans g2).alloc _).alloc _).trans g3⟩

end Go.Proofs.Ytpmlcpnnfllenaa
