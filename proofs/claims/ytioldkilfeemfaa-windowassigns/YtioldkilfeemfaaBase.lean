/-
  What is proved here: a relation on memory (it has only grown), numbers of 64 bits, and the program's and the document's small functions: between, isSpan, isPoint, floor, Check, Floor.
-/
import Derived.Test.YtioldkilfeemfaaChecked
import Derived.WalkKit
import Derived.BigQuiet
import Derived.Deep.Draws
import Derived.Deep.LoopGhost
import Derived.WalkSmall
namespace Go.Proofs.Ytioldkilfeemfaa
open Go.RowKit
set_option linter.unusedVariables false
set_option linter.unusedSimpArgs false

theorem hid' {p : Prop} (h : p) : Hid p := h

/-- Memory has only grown; what was drawn stays drawn. -/
structure Gr (w w' : World) : Prop where
  below : Below w.heap.size w w'
  drawn : w.drawn ≤ w'.drawn

theorem Gr.refl (w : World) : Gr w w := ⟨Below.refl _ _, Nat.le_refl _⟩
theorem Gr.trans {a b c : World} (h : Gr a b) (k : Gr b c) : Gr a c := ⟨h.below.trans (k.below.mono h.below.size), Nat.le_trans h.drawn k.drawn⟩
theorem Gr.alloc {a w : World} (h : Gr a w) (o : Obj) : Gr a (w.alloc o) := ⟨h.below.alloc h.below.size o, h.drawn⟩
theorem Gr.drew {a w : World} (h : Gr a w) : Gr a w.drew := ⟨h.below.drew, Nat.le_trans h.drawn (Nat.le_succ _)⟩
theorem Gr.drewN {a w : World} (h : Gr a w) (n : Nat) : Gr a (w.drewN n) := ⟨below_drewN h.below n, Nat.le_trans h.drawn (Nat.le_add_right _ _)⟩

/-- A number of 64 bits. -/
def R64 (z : Int) : Prop := -9223372036854775808 ≤ z ∧ z ≤ 9223372036854775807

instance (z : Int) : Decidable (R64 z) := inferInstanceAs (Decidable (_ ∧ _))

/-- Two numbers that are answered. -/
def pr (p : Int × Int) : Value := .tuple #[.int .i64 p.1, .int .i64 p.2]

/-- May it be a size or a slide? -/
def Span (n : Int) : Prop := 1 ≤ n ∧ n ≤ 1099511627776
/-- May it fall into windows? -/
def Point (n : Int) : Prop := -1152921504606846976 ≤ n ∧ n ≤ 1152921504606846976

instance (z : Int) : Decidable (Span z) := inferInstanceAs (Decidable (_ ∧ _))
instance (z : Int) : Decidable (Point z) := inferInstanceAs (Decidable (_ ∧ _))

/-- What Check answers. -/
def chkT (size slide : Int) : Int := if Span size ∧ Span slide then (if size ≤ 64 * slide then 0 else 3) else 1

/-- What Floor answers. -/
def floT (v slide : Int) : Int × Int := if Span slide then (if Point v then (v / slide * slide, 0) else (0, 60)) else (0, 1)

theorem code_any (n : Int) (w : World) : Calls Try.prog 11 #[.int .i64 n] w fun e w' => e = .returned (.int .i64 n) ∧ w' = w := by
  go_enter Try.func11, Try.ntmps11
  go_wp2
  go_ret
  exact ⟨rfl, rfl⟩

theorem between_any (v a b : Int) (w : World) : Calls Try.prog 22 #[.int .i64 v, .int .i64 a, .int .i64 b] w fun e w' => e = .returned (.bool (decide (a ≤ v ∧ v ≤ b))) ∧ w' = w := by
  by_cases h1 : a ≤ v <;> by_cases h2 : v ≤ b
  all_goals
    go_enter Try.func22, Try.ntmps22
    go_wp2
    go_ret
    exact ⟨by simp [h1, h2], rfl⟩

theorem isSpan_any (n : Int) (w : World) : Calls Try.prog 23 #[.int .i64 n] w fun e w' => e = .returned (.bool (decide (Span n))) ∧ w' = w := by
  have H := hid' (between_any n 1 1099511627776 w)
  rw [show decide (1 ≤ n ∧ n ≤ 1099511627776) = decide (Span n) from rfl] at H
  generalize decide (Span n) = d at H
  go_enter Try.func23, Try.ntmps23
  go_wp2_with fail
  refine H.out.mono ?_
  rintro e w' ⟨rfl, rfl⟩
  go_wp2
  go_ret
  exact ⟨rfl, rfl⟩

theorem isPoint_any (n : Int) (w : World) : Calls Try.prog 20 #[.int .i64 n] w fun e w' => e = .returned (.bool (decide (Point n))) ∧ w' = w := by
  have H := hid' (between_any n (-1152921504606846976) 1152921504606846976 w)
  rw [show decide (-1152921504606846976 ≤ n ∧ n ≤ 1152921504606846976) = decide (Point n) from rfl] at H
  generalize decide (Point n) = d at H
  go_enter Try.func20, Try.ntmps20
  go_wp2_with fail
  refine H.out.mono ?_
  rintro e w' ⟨rfl, rfl⟩
  go_wp2
  go_ret
  exact ⟨rfl, rfl⟩

theorem Check_any (size slide : Int) (w : World) : Calls Try.prog 12 #[.int .i64 size, .int .i64 slide] w fun e w' => e = .returned (.int .i64 (chkT size slide)) ∧ w' = w := by
  have H1 := hid' (isSpan_any size w)
  have H2 := hid' (isSpan_any slide w)
  unfold chkT
  by_cases h1 : Span size
  · by_cases h2 : Span slide
    · rw [if_pos ⟨h1, h2⟩]
      rw [decide_eq_true h1] at H1
      rw [decide_eq_true h2] at H2
      unfold Span at h1 h2
      by_cases h3 : size ≤ 64 * slide
      · rw [if_pos h3]
        have h3' : ¬ 64 * slide < size := by omega
        go_enter Try.func12, Try.ntmps12
        go_wp2_with fail
        refine H1.out.mono ?_
        rintro e w' ⟨rfl, rfl⟩
        go_wp2_with fail
        refine H2.out.mono ?_
        rintro e w' ⟨rfl, rfl⟩
        go_wp2
        go_ret
        exact ⟨rfl, rfl⟩
      · rw [if_neg h3]
        have h3' : 64 * slide < size := by omega
        go_enter Try.func12, Try.ntmps12
        go_wp2_with fail
        refine H1.out.mono ?_
        rintro e w' ⟨rfl, rfl⟩
        go_wp2_with fail
        refine H2.out.mono ?_
        rintro e w' ⟨rfl, rfl⟩
        go_wp2
        go_ret
        exact ⟨rfl, rfl⟩
    · rw [if_neg (fun h => h2 h.2)]
      rw [decide_eq_true h1] at H1
      rw [decide_eq_false h2] at H2
      clear h1 h2
      go_enter Try.func12, Try.ntmps12
      go_wp2_with fail
      refine H1.out.mono ?_
      rintro e w' ⟨rfl, rfl⟩
      go_wp2_with fail
      refine H2.out.mono ?_
      rintro e w' ⟨rfl, rfl⟩
      go_wp2
      go_ret
      exact ⟨rfl, rfl⟩
  · rw [if_neg (fun h => h1 h.1)]
    rw [decide_eq_false h1] at H1
    clear h1 H2
    go_enter Try.func12, Try.ntmps12
    go_wp2_with fail
    refine H1.out.mono ?_
    rintro e w' ⟨rfl, rfl⟩
    go_wp2
    go_ret
    exact ⟨rfl, rfl⟩

theorem rCheck_any (size slide : Int) (w : World) : Calls Try.prog 13 #[.int .i64 size, .int .i64 slide] w fun e w' => e = .returned (.int .i64 (chkT size slide)) ∧ w' = w := by
  unfold chkT Span
  by_cases a1 : size < 1
  · rw [if_neg (by omega)]
    go_enter Try.func13, Try.ntmps13
    go_wp2
    go_ret
    exact ⟨rfl, rfl⟩
  by_cases a2 : 1099511627776 < size
  · rw [if_neg (by omega)]
    go_enter Try.func13, Try.ntmps13
    go_wp2
    go_ret
    exact ⟨rfl, rfl⟩
  by_cases a3 : slide < 1
  · rw [if_neg (by omega)]
    go_enter Try.func13, Try.ntmps13
    go_wp2
    go_ret
    exact ⟨rfl, rfl⟩
  by_cases a4 : 1099511627776 < slide
  · rw [if_neg (by omega)]
    go_enter Try.func13, Try.ntmps13
    go_wp2
    go_ret
    exact ⟨rfl, rfl⟩
  rw [if_pos (by omega)]
  by_cases a5 : 64 * slide < size
  · rw [if_neg (by omega)]
    go_enter Try.func13, Try.ntmps13
    go_wp2
    go_ret
    exact ⟨rfl, rfl⟩
  · rw [if_pos (by omega)]
    go_enter Try.func13, Try.ntmps13
    go_wp2
    go_ret
    exact ⟨rfl, rfl⟩

/-- What is left over, as Go reckons it. -/
theorem tmod_cases (v s : Int) (hs : 0 < s) : v.tmod s = v % s ∨ (v.tmod s = v % s - s ∧ v < 0 ∧ v % s ≠ 0) := by
  have h := Int.tmod_eq_emod (a := v) (b := s)
  by_cases hc : 0 ≤ v ∨ s ∣ v
  · rw [if_pos hc] at h; left; omega
  · rw [if_neg hc] at h
    right
    refine ⟨by omega, by omega, fun h0 => hc (.inr (Int.dvd_of_emod_eq_zero h0))⟩

theorem floor_eq (v s : Int) : v - v % s = v / s * s := by
  have := Int.mul_ediv_add_emod v s
  rw [Int.mul_comm] at this
  omega

set_option maxRecDepth 10000 in
theorem floor_any (v s : Int) (w : World) (hs : Span s) (hv : -2305843009213693952 ≤ v ∧ v ≤ 2305843009213693952) : Calls Try.prog 21 #[.int .i64 v, .int .i64 s] w fun e w' => e = .returned (.int .i64 (v / s * s)) ∧ w' = w := by
  rw [← floor_eq]
  unfold Span at hs
  have h1 := Int.emod_nonneg v (show s ≠ 0 by omega)
  have h2 := Int.emod_lt_of_pos v (show 0 < s by omega)
  have h0 : ¬ s = 0 := by omega
  rcases tmod_cases v s (by omega) with h | ⟨h, hn, hz⟩
  · generalize v % s = m at h h1 h2
    generalize hm : v.tmod s = t at h
    subst h
    have i1 : ¬ t < 0 := by omega
    go_enter Try.func21, Try.ntmps21
    go_wp2
    go_ret
    exact ⟨rfl, rfl⟩
  · generalize v % s = m at h h1 h2 hz
    generalize hm : v.tmod s = t at h
    have i1 : t < 0 := by omega
    obtain rfl : m = t + s := by omega
    clear h
    go_enter Try.func21, Try.ntmps21
    go_wp2
    go_ret
    exact ⟨rfl, rfl⟩

theorem Floor_any (v s : Int) (w : World) : Calls Try.prog 8 #[.int .i64 v, .int .i64 s] w fun e w' => e = .returned (pr (floT v s)) ∧ w' = w := by
  have H1 := hid' (isSpan_any s w)
  have H2 := hid' (isPoint_any v w)
  unfold floT pr
  by_cases h1 : Span s
  · rw [if_pos h1]
    rw [decide_eq_true h1] at H1
    by_cases h2 : Point v
    · rw [if_pos h2]
      rw [decide_eq_true h2] at H2
      have H3 := hid' (floor_any v s w h1 (by unfold Point at h2; omega))
      generalize v / s * s = f at H3 ⊢
      clear h1 h2
      go_enter Try.func8, Try.ntmps8
      go_wp2_with fail
      refine H1.out.mono ?_
      rintro e w' ⟨rfl, rfl⟩
      go_wp2_with fail
      refine H2.out.mono ?_
      rintro e w' ⟨rfl, rfl⟩
      go_wp2_with fail
      refine H3.out.mono ?_
      rintro e w' ⟨rfl, rfl⟩
      go_wp2
      go_ret2
      exact ⟨rfl, rfl⟩
    · rw [if_neg h2]
      rw [decide_eq_false h2] at H2
      clear h1 h2
      go_enter Try.func8, Try.ntmps8
      go_wp2_with fail
      refine H1.out.mono ?_
      rintro e w' ⟨rfl, rfl⟩
      go_wp2_with fail
      refine H2.out.mono ?_
      rintro e w' ⟨rfl, rfl⟩
      go_wp2
      go_ret2
      exact ⟨rfl, rfl⟩
  · rw [if_neg h1]
    rw [decide_eq_false h1] at H1
    clear h1 H2
    go_enter Try.func8, Try.ntmps8
    go_wp2_with fail
    refine H1.out.mono ?_
    rintro e w' ⟨rfl, rfl⟩
    go_wp2
    go_ret2
    exact ⟨rfl, rfl⟩

/-- The quotient, as Go reckons it. -/
theorem tdiv_cases (v s : Int) (hs : 0 < s) : (v.tdiv s = v / s ∧ v / s * s ≤ v) ∨ (v.tdiv s = v / s + 1 ∧ v < (v / s + 1) * s) := by
  have h := Int.tdiv_eq_ediv (a := v) (b := s)
  have h1 := Int.emod_nonneg v (show s ≠ 0 by omega)
  have h2 := Int.emod_lt_of_pos v hs
  have h3 := floor_eq v s
  by_cases hc : 0 ≤ v ∨ s ∣ v
  · rw [if_pos hc] at h; left; exact ⟨by omega, by omega⟩
  · rw [if_neg hc, Int.sign_eq_one_of_pos hs] at h
    right
    refine ⟨h, ?_⟩
    rw [Int.add_mul]
    omega

theorem floor_range {v s : Int} (hs : Span s) (hv : Point v) : v - s < v / s * s ∧ v / s * s ≤ v ∧ -1152921504606846976 ≤ v / s ∧ v / s ≤ 1152921504606846976 := by
  unfold Span Point at *
  have h1 := Int.emod_nonneg v (show s ≠ 0 by omega)
  have h2 := Int.emod_lt_of_pos v (show 0 < s by omega)
  have h3 := floor_eq v s
  refine ⟨by omega, by omega, ?_, ?_⟩
  · refine Int.le_ediv_of_mul_le (by omega) ?_
    have : (-1152921504606846976 : Int) * s ≤ -1152921504606846976 * 1 := by omega
    omega
  · refine Int.ediv_le_of_le_mul (by omega) ?_
    omega

set_option maxRecDepth 10000 in
theorem rFloor_any (v s : Int) (w : World) : Calls Try.prog 9 #[.int .i64 v, .int .i64 s] w fun e w' => e = .returned (pr (floT v s)) ∧ w' = w := by
  by_cases h1 : Span s
  · by_cases h2 : Point v
    · have HR : Hid (floT v s = (v / s * s, 0)) := by unfold Hid floT; rw [if_pos h1, if_pos h2]
      generalize floT v s = R at HR ⊢
      have h := floor_range h1 h2
      have hc := tdiv_cases v s (by unfold Span at h1; omega)
      unfold Span Point at *
      rcases hc with ⟨hd, hle⟩ | ⟨hd, hlt⟩
      · generalize v / s = q at h hd hle HR
        have h0 : ¬ s = 0 := by omega
        have h3 : ¬ v < q * s := by omega
        rw [HR.out]
        clear HR hle
        unfold pr
        go_enter Try.func9, Try.ntmps9
        go_wp2
        go_ret2
        exact ⟨rfl, rfl⟩
      · generalize v / s = q at h hd hlt HR
        have h0 : ¬ s = 0 := by omega
        have e1 := Int.add_mul q 1 s
        rw [Int.one_mul] at e1
        have r1 : (q + 1) * s ≤ 2305843009213693952 := by omega
        have r2 : -2305843009213693952 ≤ (q + 1) * s := by omega
        rw [HR.out]
        clear HR e1
        unfold pr
        go_enter Try.func9, Try.ntmps9
        go_wp2
        go_ret2
        exact ⟨rfl, rfl⟩
    · have HR : Hid (floT v s = (0, 60)) := by unfold Hid floT; rw [if_pos h1, if_neg h2]
      generalize floT v s = R at HR ⊢
      rw [HR.out]
      clear HR
      unfold Span Point pr at *
      by_cases a1 : v < -1152921504606846976
      · go_enter Try.func9, Try.ntmps9
        go_wp2
        go_ret2
        exact ⟨rfl, rfl⟩
      · have a2 : 1152921504606846976 < v := by omega
        go_enter Try.func9, Try.ntmps9
        go_wp2
        go_ret2
        exact ⟨rfl, rfl⟩
  · have HR : Hid (floT v s = (0, 1)) := by unfold Hid floT; rw [if_neg h1]
    generalize floT v s = R at HR ⊢
    rw [HR.out]
    clear HR
    unfold Span pr at *
    by_cases a1 : s < 1
    · go_enter Try.func9, Try.ntmps9
      go_wp2
      go_ret2
      exact ⟨rfl, rfl⟩
    · have a2 : 1099511627776 < s := by omega
      go_enter Try.func9, Try.ntmps9
      go_wp2
      go_ret2
      exact ⟨rfl, rfl⟩

end Go.Proofs.Ytioldkilfeemfaa
