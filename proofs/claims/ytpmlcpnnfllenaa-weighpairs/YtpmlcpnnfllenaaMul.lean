/-
  What is proved here: Mul, of the program and of the document: the product, if it is a number of 64 bits.
-/
import Derived.Test.YtpmlcpnnfllenaaBase
namespace Go.Proofs.Ytpmlcpnnfllenaa
open Go.RowKit
set_option linter.unusedVariables false
set_option linter.unusedSimpArgs false

theorem wrap_off (x : Int) : ∃ k : Int, wrap64 x = x - k * 18446744073709551616 := ⟨(x + 9223372036854775808) / 18446744073709551616, by unfold wrap64; omega⟩

theorem wrap_range (x : Int) : R64 (wrap64 x) := by unfold wrap64 R64; omega

/-- A product that wrapped round does not come out again. -/
theorem mul_tells {a b : Int} (ha : R64 a) (hb : R64 b) (h0 : a ≠ 0) (h1 : a ≠ -1) : wrap64 ((wrap64 (a * b)).tdiv a) = b ↔ R64 (a * b) := by
  constructor
  · intro h
    obtain ⟨k, hk⟩ := wrap_off (a * b)
    have hp := wrap_range (a * b)
    generalize wrap64 (a * b) = p at h hk hp
    have hq : R64 (p.tdiv a) := by
      by_cases e1 : a = 1
      · subst e1; rw [Int.tdiv_one]; exact hp
      · have e := Int.natAbs_tdiv p a
        have h2 : 2 ≤ a.natAbs := by omega
        have h3 : p.natAbs / a.natAbs ≤ p.natAbs / 2 := Nat.div_le_div_left h2 (by omega)
        unfold R64 at hp ⊢
        have hm : p.natAbs ≤ 9223372036854775808 := by omega
        have h4 : (p.tdiv a).natAbs ≤ 4611686018427387904 := by rw [e]; exact Nat.le_trans h3 (by omega)
        omega
    rw [wrap_in hq] at h
    have e := Int.mul_tdiv_add_tmod p a
    have e2 := Int.natAbs_tmod p a
    have e3 : p.natAbs % a.natAbs < a.natAbs := Nat.mod_lt _ (by omega)
    rw [h] at e
    have : k = 0 := by
      unfold R64 at ha
      omega
    subst this
    have : p = a * b := by omega
    rw [← this]; exact hp
  · intro h
    rw [wrap_in h, Int.mul_tdiv_cancel_left _ h0, wrap_in hb]

theorem fit_zero : fit 0 = (0, 0) := by decide

set_option maxHeartbeats 1000000 in
theorem Mul_any (a b : Int) (w : World) (ha : R64 a) (hb : R64 b) : Calls Try.prog 14 #[.int .i64 a, .int .i64 b] w fun e w' => e = .returned (pr (fit (a * b))) ∧ w' = w := by
  by_cases h0 : a = 0
  · subst h0
    rw [Int.zero_mul, fit_zero]
    go_enter Try.func14, Try.ntmps14
    go_wp2
    go_ret2
    exact ⟨rfl, rfl⟩
  · by_cases h1 : a = -1
    · subst h1
      have HC := hid' (Neg_any b w hb)
      rw [show (-1 : Int) * b = 0 - b by omega]
      generalize fit (0 - b) = r at HC ⊢
      unfold pr at HC ⊢
      go_enter Try.func14, Try.ntmps14
      go_wp2_with fail
      refine HC.out.mono ?_
      rintro e w' ⟨rfl, rfl⟩
      go_wp2
      go_ret2
      exact ⟨rfl, rfl⟩
    · have HT := hid' (mul_tells ha hb h0 h1)
      have HP := hid' (fun h => wrap_in (z := a * b) h)
      obtain ⟨p, hp⟩ : ∃ p, wrap64 (a * b) = p := ⟨_, rfl⟩
      rw [hp] at HT HP
      obtain ⟨q, hq⟩ : ∃ q, wrap64 (p.tdiv a) = q := ⟨_, rfl⟩
      rw [hq] at HT
      by_cases hqb : q = b
      · rw [fit_in (HT.out.1 hqb), ← HP.out (HT.out.1 hqb)]
        subst hqb
        go_enter Try.func14, Try.ntmps14
        go_wp2
        go_ret2
        exact ⟨rfl, rfl⟩
      · rw [fit_out (fun h => hqb (HT.out.2 h))]
        go_enter Try.func14, Try.ntmps14
        go_wp2
        go_ret2
        exact ⟨rfl, rfl⟩

theorem sign_mul {a b : Int} (ha : a ≠ 0) (hb : b ≠ 0) : (a * b < 0) ↔ ¬ ((a < 0) ↔ (b < 0)) := by
  rcases Int.lt_or_gt_of_ne ha with h1 | h1 <;> rcases Int.lt_or_gt_of_ne hb with h2 | h2
  · have := Int.mul_pos_of_neg_of_neg h1 h2; constructor <;> intro <;> omega
  · have := Int.mul_neg_of_neg_of_pos h1 h2; constructor <;> intro <;> omega
  · have := Int.mul_neg_of_pos_of_neg h1 h2; constructor <;> intro <;> omega
  · have := Int.mul_pos h1 h2; constructor <;> intro <;> omega

set_option maxHeartbeats 1000000 in
theorem rMul_any (a b : Int) (w : World) (ha : R64 a) (hb : R64 b) : Calls Try.prog 15 #[.int .i64 a, .int .i64 b] w fun e w' => e = .returned (pr (fit (a * b))) ∧ Gr w w' := by
  by_cases h0 : a = 0
  · subst h0
    rw [Int.zero_mul, fit_zero]
    go_enter Try.func15, Try.ntmps15
    go_wp2
    go_ret2
    exact ⟨rfl, Gr.refl w⟩
  by_cases h0' : b = 0
  · subst h0'
    rw [Int.mul_zero, fit_zero]
    go_enter Try.func15, Try.ntmps15
    go_wp2
    go_ret2
    exact ⟨rfl, Gr.refl w⟩
  by_cases h1 : a = -1
  · subst h1
    have HC := hid' (rSub_any 0 b w ⟨by simp, by simp⟩ hb)
    rw [show (-1 : Int) * b = 0 - b by omega]
    generalize fit (0 - b) = r at HC ⊢
    unfold pr at HC ⊢
    unfold R64 at hb
    go_enter Try.func15, Try.ntmps15
    go_wp2_with fail
    refine HC.out.mono ?_
    rintro e w' ⟨rfl, g⟩
    go_wp2
    go_ret2
    exact ⟨rfl, g⟩
  by_cases h1' : b = -1
  · subst h1'
    have HC := hid' (rSub_any 0 a w ⟨by simp, by simp⟩ ha)
    rw [show a * (-1 : Int) = 0 - a by omega]
    generalize fit (0 - a) = r at HC ⊢
    unfold pr at HC ⊢
    unfold R64 at ha
    by_cases hm : a = -9223372036854775808
    · subst hm
      go_enter Try.func15, Try.ntmps15
      go_wp2_with fail
      rw [show wrap64 (-wrap64 9223372036854775808) = -9223372036854775808 by unfold wrap64; omega]
      refine HC.out.mono ?_
      rintro e w' ⟨rfl, g⟩
      go_wp2
      go_ret2
      exact ⟨rfl, g⟩
    · go_enter Try.func15, Try.ntmps15
      go_wp2_with fail
      refine HC.out.mono ?_
      rintro e w' ⟨rfl, g⟩
      go_wp2
      go_ret2
      exact ⟨rfl, g⟩
  have HT := hid' (mul_tells hb ha h0' h1')
  have HS := hid' (sign_mul h0 h0')
  rw [Int.mul_comm b a] at HT
  have HP := hid' (fun h => wrap_in (z := a * b) h)
  obtain ⟨p, hp⟩ : ∃ p, wrap64 (a * b) = p := ⟨_, rfl⟩
  rw [hp] at HT HP
  obtain ⟨q, hq⟩ : ∃ q, wrap64 (p.tdiv b) = q := ⟨_, rfl⟩
  rw [hq] at HT
  have i0 : (a == 0) = false := by simpa using h0
  have i1 : (b == 0) = false := by simpa using h0'
  have i2 : (a == -1) = false := by simpa using h1
  have i3 : (b == -1) = false := by simpa using h1'
  by_cases hqb : q = a
  · rw [← HP.out (HT.out.1 hqb)] at HS
    rw [fit_in (HT.out.1 hqb), ← HP.out (HT.out.1 hqb)]
    subst hqb
    by_cases s1 : q < 0 <;> by_cases s2 : b < 0 <;> by_cases s3 : p < 0
    all_goals try (exfalso; have := HS.out; omega)
    all_goals
      go_enter Try.func15, Try.ntmps15
      go_wp2
      go_ret2
      exact ⟨rfl, Gr.refl w⟩
  · rw [fit_out (fun h => hqb (HT.out.2 h))]
    have i4 : (q == a) = false := by simpa using hqb
    go_enter Try.func15, Try.ntmps15
    go_wp2
    go_ret2
    exact ⟨rfl, Gr.refl w⟩

end Go.Proofs.Ytpmlcpnnfllenaa
