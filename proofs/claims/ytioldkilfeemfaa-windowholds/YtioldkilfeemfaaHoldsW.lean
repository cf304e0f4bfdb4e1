/-
  What is proved here: the law WindowHolds answers true, whatever it is handed.
-/
import Derived.Test.YtioldkilfeemfaaLive
namespace Go.Proofs.Ytioldkilfeemfaa
open Go.RowKit
set_option linter.unusedVariables false
set_option linter.unusedSimpArgs false

theorem Ways.one {v s p q : Int} {n : Nat} (h : Ways v s s p q n) (hs : Span s) (hn : 0 < n) : n = 1 := by
  unfold Span at hs
  have h0 := (h.holds 0 hn).2
  have h1 := (h.holds (n - 1) (by omega)).1
  by_cases h2 : n ≤ 1
  · omega
  · exfalso
    have h3 : (p + 1) * s ≤ (p + ((n - 1 : Nat) : Int)) * s := Int.mul_le_mul_of_nonneg_right (by omega) (by omega)
    rw [Int.add_mul, Int.one_mul] at h3
    rw [Int.natCast_zero, Int.add_zero] at h0
    omega

theorem Ways.none {v size s p q : Int} (h : Ways v size s p q 0) (hs : Span s) : q * s ≤ v - size ∧ size < s := by
  have e : p = q + 1 := by have := h.sum; omega
  subst e
  have h1 := h.ahead
  have h2 := h.behind
  rw [Int.natCast_zero, Int.add_zero, Int.add_mul, Int.one_mul] at h2
  rw [Int.add_sub_cancel] at h1
  exact ⟨h1, by omega⟩

set_option maxRecDepth 10000 in
set_option maxHeartbeats 2000000 in
theorem holds_walk (w : World) (v size s : Int) (rv : R64 v) (_ : R64 size) (_ : R64 s) :
    Calls Try.prog 5 #[.int .i64 v, .int .i64 size, .int .i64 s] w fun e w' => e = .returned (.bool true) ∧ Below w.heap.size w w' := by
  have mixed : Try.prog.follows .mixedOrders = true := by kernel_rfl
  have HC := hid' code_any
  have HL := hid' live_any
  have HB := hid' (Below.refl w.heap.size w)
  by_cases hc : chkT size s = 0 ∧ Point v
  · obtain ⟨hc, hv⟩ := hc
    obtain ⟨hz, hs, hm⟩ := chk_ok hc
    have hR : bkT v size s = (wins (firstOf v size s) s (manyOf v size s), 0) := by unfold bkT; rw [if_pos hc, if_pos hv]
    have HW := hid' (ways hz hs hm hv)
    have H1 := hid' (fun w => Buckets_B v size s _ _ w hR)
    have HF : Hid (floT v s = (v / s * s, 0)) := by unfold Hid floT; rw [if_pos hs, if_pos hv]
    have H2 := hid' (fun w => Floor_any v s w)
    rw [HF.out] at H2
    have hfr := floor_range hs hv
    clear hR hc HF
    generalize firstOf v size s = p at HW H1
    generalize manyOf v size s = n at HW H1
    generalize v / s = q at HW H2 hfr
    unfold pr at H2
    simp only [wins_length] at H1
    have hn64 := HW.out.many
    have HO : Hid (size = s → 0 < n → n = 1) := fun e h => by subst e; exact HW.out.one hs h
    have HNO : Hid (n = 0 → q * s ≤ v - size ∧ size < s) := fun e => by subst e; exact HW.out.none hs
    unfold Span at hz hs
    unfold Point at hv
    go_enter Try.func5, Try.ntmps5
    go_wp2_with fail
    refine (H1.out _).mono ?_
    rintro e w1 ⟨a1, c1, rfl, n1, g1⟩
    replace HB := on_B HB g1
    have N1 := hid' n1
    clear g1 H1 n1
    go_wp2_with fail
    refine (HC.out _ _).mono ?_
    rintro e w2 ⟨rfl, rfl⟩
    go_wp2
    go_loopg [9] n (fun k i wr => ∃ j : Nat, j + k = n ∧ i = .int .i64 (j : Int) ∧ Gr w2 wr)
    case atStart => exact ⟨0, by omega, rfl, Gr.refl _⟩
    case round =>
      obtain ⟨j, hj, rfl, hg⟩ := hrel
      cases gk with
      | zero =>
        obtain rfl : n = j := by omega
        replace HB := on_B HB hg.below
        replace N1 := hid' (N1.out.gr hg)
        clear hg
        cases n with
        | zero =>
          obtain ⟨h1, h2⟩ := HNO.out rfl
          have i1 : size ≤ v - q * s := by omega
          generalize q * s = t at *
          go_wp2_with fail
          refine (H2.out _).mono ?_
          rintro e w3 ⟨rfl, rfl⟩
          go_wp2_with fail
          refine (HC.out _ _).mono ?_
          rintro e w4 ⟨rfl, rfl⟩
          go_wp2_with fail
          refine (HL.out _).mono ?_
          rintro e w5 ⟨rfl, g5⟩
          replace HB := on_B HB g5
          go_wp2
          go_ret
          exact ⟨rfl, HB.out⟩
        | succ m =>
          have hl0 : 0 < (wins p s (m + 1)).length := by rw [wins_length]; omega
          have hlm : m < (wins p s (m + 1)).length := by rw [wins_length]; omega
          obtain ⟨b1, o1, rfl, hB1, hc1⟩ := N1.out.cells (by intro h; rw [h] at hl0; simp at hl0)
          have p1 := hc1 m hlm
          have p2 := hc1 0 hl0
          rw [wins_get _ _ _ _ (by omega)] at p1 p2
          rw [Nat.add_zero] at p2
          have r1 := HW.out.range m (by omega)
          have r2 := HW.out.range 0 (by omega)
          have h1 := HW.out.behind
          have h2 := HW.out.ahead
          have e1 : (p + ((m + 1 : Nat) : Int)) * s = (p + (m : Int)) * s + s := by
            rw [show p + ((m + 1 : Nat) : Int) = p + (m : Int) + 1 by omega, Int.add_mul (p + (m : Int)) 1 s, Int.one_mul]
          have e2 : (p - 1) * s = (p + ((0 : Nat) : Int)) * s - s := by
            rw [Int.natCast_zero, Int.add_zero, Int.sub_mul, Int.one_mul]
          rw [e1] at h1
          rw [e2] at h2
          have hone := HO.out
          have hxy : m = 0 → (p + (m : Int)) * s = (p + ((0 : Nat) : Int)) * s := fun h => by rw [h]
          clear hc1 e1 e2 hl0 hlm
          generalize (p + (m : Int)) * s = x at *
          generalize (p + ((0 : Nat) : Int)) * s = y at *
          obtain ⟨n, hn⟩ : ∃ n, n = m + 1 := ⟨_, rfl⟩
          rw [← hn] at hone hn64 N1 ⊢
          have en : (n : Int) - 1 = (m : Int) := by omega
          have hn0 : 0 < (n : Int) := by omega
          have hnn : 0 < n := by omega
          have hmn : m < n := by omega
          have hne : ¬ (n : Int) = 0 := by omega
          have hne' : ¬ n = 0 := by omega
          have HI := hid' hn
          have i1 : decide (x + s ≤ v) = false := decide_eq_false (by omega)
          have i2 : decide (v - (y - s) < size) = false := decide_eq_false (by omega)
          clear hn HO HNO H2 HW
          by_cases hss : size = s
          · obtain rfl : n = 1 := hone hss hnn
            obtain rfl : m = 0 := by omega
            have hxy' := hxy rfl
            subst hxy'
            subst hss
            clear hone en HI p1 hxy
            go_wp2_with fail
            refine (HL.out _).mono ?_
            rintro e w5 ⟨rfl, g5⟩
            replace HB := on_B HB g5
            go_wp2
            go_ret
            exact ⟨rfl, HB.out⟩
          · have i3 : (size == s) = false := by simpa using hss
            clear hone hxy
            go_wp2_with fail
            refine (HL.out _).mono ?_
            rintro e w5 ⟨rfl, g5⟩
            replace HB := on_B HB g5
            go_wp2
            go_ret
            exact ⟨rfl, HB.out⟩
      | succ k =>
        have hjl : j < (wins p s n).length := by rw [wins_length]; omega
        obtain ⟨b1, o1, rfl, hB1, hc1⟩ := (N1.out.gr hg).cells (by intro h; rw [h] at hjl; simp at hjl)
        have p1 := hc1 j hjl
        rw [wins_get _ _ _ _ (by omega)] at p1
        have hh := HW.out.holds j (by omega)
        have hr := HW.out.range j (by omega)
        have hd : ((p + (j : Int)) * s).tmod s = 0 := Int.mul_tmod_left _ _
        have hs0 : ¬ s = 0 := by omega
        cases j with
        | zero =>
          generalize (p + ((0 : Nat) : Int)) * s = x at *
          rw [Nat.add_zero] at p1
          have i1 : decide (v < x) = false := decide_eq_false (by omega)
          have i2 : decide (size ≤ v - x) = false := decide_eq_false (by omega)
          clear hc1 HC HL
          go_wp2_with fail
          go_quiet (fail)
          go_wp2
          go_roundg k
          case measure => omega
          case rel => exact ⟨1, by omega, rfl, hg.drewN _⟩
        | succ j =>
          have p2 := hc1 j (by omega)
          rw [wins_get _ _ _ _ (by omega)] at p2
          have hr2 := HW.out.range j (by omega)
          have hx : (p + ((j + 1 : Nat) : Int)) * s = (p + (j : Int)) * s + s := by
            rw [show p + ((j + 1 : Nat) : Int) = p + (j : Int) + 1 by omega, Int.add_mul (p + (j : Int)) 1 s, Int.one_mul]
          generalize (p + ((j + 1 : Nat) : Int)) * s = x at *
          generalize (p + (j : Int)) * s = y at *
          have i1 : decide (v < x) = false := decide_eq_false (by omega)
          have i2 : decide (size ≤ v - x) = false := decide_eq_false (by omega)
          have i3 : x - y = s := by omega
          obtain ⟨i, hi⟩ : ∃ i, i = j + 1 := ⟨_, rfl⟩
          rw [← hi] at p1 hj hjl ⊢
          have ei : (i : Int) - 1 = (j : Int) := by omega
          have hi0 : decide (0 < (i : Int)) = true := decide_eq_true (by omega)
          have hi1 : decide (0 < i) = true := decide_eq_true (by omega)
          have hil : i < n := by omega
          have HI := hid' hi
          clear hc1 HC HL hx hi
          go_wp2_with fail
          go_quiet (fail)
          go_wp2
          go_roundg k
          case measure => omega
          case rel => exact ⟨i + 1, by omega, by simp, hg.drewN _⟩
  · have hb : ∃ c : Int, bkT v size s = ([], c) ∧ c ≠ 0 := by
      unfold bkT
      by_cases h1 : chkT size s = 0
      · rw [if_pos h1, if_neg (fun h => hc ⟨h1, h⟩)]; exact ⟨60, rfl, by decide⟩
      · rw [if_neg h1]; exact ⟨_, rfl, h1⟩
    obtain ⟨c, hR, hc0⟩ := hb
    have H1 := hid' (fun w => Buckets_B v size s [] c w hR)
    simp only [List.length_nil] at H1
    have hne : (c == 0) = false := by simpa using hc0
    clear hR hc
    go_enter Try.func5, Try.ntmps5
    go_wp2_with fail
    refine (H1.out _).mono ?_
    rintro e w1 ⟨a1, c1, rfl, n1, g1⟩
    replace HB := on_B HB g1
    clear g1 H1 n1
    go_wp2_with fail
    refine (HC.out _ _).mono ?_
    rintro e w2 ⟨rfl, rfl⟩
    go_wp2_with fail
    refine (HL.out _).mono ?_
    rintro e w3 ⟨rfl, g3⟩
    replace HB := on_B HB g3
    go_wp2
    go_ret
    exact ⟨rfl, HB.out⟩

end Go.Proofs.Ytioldkilfeemfaa
