/-
  What is proved here: TraceMany, call by call.
-/
import Derived.Test.YtlamcgeboclkjaaLiveT
namespace Go.Proofs.Ytlamcgeboclkjaa
open Go.RowKit Go.Maps
set_option linter.unusedVariables false
set_option linter.unusedSimpArgs false

/-- How the trace stands behind j calls of Open. -/
def Inv (w : World) (G S M j : Nat) (wr : World) : Prop := St wr G S M (min j 64) (fun z => 0 ≤ z ∧ z < (min j 64 : Nat)) (min j 64) f0 (min j 64) (0, 0) ∧ Below w.heap.size w wr

set_option maxRecDepth 10000 in
set_option maxHeartbeats 4000000 in
theorem many_out (n : Int) (w : World) (hn : n < 0 ∨ 70 < n) : Calls Try.prog 3 #[.int .i64 n] w fun e w' => e = .returned (.bool true) ∧ Below w.heap.size w w' := by
  by_cases hneg : n < 0
  · go_enter Try.func3, Try.ntmps3
    go_wp2_with fail
    refine (tNew_any f0 w).mono ?_
    rintro e w1 ⟨G, S, M, rfl, hG, hS, hM, hst, hb1⟩
    clear hst
    have B1 := hid' hb1
    clear hb1
    go_wp2_with fail
    refine (code_any 0 w1).mono ?_
    rintro e w' ⟨rfl, rfl⟩
    go_wp2_with fail
    refine (live_many w').mono ?_
    rintro e w2 ⟨rfl, hb2⟩
    have B2 := hid' (B1.out.trans (hb2.mono B1.out.size))
    clear hb2
    go_wp2
    go_ret
    exact ⟨rfl, B2.out⟩
  · have hbig : 70 < n := by omega
    go_enter Try.func3, Try.ntmps3
    go_wp2_with fail
    refine (tNew_any f0 w).mono ?_
    rintro e w1 ⟨G, S, M, rfl, hG, hS, hM, hst, hb1⟩
    clear hst
    have B1 := hid' hb1
    clear hb1
    go_wp2_with fail
    refine (code_any 0 w1).mono ?_
    rintro e w' ⟨rfl, rfl⟩
    go_wp2_with fail
    refine (live_many w').mono ?_
    rintro e w2 ⟨rfl, hb2⟩
    have B2 := hid' (B1.out.trans (hb2.mono B1.out.size))
    clear hb2
    go_wp2
    go_ret
    exact ⟨rfl, B2.out⟩

set_option maxRecDepth 10000 in
set_option maxHeartbeats 4000000 in
theorem many_in (N : Nat) (w : World) (hN : N ≤ 70) : Calls Try.prog 3 #[.int .i64 (N : Int)] w fun e w' => e = .returned (.bool true) ∧ Below w.heap.size w w' := by
  go_enter Try.func3, Try.ntmps3
  go_wp2_with fail
  refine (tNew_any f0 w).mono ?_
  rintro e w1 ⟨G, S, M, rfl, hG, hS, hM, hst, hb1⟩
  have HI : Hid (Inv w G S M 0 w1) := ⟨hst.iff (fun z => by simp), hb1⟩
  clear hst hb1
  go_wp2_with fail
  refine (code_any 0 w1).mono ?_
  rintro e w' ⟨rfl, rfl⟩
  go_wp2
  go_loopg [5] N (fun k i wr => ∃ j : Nat, j + k = N ∧ i = .int .i64 (j : Int) ∧ Hid (Inv w G S M j wr))
  case atStart => exact ⟨0, by omega, rfl, HI⟩
  case round =>
    obtain ⟨j, hj, rfl, hI⟩ := hrel
    cases gk with
    | zero =>
      obtain rfl : j = N := by omega
      by_cases h0 : j = 0
      · subst h0
        have HB := hid' hI.out.2
        clear hI
        go_wp2_with fail
        refine (live_many wr).mono ?_
        rintro e w5 ⟨rfl, hb5⟩
        have B5 := hid' (HB.out.trans (hb5.mono HB.out.size))
        clear hb5 HB
        go_wp2
        go_ret
        exact ⟨rfl, B5.out⟩
      · by_cases h64 : 64 < j
        · have hpos : 0 < j := by omega
          have HS := hid' hI.out.1
          rw [show min j 64 = 64 by omega] at HS
          have HB := hid' hI.out.2
          clear hI
          go_wp2_with fail
          refine (close_any HS.out 0 (by unfold R64; omega) ⟨by omega, by omega⟩ (by omega) (0, 0) (fun h1 => ⟨⟨1, ⟨⟨by omega, by omega⟩, by omega⟩, rfl⟩, fun q _ => by simp [f0, le2], check00, by decide⟩) (fun _ => rfl)).mono ?_
          rintro e w2 ⟨rfl, hst, hkp⟩
          have H2 := hid' hst
          have B2 := hid' (hkp.below HB.out (Nat.le_refl _) hG hS hM)
          clear hst hkp HB HS
          go_wp2_with fail
          refine (open_new H2.out (0, 0) RT.zero check00 (by decide) (by omega) (by omega) (by omega) (by omega) rfl).mono ?_
          rintro e w3 ⟨rfl, hst, hkp⟩
          rw [show 64 - 1 + 1 = 64 by omega] at hst
          have H3 := hid' hst
          have B3 := hid' (hkp.below B2.out (Nat.le_refl _) hG hS hM)
          clear hst hkp B2 H2
          go_wp2_with fail
          refine (code_any 0 w3).mono ?_
          rintro e w' ⟨rfl, rfl⟩
          go_wp2_with fail
          refine (code_any 0 w').mono ?_
          rintro e w' ⟨rfl, rfl⟩
          go_wp2_with fail
          refine (readers_any H3.out (by omega)).mono ?_
          rintro e w4 ⟨a4, c4, rfl, hb4⟩
          have B4 := hid' (B3.out.trans (hb4.mono B3.out.size))
          clear hb4 B3 H3
          go_wp2_with fail
          refine (live_many w4).mono ?_
          rintro e w5 ⟨rfl, hb5⟩
          have B5 := hid' (B4.out.trans (hb5.mono B4.out.size))
          clear hb5 B4
          go_wp2
          go_ret
          exact ⟨rfl, B5.out⟩
        · have hpos : 0 < j := by omega
          have HS := hid' hI.out.1
          rw [show min j 64 = j by omega] at HS
          have HB := hid' hI.out.2
          clear hI
          go_wp2_with fail
          refine (close_any HS.out 0 (by unfold R64; omega) ⟨by omega, by omega⟩ (by omega) (0, 0) (fun h1 => ⟨⟨1, ⟨⟨by omega, by omega⟩, by omega⟩, rfl⟩, fun q _ => by simp [f0, le2], check00, by decide⟩) (fun _ => rfl)).mono ?_
          rintro e w2 ⟨rfl, hst, hkp⟩
          have H2 := hid' hst
          have B2 := hid' (hkp.below HB.out (Nat.le_refl _) hG hS hM)
          clear hst hkp HB HS
          go_wp2_with fail
          refine (open_new H2.out (0, 0) RT.zero check00 (by decide) (by omega) (by omega) (by omega) (by omega) rfl).mono ?_
          rintro e w3 ⟨rfl, hst, hkp⟩
          rw [show j - 1 + 1 = j by omega] at hst
          have H3 := hid' hst
          have B3 := hid' (hkp.below B2.out (Nat.le_refl _) hG hS hM)
          clear hst hkp B2 H2
          go_wp2_with fail
          refine (code_any 0 w3).mono ?_
          rintro e w' ⟨rfl, rfl⟩
          go_wp2_with fail
          refine (code_any 0 w').mono ?_
          rintro e w' ⟨rfl, rfl⟩
          go_wp2_with fail
          refine (readers_any H3.out (by omega)).mono ?_
          rintro e w4 ⟨a4, c4, rfl, hb4⟩
          have B4 := hid' (B3.out.trans (hb4.mono B3.out.size))
          clear hb4 B3 H3
          go_wp2_with fail
          refine (live_many w4).mono ?_
          rintro e w5 ⟨rfl, hb5⟩
          have B5 := hid' (B4.out.trans (hb5.mono B4.out.size))
          clear hb5 B4
          go_wp2
          go_ret
          exact ⟨rfl, B5.out⟩
    | succ k =>
      have hjN : j < N := by omega
      by_cases h64 : j < 64
      · have hm : min j 64 = j := by omega
        have HS := hid' hI.out.1
        rw [hm] at HS
        have HB := hid' hI.out.2
        clear hI
        go_wp2_with fail
        refine (open_new HS.out (0, 0) RT.zero check00 (by decide) (by omega) (by omega) (by omega) (by omega) rfl).mono ?_
        rintro e w2 ⟨rfl, hst, hkp⟩
        have HI2 : Hid (Inv w G S M (j + 1) w2) := ⟨by rw [show min (j + 1) 64 = j + 1 by omega]; exact hst.iff (fun z => by omega), hkp.below HB.out (Nat.le_refl _) hG hS hM⟩
        clear hst hkp
        go_wp2_with fail
        refine (code_any 0 w2).mono ?_
        rintro e w' ⟨rfl, rfl⟩
        go_wp2
        go_roundg k
        case measure => omega
        case rel => exact ⟨j + 1, by omega, by simp, HI2⟩
      · have hm : min j 64 = 64 := by omega
        have HS := hid' hI.out.1
        rw [hm] at HS
        have HB := hid' hI.out.2
        clear hI
        go_wp2_with fail
        refine (open_new_many HS.out (0, 0) RT.zero check00 (by decide) (by omega)).mono ?_
        rintro e w2 ⟨rfl, hb2⟩
        have HI2 : Hid (Inv w G S M (j + 1) w2) := ⟨by rw [show min (j + 1) 64 = 64 by omega]; exact HS.out.on hb2, HB.out.trans (hb2.mono HB.out.size)⟩
        clear hb2
        go_wp2_with fail
        refine (code_any 3 w2).mono ?_
        rintro e w' ⟨rfl, rfl⟩
        go_wp2
        go_roundg k
        case measure => omega
        case rel => exact ⟨j + 1, by omega, by simp, HI2⟩

end Go.Proofs.Ytlamcgeboclkjaa
