/-
  What is proved here: the law NumOrders answers true for every two numbers and writes nothing that was there.
-/
import Derived.Test.YtmclojhnacpkkabLive
import Derived.Test.YtmclojhnacpkkabStrs
namespace Go.Proofs.Ytmclojhnacpkkab
open Go.RowKit
set_option linter.unusedVariables false

/-- Put behind nothing. -/
theorem put_nil (w : World) (n : Int) (h0 : 0 ≤ n) (h1 : n ≤ 18446744073709551615) : Calls Try.prog 8 #[.slice none 0 0, .int .u64 n] w fun e w' => ∃ g c, e = .returned (.slice (some ⟨g, 0, none⟩) (sz n.toNat) c) ∧
    Bts w'.heap.size w' (some ⟨g, 0, none⟩) (bytesOf n.toNat) ∧ Below w.heap.size w w' := by
  refine (put_any w none 0 [] n (Bts.nil _ _ _) (by simp) h0 h1).mono ?_
  rintro e w2 ⟨g, c, rfl, hown, hbel⟩
  have hs := Bts.of_owns hown (by intro z hz; rw [List.nil_append] at hz; exact enc_range _ _ z hz)
  rw [List.nil_append] at hs
  refine ⟨g, c, ?_, hs, hbel⟩
  simp

set_option maxHeartbeats 1000000 in
theorem orders_walk (a0 : Int) (a1 : Int) (w : World) (h0 : 0 ≤ a0) (h0' : a0 ≤ 18446744073709551615) (h1 : 0 ≤ a1) (h1' : a1 ≤ 18446744073709551615) :
    Calls Try.prog 4 #[.int .u64 a0, .int .u64 a1] w fun e w' => e = .returned (.bool true) ∧ Below w.heap.size w w' := by
  have hs0 := sz_le_ten a0.toNat (by omega)
  have hs1 := sz_le_ten a1.toNat (by omega)
  go_enter Try.func4, Try.ntmps4
  go_wp2_with fail
  refine (put_nil w a0 h0 h0').mono ?_
  rintro e w1 ⟨g1, c1, rfl, hb1, hbel1⟩
  go_wp2_with fail
  refine (put_nil w1 a1 h1 h1').mono ?_
  rintro e w2 ⟨g2, c2, rfl, hb2, hbel2⟩
  have hb1' := hb1.keep hbel2
  have hbel := hbel1.trans (hbel2.mono hbel1.size)
  have hc1 := hb1'.conv (sz a0.toNat) c1 (length_bytesOf _)
  have hc2 := hb2.conv (sz a1.toNat) c2 (length_bytesOf _)
  have hz : w.heap.size ≤ w2.heap.size := hbel.size
  clear hb1 hb2 hb1' hbel1 hbel2
  by_cases hlt : a0 < a1
  · by_cases hsz : sz a0.toNat < sz a1.toNat
    · go_wp2_with fail
      refine (live_any w2).mono ?_
      rintro e w3 ⟨rfl, hb3⟩
      go_wp2
      go_ret
      exact ⟨rfl, hbel.trans (hb3.mono hz)⟩
    · have hm := sz_mono (show a0.toNat ≤ a1.toNat by omega)
      have hle := num_less a0 a1 h0 h1 hlt (by omega)
      go_wp2_with fail
      refine (live_any w2).mono ?_
      rintro e w3 ⟨rfl, hb3⟩
      go_wp2
      go_ret
      exact ⟨rfl, hbel.trans (hb3.mono hz)⟩
  · have heq := num_eq_of a0 a1 h0 h1
    go_wp2_with fail
    refine (live_any w2).mono ?_
    rintro e w3 ⟨rfl, hb3⟩
    go_wp2
    go_ret
    exact ⟨rfl, hbel.trans (hb3.mono hz)⟩
end Go.Proofs.Ytmclojhnacpkkab
