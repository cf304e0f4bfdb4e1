/-
  What is proved here: the law NumOnce answers true for all bytes and every place and writes nothing that was there.
-/
import Derived.Test.YtmclojhnacpkkabOrdersWalk
import Derived.Test.YtmclojhnacpkkabStrs
import Derived.Deep.RegionWith
namespace Go.Proofs.Ytmclojhnacpkkab
open Go.RowKit
set_option linter.unusedVariables false


theorem str_ref (l : List Int) : ((strOfNums l).toList == (strOfNums l).toList) = true := by simp

theorem close2 {w w2 w4 : World} (h2 : Below w2.heap.size w2 w4) (h1 : Below w.drew.heap.size w.drew w2) : Below w.heap.size w w4 :=
  ((Below.refl _ _).drew.trans h1).trans (h2.mono h1.size)

set_option maxRecDepth 100000 in
set_option maxHeartbeats 4000000 in
theorem once_walk (w : World) (a : Option Addr) (cap : Nat) (l : List Int) (at' : Int) (hb : Bts w.heap.size w a l) (hc : l.length ≤ cap) (ha : -9223372036854775808 ≤ at' ∧ at' ≤ 9223372036854775807) :
    Calls Try.prog 3 #[.slice a l.length cap, .int .i64 at'] w fun e w' => e = .returned (.bool true) ∧ Below w.heap.size w w' := by
  by_cases hlen : 5000 < l.length
  · go_enter Try.func3, Try.ntmps3
    go_wp2_with fail
    refine (live_any w).mono ?_
    rintro e w3 ⟨rfl, hb3⟩
    go_wp2
    go_ret
    exact ⟨rfl, hb3⟩
  · go_enter Try.func3, Try.ntmps3
    go_wp2_with fail
    refine (get_any w a cap l at' hb hc (by omega)).mono ?_
    rintro e w' ⟨⟨n, next, er, rfl, hrel⟩, rfl⟩
    go_wp2_with fail
    refine (code_any er w').mono ?_
    rintro e w1 ⟨rfl, rfl⟩
    by_cases her : er = 0
    · subst her
      obtain ⟨g0, g1, g2, g3, rfl, g5, _⟩ := hrel.yes
      obtain ⟨k, rfl⟩ := Int.eq_ofNat_of_zero_le g0
      have hs1 := sz_pos n.toNat
      have hne : l ≠ [] := by rintro rfl; simp at g5; omega
      obtain ⟨b, off, rfl, hB, _⟩ := hb.cells hne
      have hp := hb.part k (sz n.toNat)
      rw [Int.toNat_natCast] at g3
      rw [g3] at hp
      clear hrel hne
      have hgo : Hid (∀ W : World, Below w1.heap.size w1 W → (convert 22 9 (.slice (some ⟨b, off + k, none⟩) (sz n.toNat) (cap - k))).run Try.prog W = .ok (.string (strOfNums (bytesOf n.toNat))) W) := fun W hW => (hp.keep hW).conv _ _ (length_bytesOf _)
      have hput : Hid (∀ W : World, Calls Try.prog 8 #[.slice none 0 0, .int .u64 n] W fun e w' => ∃ g c, e = .returned (.slice (some ⟨g, 0, none⟩) (sz n.toNat) c) ∧ (convert 22 9 (.slice (some ⟨g, 0, none⟩) (sz n.toNat) c)).run Try.prog w' = .ok (.string (strOfNums (bytesOf n.toNat))) w' ∧ Below W.heap.size W w') :=
        fun W => (put_nil W n g1 g2).mono fun e w' ⟨g, c, he, hbt, hbl⟩ => ⟨g, c, he, hbt.conv _ c (length_bytesOf _), hbl⟩
      have hsize : Hid (∀ W : World, Calls Try.prog 9 #[.int .u64 n] W fun e w' => e = .returned (.int .i64 (sz n.toNat : Int)) ∧ w' = W) := fun W => size_any n W g1 g2
      have hs10 := sz_le_ten n.toNat (by omega)
      clear hp hb g3
      generalize sz n.toNat = s at *
      generalize strOfNums (bytesOf n.toNat) = S at *
      have hkc : (k : Int) + (s : Int) ≤ (cap : Int) := by omega
      have hkn : ¬ k = cap := by omega
      have hkn2 : ¬ cap = k := by omega
      have hcut : ((k : Int) + (s : Int)).toNat - k = s := by omega
      have hwr : IntKind.i64.wrap ((k : Int) + (s : Int) - (k : Int)) = (s : Int) := by rw [IntKind.wrap_i64]; omega
      have hw0 := hgo.out w1.drew ((Below.refl _ _).drew)
      go_wp2_with fail
      go_region_with (first
        | (go_at_call 8; refine (hput.out _).mono ?_; rintro e w2 ⟨g, c, rfl, hcv, hbl⟩; have hw2 := hgo.out w2 ((Below.refl _ _).drew.trans hbl))
        | (go_at_call 9; refine (hsize.out _).mono ?_; rintro e w3 ⟨rfl, rfl⟩)
        | (go_at_call 5; refine (live_any _).mono ?_; rintro e w4 ⟨rfl, hb4⟩))
      all_goals go_wp2
      all_goals go_ret
      all_goals exact ⟨rfl, close2 (by assumption) (by assumption)⟩
    · obtain ⟨rfl, rfl⟩ := hrel.no her
      have hne : (er == 0) = false := by simpa using her
      go_wp2_with fail
      refine (live_any w1).mono ?_
      rintro e w3 ⟨rfl, hb3⟩
      go_wp2
      go_ret
      exact ⟨rfl, hb3⟩
end Go.Proofs.Ytmclojhnacpkkab
