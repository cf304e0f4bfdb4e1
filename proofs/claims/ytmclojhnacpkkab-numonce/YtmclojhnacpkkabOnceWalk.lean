/-
  What is proved here: the law NumOnce answers true for all bytes and every place and writes nothing that was there.
-/
import Derived.Test.YtmclojhnacpkkabOrdersWalk
import Derived.Test.YtmclojhnacpkkabStrs
import Derived.Deep.RegionWith
namespace Go.Proofs.Ytmclojhnacpkkab
open Go.RowKit
set_option linter.unusedVariables false


theorem GetRel.no {l : List Int} {at' n next e : Int} (h : GetRel l at' n next e) (he : e ≠ 0) : n = 0 ∧ next = 0 := by
  rcases h with ⟨a, rfl, rfl, rfl⟩ | ⟨a, b, c, d, rfl, rfl⟩ | ⟨a, b, c, rfl, rfl, rfl⟩ <;> simp_all

theorem str_ref (l : List Int) : ((strOfNums l).toList == (strOfNums l).toList) = true := by simp

theorem GetRel.yes {l : List Int} {at' n next : Int} (h : GetRel l at' n next 0) : 0 ≤ at' ∧ 0 ≤ n ∧ n ≤ 18446744073709551615 ∧ (l.drop at'.toNat).take (sz n.toNat) = bytesOf n.toNat ∧ next = at' + sz n.toNat ∧ next ≤ l.length := by
  rcases h with ⟨a, rfl, rfl, e⟩ | ⟨a, b, c, d, rfl, e⟩ | ⟨a, b, c, rfl, rfl, e⟩
  · omega
  · have h1 := d.1
    have h2 := congrArg List.length d.2
    rw [length_bytesOf, List.length_take, List.length_drop] at h2
    refine ⟨a, c, by omega, d.2, rfl, ?_⟩
    have := sz_pos n.toNat
    omega
  · omega

theorem close2 {w w2 w4 : World} (h2 : Below w2.heap.size w2 w4) (h1 : Below w.drew.heap.size w.drew w2) : Below w.heap.size w w4 :=
  ((Below.refl _ _).drew.trans h1).trans (h2.mono h1.size)

/-- A part of bytes. -/
theorem Bts.part {B : Nat} {w : World} {b off : Nat} {l : List Int} (h : Bts B w (some ⟨b, off, none⟩) l) (i n : Nat) : Bts B w (some ⟨b, off + i, none⟩) ((l.drop i).take n) := by
  refine ⟨fun z hz => h.range z (List.mem_of_mem_drop (List.mem_of_mem_take hz)), fun hl => ?_⟩
  have hne : l ≠ [] := by rintro rfl; simp at hl
  obtain ⟨b', off', e, hB, hc⟩ := h.cells hne
  cases e
  refine ⟨b, off + i, rfl, hB, fun j hj => ?_⟩
  rw [List.length_take, List.length_drop] at hj
  rw [Nat.add_assoc, hc (i + j) (by omega)]
  simp [List.getD, List.getElem?_take_of_lt (show j < n by omega)]

set_option maxRecDepth 100000 in
set_option maxHeartbeats 4000000 in
theorem once_walk (w : World) (a : Option Addr) (cap : Nat) (l : List Int) (at' : Int) (hb : Bts w.heap.size w a l) (hc : l.length ≤ cap) (ha : -9223372036854775808 ≤ at' ∧ at' ≤ 9223372036854775807) :
    Calls Try.prog 3 #[.slice a l.length cap, .int .i64 at'] w fun e w' => e = .returned (.bool true) ∧ Below w.heap.size w w' := by
  by_cases hlen : 5000 < l.length
  · go_enter Try.func3, Try.ntmps3
    go_wp2_with fail
    refine (live_any w).mono ?_
    rintro e w3 ⟨rfl, hb3⟩
    go_wp2
    go_ret
    exact ⟨rfl, hb3⟩
  · go_enter Try.func3, Try.ntmps3
    go_wp2_with fail
    refine (get_any w a cap l at' hb hc (by omega)).mono ?_
    rintro e w' ⟨⟨n, next, er, rfl, hrel⟩, rfl⟩
    go_wp2_with fail
    refine (code_any er w').mono ?_
    rintro e w1 ⟨rfl, rfl⟩
    by_cases her : er = 0
    · subst her
      obtain ⟨g0, g1, g2, g3, rfl, g5⟩ := hrel.yes
      obtain ⟨k, rfl⟩ := Int.eq_ofNat_of_zero_le g0
      have hs1 := sz_pos n.toNat
      have hne : l ≠ [] := by rintro rfl; simp at g5; omega
      obtain ⟨b, off, rfl, hB, _⟩ := hb.cells hne
      have hp := hb.part k (sz n.toNat)
      rw [Int.toNat_natCast] at g3
      rw [g3] at hp
      clear hrel hne
      have hgo : Hid (∀ W : World, Below w1.heap.size w1 W → (convert 22 9 (.slice (some ⟨b, off + k, none⟩) (sz n.toNat) (cap - k))).run Try.prog W = .ok (.string (strOfNums (bytesOf n.toNat))) W) := fun W hW => (hp.keep hW).conv _ _ (length_bytesOf _)
      have hput : Hid (∀ W : World, Calls Try.prog 8 #[.slice none 0 0, .int .u64 n] W fun e w' => ∃ g c, e = .returned (.slice (some ⟨g, 0, none⟩) (sz n.toNat) c) ∧ (convert 22 9 (.slice (some ⟨g, 0, none⟩) (sz n.toNat) c)).run Try.prog w' = .ok (.string (strOfNums (bytesOf n.toNat))) w' ∧ Below W.heap.size W w') :=
        fun W => (put_nil W n g1 g2).mono fun e w' ⟨g, c, he, hbt, hbl⟩ => ⟨g, c, he, hbt.conv _ c (length_bytesOf _), hbl⟩
      have hsize : Hid (∀ W : World, Calls Try.prog 9 #[.int .u64 n] W fun e w' => e = .returned (.int .i64 (sz n.toNat : Int)) ∧ w' = W) := fun W => size_any n W g1 g2
      have hs10 := sz_le_ten n.toNat (by omega)
      clear hp hb g3
      generalize sz n.toNat = s at *
      generalize strOfNums (bytesOf n.toNat) = S at *
      have hkc : (k : Int) + (s : Int) ≤ (cap : Int) := by omega
      have hkn : ¬ k = cap := by omega
      have hkn2 : ¬ cap = k := by omega
      have hcut : ((k : Int) + (s : Int)).toNat - k = s := by omega
      have hwr : IntKind.i64.wrap ((k : Int) + (s : Int) - (k : Int)) = (s : Int) := by rw [IntKind.wrap_i64]; omega
      have hw0 := hgo.out w1.drew ((Below.refl _ _).drew)
      go_wp2_with fail
      go_region_with (first
        | (go_at_call 8; refine (hput.out _).mono ?_; rintro e w2 ⟨g, c, rfl, hcv, hbl⟩; have hw2 := hgo.out w2 ((Below.refl _ _).drew.trans hbl))
        | (go_at_call 9; refine (hsize.out _).mono ?_; rintro e w3 ⟨rfl, rfl⟩)
        | (go_at_call 5; refine (live_any _).mono ?_; rintro e w4 ⟨rfl, hb4⟩))
      all_goals go_wp2
      all_goals go_ret
      all_goals exact ⟨rfl, close2 (by assumption) (by assumption)⟩
    · obtain ⟨rfl, rfl⟩ := hrel.no her
      have hne : (er == 0) = false := by simpa using her
      go_wp2_with fail
      refine (live_any w1).mono ?_
      rintro e w3 ⟨rfl, hb3⟩
      go_wp2
      go_ret
      exact ⟨rfl, hb3⟩
end Go.Proofs.Ytmclojhnacpkkab
