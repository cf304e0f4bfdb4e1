/-
  What is proved here: the document's own Bytes gives a number's groups in new memory.
-/
import Derived.Test.YtgalmkhgbokidaaWorld
namespace Go.Proofs.Ytgalmkhgbokidaa
open Go.RowKit
set_option maxRecDepth 20000
set_option linter.unusedVariables false

/-- The loop's relation. -/
def BytesLoop (w : World) (n : Nat) (nv out : Value) (wr : World) : Prop :=
  ∃ j g c m : Nat, nv = .int .u64 (m : Int) ∧ out = .slice (some ⟨g, 0, none⟩) (j + 1) c ∧ m = n / 128 ^ (j + 1) ∧ wr.ownsRow w.heap.size 5 1 (.slice (some ⟨g, 0, none⟩) (j + 1) c) (j + 1) (B8 (enc n (j + 1))) ∧
    Below w.heap.size w wr ∧ (j = 0 ∨ 128 ^ j ≤ n)

theorem owns_form {w : World} {base : Nat} {v : Value} {n : Nat} {xs : List Value} (h : w.ownsRow base 5 1 v (n + 1) xs) : ∃ g c, v = .slice (some ⟨g, 0, none⟩) (n + 1) c := by
  rcases h.2 with ⟨_, h⟩ | ⟨g, cap, cur, hv, _⟩
  · omega
  · exact ⟨g, cap, hv⟩

theorem owns_lit_one (w : World) (B : Nat) (hB : B ≤ w.heap.size) (z : Int) : (w.alloc (.cells #[.int .u8 z] 5)).ownsRow B 5 1 (.slice (some ⟨w.heap.size, 0, none⟩) 1 1) 1 (B8 [z]) := by
  have h := World.ownsRow_lit (base := B) (e := 5) (size := 1) w #[.int .u8 z] 1 hB (by decide) rfl
  simpa [B8] using h

theorem bytes_step {w wr w1 : World} {n j m : Nat} {v : Value} {o : Obj} (hm : m = n / 128 ^ (j + 1)) (hn : 0 < m) (hbel : Below w.heap.size w wr)
    (hown : w1.ownsRow w.heap.size 5 1 v (1 + (j + 1)) (B8 [(m : Int) % 128 + 128] ++ B8 (enc n (j + 1)))) (hgrow : (wr.alloc o).grownBy w1 (some wr.heap.size)) :
    BytesLoop w n (.int .u64 ((m : Int) / 128)) v w1 := by
  have hz := hbel.size
  rw [Nat.add_comm 1 (j + 1)] at hown
  obtain ⟨g', c', rfl⟩ := owns_form hown
  have e1 : B8 [(m : Int) % 128 + 128] ++ B8 (enc n (j + 1)) = B8 (enc n (j + 1 + 1)) := by
    rw [← B8_append]
    congr 1
    show _ = grp n (j + 1) :: enc n (j + 1)
    rw [List.singleton_append]
    congr 1
    unfold grp
    rw [if_neg (by omega), ← hm]
    omega
  rw [e1] at hown
  refine ⟨j + 1, g', c', m / 128, by simp, rfl, ?_, hown, (hbel.alloc hz o).grown hgrow (by simp; omega) (fun k hk => by cases hk; omega), Or.inr ?_⟩
  · rw [Nat.pow_succ 128 (j + 1), ← Nat.div_div_eq_div_mul, hm]
  · rcases Nat.lt_or_ge n (128 ^ (j + 1)) with h | h
    · rw [Nat.div_eq_of_lt h] at hm; omega
    · exact h

theorem bytes_start (w : World) (n : Nat) : BytesLoop w n (.int .u64 ((n : Int) / 128)) (.slice (some ⟨w.heap.size, 0, none⟩) 1 1) (w.alloc (.cells #[.int .u8 ((n : Int) % 128)] 5)) := by
  refine ⟨0, w.heap.size, 1, n / 128, by simp, rfl, by simp, ?_, (Below.refl _ _).alloc (Nat.le_refl _) _, Or.inl rfl⟩
  have e : enc n 1 = [(n : Int) % 128] := by simp [enc, grp]
  show World.ownsRow _ _ _ _ _ 1 (B8 (enc n 1))
  rw [e]
  exact owns_lit_one w _ (Nat.le_refl _) _

theorem bytes_room {n j : Nat} (h1 : n < 18446744073709551616) (hj : j = 0 ∨ 128 ^ j ≤ n) : j ≤ 9 := by
  rcases hj with rfl | hj
  · omega
  · rcases Nat.lt_or_ge 9 j with h | h
    · have : (128 : Nat) ^ 10 ≤ 128 ^ j := Nat.pow_le_pow_right (by decide) h
      have e : (128 : Nat) ^ 10 = 1180591620717411303424 := by decide
      omega
    · exact h

theorem bytes_end {n j : Nat} (h0 : n / 128 ^ (j + 1) = 0) (hj : j = 0 ∨ 128 ^ j ≤ n) : sz n = j + 1 := by
  refine sz_uniq n (j + 1) (by omega) ?_ ?_
  · rcases Nat.lt_or_ge n (128 ^ (j + 1)) with h | h
    · exact h
    · have := Nat.div_pos h (pow128_pos (j + 1)); omega
  · rcases hj with rfl | hj
    · exact Or.inl rfl
    · exact Or.inr hj

theorem src_owned {w wr : World} {g n c : Nat} {l : List Int} {o : Obj} (hown : wr.ownsRow w.heap.size 5 1 (.slice (some ⟨g, 0, none⟩) n c) n (B8 l)) :
    ∀ j u, (B8 l)[j]? = some u → (wr.alloc o).cell? ((⟨g, 0, none⟩ : Addr).add j) = some u := (hown.alloc o).cells rfl

set_option maxHeartbeats 1000000 in
theorem bytes_any (w : World) (n : Nat) (h1 : n < 18446744073709551616) :
    Calls Try.prog 54 #[.int .u64 (n : Int)] w fun e w' => ∃ g c, e = .returned (.slice (some ⟨g, 0, none⟩) (sz n) c) ∧
      w'.ownsRow w.heap.size 5 1 (.slice (some ⟨g, 0, none⟩) (sz n) c) (sz n) (B8 (bytesOf n)) ∧ Below w.heap.size w w' := by
  obtain ⟨i0, hi, hz0, hz1, hz2⟩ := info_parts Try.info5
  go_enter Try.func54, Try.ntmps54
  go_wp2_with fail
  go_loopw [0, 3] (fun nv out wr => BytesLoop w n nv out wr) (fun nv _ _ => (intOf nv).toNat)
  case atStart => exact bytes_start w n
  case round =>
    obtain ⟨j, g, c, m, rfl, rfl, hm, hown, hbel, hj⟩ := hrel
    have HM : Hid (m = n / 128 ^ (j + 1)) := hm
    have HJ : Hid (j = 0 ∨ 128 ^ j ≤ n) := hj
    have hmn : m < 18446744073709551616 := by
      have := Nat.div_le_self n (128 ^ (j + 1)); omega
    have hj9 := bytes_room h1 hj
    have hz := hbel.size
    clear hm hj
    by_cases hpos : 0 < m
    · go_wp2_with (first
        | (at_builtin; refine wpList_append_own _ rfl (.tmp 16) (.tmp 17) 22 rfl w.heap.size 5 i0 (.int .u8 0) 1 1 Try.underlying22 hi hz0 hz1 hz2 rfl (by decide) _ 1 (B8 [(m : Int) % 128 + 128]) rfl (owns_lit_one wr w.heap.size hz _) ⟨g, 0, none⟩ (j + 1) c (B8 (enc n (j + 1))) rfl (by rw [length_B8, length_enc]; omega) (src_owned hown) (B8_one _) (by unfold maxLen; omega) (by omega) (by simp; omega) ?_; intro v' w1 hown1 hgrow1 hnil1))
      have R := bytes_step HM.out hpos hbel hown1 hgrow1
      clear hown1 hgrow1 hnil1 hown hbel
      go_roundw
      case rel => exact R
      case measure => simp [intOf]; omega
    · have hm0 : Hid (m = 0) := (show m = 0 by omega)
      go_wp2
      go_ret
      have e := bytes_end (by rw [← HM.out]; exact hm0.out) HJ.out
      rw [← e] at hown
      exact ⟨g, c, by rw [e]; rfl, hown, hbel⟩
end Go.Proofs.Ytgalmkhgbokidaa
