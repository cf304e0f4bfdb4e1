/-
  What is proved here: num.Put lays b and behind it the groups of n into new memory, and writes nothing that was there.
-/
import Derived.Test.YtgalmkhgbokidaaLen
import Derived.Test.YtgalmkhgbokidaaWorld
namespace Go.Proofs.Ytgalmkhgbokidaa
open Go.RowKit
set_option maxRecDepth 20000

theorem grp_low (n : Int) (j : Nat) (h0 : 0 ≤ n) : bits .and .u8 (n / 2 ^ (7 * j) % 256) 127 = (((n.toNat / 128 ^ j) % 128 : Nat) : Int) := by
  obtain ⟨m, rfl⟩ := Int.eq_ofNat_of_zero_le h0
  rw [u8_and _ _ (by omega) (by omega) (by omega) (by omega)]
  have e : (((m : Int) / 2 ^ (7 * j) % 256).toNat) = (m / 128 ^ j) % 256 := by
    rw [pow128]
    have : ((m : Int) / 2 ^ (7 * j) % 256) = (((m / 2 ^ (7 * j)) % 256 : Nat) : Int) := by simp
    rw [this, Int.toNat_natCast]
  rw [e, show (127 : Int).toNat = 2 ^ 7 - 1 from rfl, Nat.and_two_pow_sub_one_eq_mod, Int.toNat_natCast]
  congr 1
  omega

theorem grp_more (n : Int) (j : Nat) (h0 : 0 ≤ n) (hj : 0 < j) : bits .or .u8 (bits .and .u8 (n / 2 ^ (7 * j) % 256) 127) 128 = grp n.toNat j := by
  rw [grp_low n j h0, u8_or128_right _ (by omega) (by omega), grp, if_neg (by omega)]

theorem grp_last (n : Int) (h0 : 0 ≤ n) : bits .and .u8 (n % 256) 127 = grp n.toNat 0 := by
  have h := grp_low n 0 h0
  simp only [Nat.mul_zero, Int.pow_zero, Int.ediv_one] at h
  rw [h, grp]; simp

theorem put_step {B : Nat} {w wr w3 : World} {len s k n : Nat} {l : List Int} {o : Obj} (hk : k < s) (hbel : Below B w wr) (hB : B ≤ wr.heap.size)
    (hown : w3.ownsRow B 5 1 (.slice (some ⟨B, 0, none⟩) (len + k + 1) (len + s)) (len + k + 1) (B8 (l ++ (enc n s).take k) ++ [.int .u8 (grp n (s - 1 - k))])) (hgrow : (wr.alloc o).grownBy w3 (some B)) :
    w3.ownsRow B 5 1 (.slice (some ⟨B, 0, none⟩) (len + (k + 1)) (len + s)) (len + (k + 1)) (B8 (l ++ (enc n s).take (k + 1))) ∧ Below B w w3 := by
  refine ⟨?_, (hbel.alloc hB o).grown hgrow (by simp; omega) (fun j hj => by cases hj; exact Nat.le_refl _)⟩
  rw [enc_take_succ n s k hk, ← List.append_assoc, B8_append _ [grp n (s - 1 - k)]]
  exact hown

set_option maxHeartbeats 1000000 in
theorem put_any (w : World) (a : Option Addr) (cap : Nat) (l : List Int) (n : Int) (hb : Bts w.heap.size w a l) (hl : l.length ≤ 1000000000) (h0 : 0 ≤ n) (h1 : n ≤ 18446744073709551615) :
    Calls Try.prog 52 #[.slice a l.length cap, .int .u64 n] w fun e w' => ∃ g c, e = .returned (.slice (some ⟨g, 0, none⟩) (l.length + sz n.toNat) c) ∧
      w'.ownsRow w.heap.size 5 1 (.slice (some ⟨g, 0, none⟩) (l.length + sz n.toNat) c) (l.length + sz n.toNat) (B8 (l ++ bytesOf n.toNat)) ∧ Below w.heap.size w w' := by
  obtain ⟨i0, hi, hz0, hz1, hz2⟩ := info_parts Try.info5
  have hs1 := sz_pos n.toNat
  have hs2 := sz_le_ten n.toNat (by omega)
  obtain ⟨s, hs⟩ : ∃ s, s = sz n.toNat := ⟨_, rfl⟩
  have HS : Hid (s = sz n.toNat) := hs
  rw [← hs] at hs1 hs2 ⊢
  obtain ⟨len, hlen⟩ : ∃ len, len = l.length := ⟨_, rfl⟩
  have HL : Hid (len = l.length) := hlen
  rw [← hlen] at hl ⊢
  clear hs hlen
  go_enter Try.func52, Try.ntmps52
  go_wp2_with fail
  refine (size_any n _ h0 h1).mono ?_
  rintro e w' ⟨rfl, rfl⟩
  rw [← HS.out]
  go_wp2_with (first
    | (refine wpList_make_len _ rfl _ _ 22 rfl 5 i0 _ Try.underlying22 hi hz0 hz1 hz2 .i64 .i64 _ _ len s rfl rfl rfl (by omega) (by omega) ?_; intro cur hcur)
    | (refine wpList_copy_splice rfl (.tmp 19) (.tmp 20) 22 22 rfl 5 Try.underlying22 (by rw [hi]; simp [hz1]) _ _ _ _ _ _ rfl rfl w'.heap.size 0 cur 5 (heap_alloc_new _ _) (B8 l) (by rw [length_B8, ← HL.out]; simp) (fun h => ⟨rfl, (hb.alloc (Nat.le_refl _) _).src h⟩) (by rw [length_B8, ← HL.out]; omega) (B8_one l) w'.heap.size w' ((Below.refl _ _).alloc (Nat.le_refl _) _) (Nat.le_refl _) ?_; intro w2 hg2 hb2))
  have hown0 := owns_copied w2 w'.heap.size len s cur l HL.out.symm hcur (by omega) hg2.out
  have hB2 := hb2.size
  clear hg2 hcur hb
  go_loopw [6, 23] (fun out i wr => ∃ k : Nat, k ≤ s ∧ i = .int .i64 k ∧ out = .slice (some ⟨w'.heap.size, 0, none⟩) (len + k) (len + s) ∧
      wr.ownsRow w'.heap.size 5 1 (.slice (some ⟨w'.heap.size, 0, none⟩) (len + k) (len + s)) (len + k) (B8 (l ++ (enc n.toNat s).take k)) ∧ Below w'.heap.size w' wr) (fun _ i _ => s - (intOf i).toNat)
  case atStart => exact ⟨0, Nat.zero_le _, rfl, rfl, by simpa using hown0, hb2⟩
  case round =>
    obtain ⟨k, hk, rfl, rfl, hown, hbel⟩ := hrel
    clear hown0 hb2 hB2
    have hBr : w'.heap.size ≤ wr.heap.size := hbel.size
    by_cases hlt : k < s
    · by_cases hmore : k + 1 < s
      · have hg := grp_more n (s - 1 - k) h0 (by omega)
        go_wp2_with (first
          | (at_builtin; refine wpList_append_fits _ rfl (.tmp 40) (.tmp 42) 22 rfl w'.heap.size 5 i0 1 Try.underlying22 hi hz1 w'.heap.size (len + k) (len + s) _ rfl (hown.alloc _) ⟨wr.heap.size, 0, none⟩ 1 1 [.int .u8 (grp n.toNat (s - 1 - k))] rfl rfl (one_new _ _) (one_one _) (by omega) ?_; intro w3 hown3 hgrow3))
        have R := put_step hlt hbel hBr hown3 hgrow3
        clear hown3 hgrow3 hown hbel
        go_roundw
        case rel => exact ⟨k + 1, by omega, by go_num, rfl, R.1, R.2⟩
        case measure => simp [intOf]; omega
      · have hg := grp_last n h0
        have he : s - 1 - k = 0 := by omega
        go_wp2_with (first
          | (at_builtin; refine wpList_append_fits _ rfl (.tmp 40) (.tmp 42) 22 rfl w'.heap.size 5 i0 1 Try.underlying22 hi hz1 w'.heap.size (len + k) (len + s) _ rfl (hown.alloc _) ⟨wr.heap.size, 0, none⟩ 1 1 [.int .u8 (grp n.toNat 0)] rfl rfl (one_new _ _) (one_one _) (by omega) ?_; intro w3 hown3 hgrow3))
        have R := put_step hlt hbel hBr (by rw [he]; exact hown3) hgrow3
        clear hown3 hgrow3 hown hbel
        go_roundw
        case rel => exact ⟨k + 1, by omega, by go_num, rfl, R.1, R.2⟩
        case measure => simp [intOf]; omega
    · have hks : k = s := by omega
      have HK : Hid (k = s) := hks
      clear hks
      go_wp2
      go_ret
      have e := HK.out
      subst e
      rw [List.take_of_length_le (by rw [length_enc]; exact Nat.le_refl _)] at hown
      have hbo : bytesOf n.toNat = enc n.toNat k := by rw [bytesOf, ← HS.out]
      rw [hbo]
      exact ⟨w'.heap.size, len + k, rfl, hown, hbel⟩
end Go.Proofs.Ytgalmkhgbokidaa
