/-
  What is proved here: bits.Len64 gives the number of binary digits, num.Size the number of groups of seven bits.
-/
import Derived.Test.YtgalmkhgbokidaaChecked
import Derived.Test.YtgalmkhgbokidaaMath
import Derived.WalkKit
import Derived.Lib.BitFns
namespace Go.Proofs.Ytgalmkhgbokidaa
open Go.RowKit
set_option maxRecDepth 20000

theorem tab_at (k : Nat) (h : k < Lib.len8tab.size) (hk : k < 256) : ((Lib.len8tab[k]'h).toNat : Int) = Lib.bitLen k := by
  have e := Lib.len8_of (k : Int) (by omega) (by omega)
  unfold Lib.len8 at e
  rw [Int.toNat_natCast] at e
  rw [← e, ByteArray.getElem?_lt' _ _ h]
  rfl

theorem wrap_small (n : Int) (h0 : 0 ≤ n) (h1 : n ≤ 1000) : wrap64 n = n := by
  unfold wrap64; omega

theorem len_way (x q c : Int) (k p : Nat) (hc : c = (k : Int)) (hk : k ≤ 56) (hp : p = 2 ^ k) (h : q.toNat < Lib.len8tab.size) (h0 : 0 ≤ q) (h1 : q < 256) (hq : q.toNat = x.toNat / p) (hx : p ≤ x.toNat) (hlt : x.toNat < 18446744073709551616) :
    wrap64 (c + wrap64 ((Lib.len8tab[q.toNat]'h).toNat : Int)) = (Lib.bitLen x.toNat : Int) := by
  have e := tab_at q.toNat h (by omega)
  have l := Lib.bitLen_le8' q h0 (by omega)
  rw [e]
  rw [wrap_small (Lib.bitLen q.toNat : Int) (by omega) (by omega), wrap_small _ (by omega) (by omega)]
  subst hp
  rw [Lib.bitLen_shift k x.toNat hx (by simpa using hlt), ← hq]
  omega

theorem len_way0 (x : Int) (h : x.toNat < Lib.len8tab.size) (h0 : 0 ≤ x) (h1 : x < 256) :
    wrap64 (wrap64 ((Lib.len8tab[x.toNat]'h).toNat : Int)) = (Lib.bitLen x.toNat : Int) := by
  have e := tab_at x.toNat h (by omega)
  have l := Lib.bitLen_le8' x h0 (by omega)
  rw [e, wrap_small (Lib.bitLen x.toNat : Int) (by omega) (by omega), wrap_small _ (by omega) (by omega)]

set_option maxHeartbeats 1000000 in
set_option maxRecDepth 100000 in
theorem len64_any (x : Int) (w : World) (h0 : 0 ≤ x) (h1 : x ≤ 18446744073709551615) :
    Calls Try.prog 79 #[.int .u64 x] w fun e w' => e = .returned (.int .i64 (Lib.bitLen x.toNat)) ∧ w' = w := by
  have hs : (Lib.len8tab.size : Int) = 256 := by rw [Lib.len8tab_size]; rfl
  go_enter Try.func79, Try.ntmps79
  go_wp2
  all_goals go_ret
  all_goals refine ⟨congrArg Ending.returned (congrArg (Value.int IntKind.i64) ?_), rfl⟩
  · exact len_way x _ 56 56 72057594037927936 rfl (by omega) (by decide) (by omega) (by omega) (by omega) (by omega) (by omega) (by omega)
  · exact len_way x _ 48 48 281474976710656 rfl (by omega) (by decide) (by omega) (by omega) (by omega) (by omega) (by omega) (by omega)
  · exact len_way x _ 40 40 1099511627776 rfl (by omega) (by decide) (by omega) (by omega) (by omega) (by omega) (by omega) (by omega)
  · exact len_way x _ 32 32 4294967296 rfl (by omega) (by decide) (by omega) (by omega) (by omega) (by omega) (by omega) (by omega)
  · exact len_way x _ 24 24 16777216 rfl (by omega) (by decide) (by omega) (by omega) (by omega) (by omega) (by omega) (by omega)
  · exact len_way x _ 16 16 65536 rfl (by omega) (by decide) (by omega) (by omega) (by omega) (by omega) (by omega) (by omega)
  · exact len_way x _ 8 8 256 rfl (by omega) (by decide) (by omega) (by omega) (by omega) (by omega) (by omega) (by omega)
  · exact len_way0 x (by omega) (by omega) (by omega)

theorem bitLenAux_log : ∀ (f x : Nat), x < 2 ^ f → 0 < x → Lib.bitLenAux f x = Nat.log2 x + 1
  | 0, x, h, h0 => by simp at h; omega
  | f + 1, x, h, h0 => by
    rw [Lib.bitLenAux, if_neg (by omega)]
    rcases Nat.eq_or_lt_of_le (Nat.succ_le_of_lt h0) with h1 | h1
    · have e : x = 1 := h1.symm
      subst e
      have e1 : Nat.log2 1 = 0 := by decide
      cases f <;> simp [Lib.bitLenAux, e1]
    · have hlt : x / 2 < 2 ^ f := by rw [Nat.pow_succ] at h; omega
      rw [bitLenAux_log f (x / 2) hlt (by omega)]
      conv => rhs; rw [Nat.log2_def, if_pos (by omega)]
      omega

theorem bitLen_log (x : Nat) (h : x < 18446744073709551616) (h0 : 0 < x) : Lib.bitLen x = Nat.log2 x + 1 := bitLenAux_log 64 x (by simpa using h) h0

theorem or_low (a b i : Nat) (h : b < 2 ^ i) : 2 ^ i * a ||| b = 2 ^ i * a + b := (Nat.two_pow_add_eq_or_of_lt h a).symm

theorem or_one (n : Nat) : n ||| 1 = 2 * (n / 2) + 1 := by
  have e : n = 2 ^ 1 * (n / 2) ||| (n % 2) := by rw [or_low _ _ 1 (by omega)]; omega
  have e2 : n % 2 ||| 1 = 1 := by rcases (show n % 2 = 0 ∨ n % 2 = 1 by omega) with h | h <;> rw [h] <;> rfl
  conv => lhs; rw [e]
  rw [Nat.or_assoc, e2, or_low _ _ 1 (by omega)]

theorem log_or_one (n : Nat) : Nat.log2 (n ||| 1) = Nat.log2 n := by
  rw [or_one]
  rcases Nat.lt_or_ge n 2 with h | h
  · rcases (show n = 0 ∨ n = 1 by omega) with rfl | rfl <;> decide
  · conv => lhs; rw [Nat.log2_def, if_pos (by omega)]
    conv => rhs; rw [Nat.log2_def, if_pos (by omega)]
    congr 2; omega

theorem size_eq (n : Nat) (h : n < 18446744073709551616) : ((Lib.bitLen (n ||| 1) : Int) + 7 - 1) / 7 = (sz n : Int) ∧ Lib.bitLen (n ||| 1) ≤ 64 := by
  have hl : n ||| 1 < 18446744073709551616 := by rw [or_one]; omega
  have hp : 0 < n ||| 1 := by rw [or_one]; omega
  have e := bitLen_log _ hl hp
  have l := Lib.bitLen_le _ 64 (by omega) (show n ||| 1 < 2 ^ 64 by simpa using hl)
  rw [log_or_one] at e
  refine ⟨?_, l⟩
  unfold sz
  rw [e]
  omega

set_option maxHeartbeats 400000 in
theorem size_any (n : Int) (w : World) (h0 : 0 ≤ n) (h1 : n ≤ 18446744073709551615) :
    Calls Try.prog 72 #[.int .u64 n] w fun e w' => e = .returned (.int .i64 (sz n.toNat)) ∧ w' = w := by
  obtain ⟨e1, e2⟩ := size_eq n.toNat (by omega)
  have hl : n.toNat ||| 1 < 18446744073709551616 := by rw [or_one]; omega
  have E1 : Hid (((Lib.bitLen (n.toNat ||| 1) : Int) + 7 - 1) / 7 = (sz n.toNat : Int)) := e1
  clear e1
  go_enter Try.func72, Try.ntmps72
  go_wp2_with fail
  rw [u64_or n 1 h0 (by omega) (by omega) (by omega)]
  refine (len64_any _ _ (by omega) (by simp only [Int.toNat_one]; omega)).mono ?_
  rintro e w' ⟨rfl, rfl⟩
  rw [Int.toNat_natCast, Int.toNat_one]
  generalize Lib.bitLen (n.toNat ||| 1) = L at *
  go_wp2
  go_ret
  exact ⟨congrArg Ending.returned (congrArg (Value.int IntKind.i64) E1.out), rfl⟩
end Go.Proofs.Ytgalmkhgbokidaa
