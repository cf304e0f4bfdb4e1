/-
  What is proved here: num.fold tells a number with a sign as one without, num.unfold tells it back, num.PutInt lays it behind bytes, code gives an error's number.
-/
import Derived.Test.YtgalmkhgbokidaaPut
namespace Go.Proofs.Ytgalmkhgbokidaa
open Go.RowKit
set_option maxRecDepth 20000
set_option linter.unusedVariables false

/-- A number with a sign as one without. -/
def zig (n : Int) : Int := if n < 0 then -2 * n - 1 else 2 * n

theorem code_any (n : Int) (w : World) : Calls Try.prog 12 #[.int .i64 n] w fun e w' => e = .returned (.int .i64 n) ∧ w' = w := by
  go_enter Try.func12, Try.ntmps12
  go_wp2
  go_ret
  exact ⟨rfl, rfl⟩

theorem not_any (n : Int) (h0 : -9223372036854775808 ≤ n) (h1 : n ≤ 9223372036854775807) : bits .xor .i64 (-1) n = -1 - n := by
  show IntKind.i64.wrap ((BitVec.ofInt 64 (-1) ^^^ BitVec.ofInt 64 n).toNat : Int) = _
  have e1 : BitVec.ofInt 64 (-1) = BitVec.allOnes 64 := by decide
  rw [e1, BitVec.allOnes_xor, BitVec.toNat_not, BitVec.toNat_ofInt, IntKind.wrap_i64]
  omega

theorem u64_or_one (m : Nat) (h : 2 * m + 1 < 18446744073709551616) : bits .or .u64 ((2 * m : Nat) : Int) 1 = ((2 * m + 1 : Nat) : Int) := by
  rw [u64_or _ _ (by omega) (by omega) (by omega) (by omega), Int.toNat_natCast, Int.toNat_one, or_one]
  congr 2; omega

theorem zig_neg (n : Int) (h0 : -9223372036854775808 ≤ n) (h : n < 0) :
    bits .or .u64 (IntKind.u64.wrap (IntKind.u64.wrap (bits .xor .i64 (-1) n) * 2)) 1 = zig n := by
  rw [not_any n h0 (by omega), IntKind.wrap_u64, IntKind.wrap_u64]
  obtain ⟨m, hm⟩ := Int.eq_ofNat_of_zero_le (show 0 ≤ -1 - n by omega)
  have e : (-1 - n) % 18446744073709551616 * 2 % 18446744073709551616 = ((2 * m : Nat) : Int) := by omega
  rw [e, u64_or_one m (by omega), zig, if_pos h]
  omega

theorem zig_range (n : Int) (h0 : -9223372036854775808 ≤ n) (h1 : n ≤ 9223372036854775807) : 0 ≤ zig n ∧ zig n ≤ 18446744073709551615 := by
  unfold zig; split <;> omega

theorem fold_any (n : Int) (w : World) (h0 : -9223372036854775808 ≤ n) (h1 : n ≤ 9223372036854775807) :
    Calls Try.prog 80 #[.int .i64 n] w fun e w' => e = .returned (.int .u64 (zig n)) ∧ w' = w := by
  by_cases hneg : n < 0
  · go_enter Try.func80, Try.ntmps80
    go_wp2
    go_ret
    exact ⟨congrArg Ending.returned (congrArg (Value.int IntKind.u64) (zig_neg n h0 hneg)), rfl⟩
  · have e : n * 2 = zig n := by unfold zig; rw [if_neg hneg]; omega
    have E : Hid (n * 2 = zig n) := e
    clear e
    go_enter Try.func80, Try.ntmps80
    go_wp2
    go_ret
    exact ⟨congrArg Ending.returned (congrArg (Value.int IntKind.u64) E.out), rfl⟩

theorem putInt_any (w : World) (a : Option Addr) (cap : Nat) (l : List Int) (n : Int) (hb : Bts w.heap.size w a l) (hl : l.length ≤ 1000000000) (h0 : -9223372036854775808 ≤ n) (h1 : n ≤ 9223372036854775807) :
    Calls Try.prog 73 #[.slice a l.length cap, .int .i64 n] w fun e w' => ∃ g c, e = .returned (.slice (some ⟨g, 0, none⟩) (l.length + sz (zig n).toNat) c) ∧
      w'.ownsRow w.heap.size 5 1 (.slice (some ⟨g, 0, none⟩) (l.length + sz (zig n).toNat) c) (l.length + sz (zig n).toNat) (B8 (l ++ bytesOf (zig n).toNat)) ∧ Below w.heap.size w w' := by
  obtain ⟨z0, z1⟩ := zig_range n h0 h1
  go_enter Try.func73, Try.ntmps73
  go_wp2_with fail
  refine (fold_any n _ h0 h1).mono ?_
  rintro e w' ⟨rfl, rfl⟩
  go_wp2_with fail
  refine (put_any _ a cap l (zig n) hb hl z0 z1).mono ?_
  rintro e w2 ⟨g, c, rfl, hown, hbel⟩
  go_wp2
  go_ret
  exact ⟨g, c, rfl, hown, hbel⟩

end Go.Proofs.Ytgalmkhgbokidaa
