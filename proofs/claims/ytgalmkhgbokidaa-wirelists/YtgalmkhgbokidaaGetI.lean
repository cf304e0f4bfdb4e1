/-
  What is proved here: num.GetInt and the document's own GetInt answer the same for all bytes and every place.
-/
import Derived.Test.YtgalmkhgbokidaaSign
import Derived.Test.YtgalmkhgbokidaaRGet
namespace Go.Proofs.Ytgalmkhgbokidaa
open Go.RowKit
set_option maxRecDepth 20000
set_option linter.unusedVariables false

/-- The number with a sign that is told as n. -/
def unzig (n : Int) : Int := if n % 2 = 1 then -(n / 2) - 1 else n / 2

theorem and_one (n : Int) (h0 : 0 ≤ n) (h1 : n ≤ 18446744073709551615) : bits .and .u64 n 1 = n % 2 := by
  obtain ⟨m, rfl⟩ := Int.eq_ofNat_of_zero_le h0
  rw [u64_and _ _ (by omega) (by omega) (by omega) (by omega), Int.toNat_natCast, show (1 : Int).toNat = 2 ^ 1 - 1 from rfl, Nat.and_two_pow_sub_one_eq_mod]
  omega

theorem unfold_any (n : Int) (w : World) (h0 : 0 ≤ n) (h1 : n ≤ 18446744073709551615) :
    Calls Try.prog 76 #[.int .u64 n] w fun e w' => e = .returned (.int .i64 (unzig n)) ∧ w' = w := by
  have ha := and_one n h0 h1
  by_cases hodd : n % 2 = 1
  · have e1 : bits .xor .i64 (-1) (n / 2) = unzig n := by rw [not_any _ (by omega) (by omega)]; unfold unzig; rw [if_pos hodd]; omega
    have hb : (n % 2 == 1) = true := by simpa using hodd
    have E1 : Hid (bits .xor .i64 (-1) (n / 2) = unzig n) := e1
    clear e1 hodd
    go_enter Try.func76, Try.ntmps76
    go_wp2
    go_ret
    exact ⟨congrArg Ending.returned (congrArg (Value.int IntKind.i64) E1.out), rfl⟩
  · have e1 : n / 2 = unzig n := by unfold unzig; rw [if_neg hodd]
    have hb : (n % 2 == 1) = false := by simpa using hodd
    have E1 : Hid (n / 2 = unzig n) := e1
    clear e1 hodd
    go_enter Try.func76, Try.ntmps76
    go_wp2
    go_ret
    exact ⟨congrArg Ending.returned (congrArg (Value.int IntKind.i64) E1.out), rfl⟩

theorem getInt_any (w : World) (a : Option Addr) (cap : Nat) (l : List Int) (at' : Int) (hb : Bts w.heap.size w a l) (hc : l.length ≤ cap) (hl : l.length ≤ 1000000000) :
    Calls Try.prog 63 #[.slice a l.length cap, .int .i64 at'] w fun e w' => (∃ n next er : Int, e = .returned (.tuple #[.int .i64 (unzig n), .int .i64 next, .int .i64 er]) ∧ GetRel l at' n next er) ∧ w' = w := by
  go_enter Try.func63, Try.ntmps63
  go_wp2_with fail
  refine (get_any w a cap l at' hb hc hl).mono ?_
  rintro e w' ⟨⟨n, next, er, rfl, hrel⟩, rfl⟩
  have hr := hrel.range
  by_cases her : er = 0
  · subst her
    go_wp2_with fail
    refine (unfold_any n w' hr.1 hr.2.1).mono ?_
    rintro e w1 ⟨rfl, rfl⟩
    go_wp2
    go_ret3
    exact ⟨⟨n, next, 0, rfl, hrel⟩, rfl⟩
  · have hne : (er != 0) = true := by simpa using her
    have H : Hid (n = 0 ∧ next = 0) := hrel.no her
    go_wp2
    go_ret3
    have hH := H.out
    obtain ⟨rfl, rfl⟩ := hH
    exact ⟨⟨0, 0, er, rfl, hrel⟩, rfl⟩

theorem rgetInt_any (w : World) (a : Option Addr) (cap : Nat) (l : List Int) (at' : Int) (hb : Bts w.heap.size w a l) (hc : l.length ≤ cap) (hl : l.length ≤ 1000000000) :
    Calls Try.prog 70 #[.slice a l.length cap, .int .i64 at'] w fun e w' => (∃ n next er : Int, e = .returned (.tuple #[.int .i64 (unzig n), .int .i64 next, .int .i64 er]) ∧ GetRel l at' n next er) ∧ Below w.heap.size w w' := by
  go_enter Try.func70, Try.ntmps70
  go_wp2_with fail
  refine (rget_any w a cap l at' hb hc hl).mono ?_
  rintro e w' ⟨⟨n, next, er, rfl, hrel⟩, hbel⟩
  obtain ⟨r0, r1, r2⟩ := hrel.range
  by_cases hodd : n % 2 = 1
  · have e1 : -(n / 2) - 1 = unzig n := by unfold unzig; rw [if_pos hodd]
    have hb1 : (n % 2 == 1) = true := by simpa using hodd
    have E1 : Hid (-(n / 2) - 1 = unzig n) := e1
    clear e1 hodd
    go_wp2
    go_ret3
    exact ⟨⟨n, next, er, by rw [← E1.out]; rfl, hrel⟩, hbel⟩
  · have e1 : n / 2 = unzig n := by unfold unzig; rw [if_neg hodd]
    have hb1 : (n % 2 == 1) = false := by simpa using hodd
    have E1 : Hid (n / 2 = unzig n) := e1
    clear e1 hodd
    go_wp2
    go_ret3
    exact ⟨⟨n, next, er, by rw [← E1.out]; rfl, hrel⟩, hbel⟩

theorem unzig_zig (n : Int) : unzig (zig n) = n := by
  unfold unzig zig
  by_cases h : n < 0
  · rw [if_pos h, if_pos (by omega)]; omega
  · rw [if_neg h, if_neg (by omega)]; omega

theorem signed_any (n : Int) (w : World) (h0 : -9223372036854775808 ≤ n) (h1 : n ≤ 9223372036854775807) :
    Calls Try.prog 69 #[.int .i64 n] w fun e w' => e = .returned (.int .u64 (zig n)) ∧ w' = w := by
  by_cases hneg : n < 0
  · have e : 2 * (-(n + 1)) + 1 = zig n := by unfold zig; rw [if_pos hneg]; omega
    have E1 : Hid (2 * (-(n + 1)) + 1 = zig n) := e
    clear e
    go_enter Try.func69, Try.ntmps69
    go_wp2
    go_ret
    exact ⟨congrArg Ending.returned (congrArg (Value.int IntKind.u64) E1.out), rfl⟩
  · have e : 2 * n = zig n := by unfold zig; rw [if_neg hneg]
    have E1 : Hid (2 * n = zig n) := e
    clear e
    go_enter Try.func69, Try.ntmps69
    go_wp2
    go_ret
    exact ⟨congrArg Ending.returned (congrArg (Value.int IntKind.u64) E1.out), rfl⟩

end Go.Proofs.Ytgalmkhgbokidaa
