/-
  What is proved here: num.GetInt and the document's own GetInt answer the same for all bytes and every place; the law NumSigned answers true and writes nothing that was there.
-/
import Derived.Test.YtmclojhnacpkkaaLive
import Derived.Test.YtmclojhnacpkkaaRGet
namespace Go.Proofs.Ytmclojhnacpkkaa
open Go.RowKit
set_option linter.unusedVariables false

/-- The number with a sign that is told as n. -/
def unzig (n : Int) : Int := if n % 2 = 1 then -(n / 2) - 1 else n / 2

theorem and_one (n : Int) (h0 : 0 ≤ n) (h1 : n ≤ 18446744073709551615) : bits .and .u64 n 1 = n % 2 := by
  obtain ⟨m, rfl⟩ := Int.eq_ofNat_of_zero_le h0
  rw [u64_and _ _ (by omega) (by omega) (by omega) (by omega), Int.toNat_natCast, show (1 : Int).toNat = 2 ^ 1 - 1 from rfl, Nat.and_two_pow_sub_one_eq_mod]
  omega

theorem unfold_any (n : Int) (w : World) (h0 : 0 ≤ n) (h1 : n ≤ 18446744073709551615) :
    Calls Try.prog 27 #[.int .u64 n] w fun e w' => e = .returned (.int .i64 (unzig n)) ∧ w' = w := by
  have ha := and_one n h0 h1
  by_cases hodd : n % 2 = 1
  · have e1 : bits .xor .i64 (-1) (n / 2) = unzig n := by rw [not_any _ (by omega) (by omega)]; unfold unzig; rw [if_pos hodd]; omega
    have hb : (n % 2 == 1) = true := by simpa using hodd
    have E1 : Hid (bits .xor .i64 (-1) (n / 2) = unzig n) := e1
    clear e1 hodd
    go_enter Try.func27, Try.ntmps27
    go_wp2
    go_ret
    exact ⟨congrArg Ending.returned (congrArg (Value.int IntKind.i64) E1.out), rfl⟩
  · have e1 : n / 2 = unzig n := by unfold unzig; rw [if_neg hodd]
    have hb : (n % 2 == 1) = false := by simpa using hodd
    have E1 : Hid (n / 2 = unzig n) := e1
    clear e1 hodd
    go_enter Try.func27, Try.ntmps27
    go_wp2
    go_ret
    exact ⟨congrArg Ending.returned (congrArg (Value.int IntKind.i64) E1.out), rfl⟩

theorem getInt_any (w : World) (a : Option Addr) (cap : Nat) (l : List Int) (at' : Int) (hb : Bts w.heap.size w a l) (hc : l.length ≤ cap) (hl : l.length ≤ 1000000000) :
    Calls Try.prog 17 #[.slice a l.length cap, .int .i64 at'] w fun e w' => (∃ n next er : Int, e = .returned (.tuple #[.int .i64 (unzig n), .int .i64 next, .int .i64 er]) ∧ GetRel l at' n next er) ∧ w' = w := by
  go_enter Try.func17, Try.ntmps17
  go_wp2_with fail
  refine (get_any w a cap l at' hb hc hl).mono ?_
  rintro e w' ⟨⟨n, next, er, rfl, hrel⟩, rfl⟩
  have hr := hrel.range
  by_cases her : er = 0
  · subst her
    go_wp2_with fail
    refine (unfold_any n w' hr.1 hr.2.1).mono ?_
    rintro e w1 ⟨rfl, rfl⟩
    go_wp2
    go_ret3
    exact ⟨⟨n, next, 0, rfl, hrel⟩, rfl⟩
  · have hne : (er != 0) = true := by simpa using her
    have H : Hid (n = 0 ∧ next = 0) := hrel.no her
    go_wp2
    go_ret3
    have hH := H.out
    obtain ⟨rfl, rfl⟩ := hH
    exact ⟨⟨0, 0, er, rfl, hrel⟩, rfl⟩

theorem rgetInt_any (w : World) (a : Option Addr) (cap : Nat) (l : List Int) (at' : Int) (hb : Bts w.heap.size w a l) (hc : l.length ≤ cap) (hl : l.length ≤ 1000000000) :
    Calls Try.prog 19 #[.slice a l.length cap, .int .i64 at'] w fun e w' => (∃ n next er : Int, e = .returned (.tuple #[.int .i64 (unzig n), .int .i64 next, .int .i64 er]) ∧ GetRel l at' n next er) ∧ Below w.heap.size w w' := by
  go_enter Try.func19, Try.ntmps19
  go_wp2_with fail
  refine (rget_any w a cap l at' hb hc hl).mono ?_
  rintro e w' ⟨⟨n, next, er, rfl, hrel⟩, hbel⟩
  obtain ⟨r0, r1, r2⟩ := hrel.range
  by_cases hodd : n % 2 = 1
  · have e1 : -(n / 2) - 1 = unzig n := by unfold unzig; rw [if_pos hodd]
    have hb1 : (n % 2 == 1) = true := by simpa using hodd
    have E1 : Hid (-(n / 2) - 1 = unzig n) := e1
    clear e1 hodd
    go_wp2
    go_ret3
    exact ⟨⟨n, next, er, by rw [← E1.out]; rfl, hrel⟩, hbel⟩
  · have e1 : n / 2 = unzig n := by unfold unzig; rw [if_neg hodd]
    have hb1 : (n % 2 == 1) = false := by simpa using hodd
    have E1 : Hid (n / 2 = unzig n) := e1
    clear e1 hodd
    go_wp2
    go_ret3
    exact ⟨⟨n, next, er, by rw [← E1.out]; rfl, hrel⟩, hbel⟩

set_option maxHeartbeats 1000000 in
theorem signed_walk (w : World) (a : Option Addr) (cap : Nat) (l : List Int) (at' : Int) (hb : Bts w.heap.size w a l) (hc : l.length ≤ cap) :
    Calls Try.prog 6 #[.slice a l.length cap, .int .i64 at'] w fun e w' => e = .returned (.bool true) ∧ Below w.heap.size w w' := by
  by_cases hlen : 5000 < l.length
  · go_enter Try.func6, Try.ntmps6
    go_wp2_with fail
    refine (live_any w).mono ?_
    rintro e w3 ⟨rfl, hb3⟩
    go_wp2
    go_ret
    exact ⟨rfl, hb3⟩
  · go_enter Try.func6, Try.ntmps6
    go_wp2_with fail
    refine (getInt_any w a cap l at' hb hc (by omega)).mono ?_
    rintro e w' ⟨⟨n, next, er, rfl, hrel⟩, rfl⟩
    go_wp2_with fail
    refine (rgetInt_any w' a cap l at' hb hc (by omega)).mono ?_
    rintro e w2 ⟨⟨n2, next2, er2, rfl, hrel2⟩, hbel⟩
    obtain ⟨rfl, rfl, rfl⟩ := hrel.uniq hrel2
    have hz := hbel.size
    clear hrel hrel2 hb
    generalize unzig n = m
    go_wp2_with fail
    refine (code_any er w2).mono ?_
    rintro e w3 ⟨rfl, rfl⟩
    go_wp2_with fail
    refine (live_any w3).mono ?_
    rintro e w4 ⟨rfl, hb4⟩
    go_wp2
    go_ret
    exact ⟨rfl, hbel.trans (hb4.mono hz)⟩
end Go.Proofs.Ytmclojhnacpkkaa
