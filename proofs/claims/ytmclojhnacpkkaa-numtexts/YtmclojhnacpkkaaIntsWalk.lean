/-
  What is proved here: the law NumInts answers true for all bytes and every number with a sign and writes nothing that was there.
-/
import Derived.Test.YtmclojhnacpkkaaAid
import Derived.Test.YtmclojhnacpkkaaSignedWalk
namespace Go.Proofs.Ytmclojhnacpkkaa
open Go.RowKit
set_option linter.unusedVariables false

theorem unzig_zig (n : Int) : unzig (zig n) = n := by
  unfold unzig zig
  by_cases h : n < 0
  · rw [if_pos h, if_pos (by omega)]; omega
  · rw [if_neg h, if_neg (by omega)]; omega

theorem signed_any (n : Int) (w : World) (h0 : -9223372036854775808 ≤ n) (h1 : n ≤ 9223372036854775807) :
    Calls Try.prog 18 #[.int .i64 n] w fun e w' => e = .returned (.int .u64 (zig n)) ∧ w' = w := by
  by_cases hneg : n < 0
  · have e : 2 * (-(n + 1)) + 1 = zig n := by unfold zig; rw [if_pos hneg]; omega
    have E1 : Hid (2 * (-(n + 1)) + 1 = zig n) := e
    clear e
    go_enter Try.func18, Try.ntmps18
    go_wp2
    go_ret
    exact ⟨congrArg Ending.returned (congrArg (Value.int IntKind.u64) E1.out), rfl⟩
  · have e : 2 * n = zig n := by unfold zig; rw [if_neg hneg]
    have E1 : Hid (2 * n = zig n) := e
    clear e
    go_enter Try.func18, Try.ntmps18
    go_wp2
    go_ret
    exact ⟨congrArg Ending.returned (congrArg (Value.int IntKind.u64) E1.out), rfl⟩

theorem signed_new (w : World) (n : Int) (h0 : -9223372036854775808 ≤ n) (h1 : n ≤ 9223372036854775807) : Calls Try.prog 18 #[.int .i64 n] w fun e w' => ∃ v, e = .returned v ∧ Below w.heap.size w w' ∧ E (.int .u64 (zig n)) v w' := by
  refine (signed_any n w h0 h1).mono ?_
  rintro e w' ⟨rfl, rfl⟩
  exact ⟨_, rfl, Below.refl _ _, rfl⟩

theorem code_new (w : World) (n : Int) : Calls Try.prog 15 #[.int .i64 n] w fun e w' => ∃ v, e = .returned v ∧ Below w.heap.size w w' ∧ E (.int .i64 n) v w' := by
  refine (code_any n w).mono ?_
  rintro e w' ⟨rfl, rfl⟩
  exact ⟨_, rfl, Below.refl _ _, rfl⟩

/-- What was put is got. -/
theorem getRel_put (l r : List Int) (z : Nat) (hz : z < 18446744073709551616) {n next e : Int} (h : GetRel (l ++ (bytesOf z ++ r)) (l.length : Int) n next e) : n = z ∧ next = (l.length : Int) + sz z ∧ e = 0 := by
  have k : GetRel (l ++ (bytesOf z ++ r)) (l.length : Int) (z : Int) ((l.length : Int) + sz z) 0 := by
    refine Or.inr (Or.inl ⟨by omega, by simp; omega, by omega, ⟨by omega, ?_⟩, by simp, rfl⟩)
    rw [Int.toNat_natCast, Int.toNat_natCast, List.drop_append_of_le_length (Nat.le_refl _), List.drop_length, List.nil_append]
    rw [List.take_append_of_le_length (by rw [length_bytesOf]; exact Nat.le_refl _), List.take_of_length_le (by rw [length_bytesOf]; exact Nat.le_refl _)]
  exact h.uniq k

set_option maxHeartbeats 1000000 in
theorem ints_walk (w : World) (a : Option Addr) (cap : Nat) (l : List Int) (n : Int) (hb : Bts w.heap.size w a l) (hc : l.length ≤ cap) (h0 : -9223372036854775808 ≤ n) (h1 : n ≤ 9223372036854775807) :
    Calls Try.prog 5 #[.slice a l.length cap, .int .i64 n] w fun e w' => e = .returned (.bool true) ∧ Below w.heap.size w w' := by
  by_cases hlen : 5000 < l.length
  · go_enter Try.func5, Try.ntmps5
    go_wp2_with fail
    refine (live_any w).mono ?_
    rintro e w3 ⟨rfl, hb3⟩
    go_wp2
    go_ret
    exact ⟨rfl, hb3⟩
  · obtain ⟨z0, z1⟩ := zig_range n h0 h1
    obtain ⟨z, hz⟩ := Int.eq_ofNat_of_zero_le z0
    have HZ : Hid (zig n = (z : Int)) := hz
    have hzn : z < 18446744073709551616 := by omega
    have hs10 := sz_le_ten z hzn
    clear hz
    go_enter Try.func5, Try.ntmps5
    go_wp2_with fail
    have hput := putInt_any w a cap l n hb (by omega) h0 h1
    rw [HZ.out, Int.toNat_natCast] at hput
    refine hput.mono ?_
    clear hput
    rintro e w3 ⟨gx, cx, rfl, hownx, hbelx⟩
    have hcx : l.length + sz z ≤ cx := by
      rcases hownx.2 with ⟨h, _⟩ | ⟨g', cap', cur, hv, _, _, h, _⟩
      · cases h
      · cases hv; exact h
    have hbx := Bts.of_owns hownx (by intro y hy; rcases List.mem_append.1 hy with h | h; exact hb.range y h; exact bytesOf_range z y h)
    have hb3 := (hb.keep hbelx).mono hbelx.size
    have hlx : (l ++ bytesOf z).length = l.length + sz z := by rw [List.length_append, length_bytesOf]
    clear hownx
    have hget := getInt_any w3 (some ⟨gx, 0, none⟩) cx (l ++ bytesOf z) (l.length : Int) hbx (by omega) (by omega)
    rw [hlx] at hget
    go_wp2_with fail
    refine hget.mono ?_
    clear hget
    rintro e w4 ⟨⟨m, next, er, rfl, hrel⟩, rfl⟩
    have hrel' := getRel_put l [] z hzn (by rw [List.append_nil]; exact hrel)
    obtain ⟨rfl, rfl, rfl⟩ := hrel'
    have hun : Hid (unzig (z : Int) = n) := by rw [← HZ.out]; exact unzig_zig n
    rw [hun.out]
    have HCX : Hid (∀ W : World, Below w4.heap.size w4 W → (convert 22 9 (.slice (some ⟨gx, 0, none⟩) (l.length + sz z) cx)).run Try.prog W = .ok (.string (strOfNums (l ++ bytesOf z))) W) := fun W hW => (hbx.keep hW).conv _ _ hlx
    have HCB : Hid (∀ W : World, Below w4.heap.size w4 W → (convert 22 9 (.slice a l.length cap)).run Try.prog W = .ok (.string (strOfNums l)) W) := fun W hW => (hb3.keep hW).conv _ _ rfl
    clear hrel hb hbx hb3 hlx hun
    go_wp2_with fail
    refine wp_region_plan (phi [E (.slice (some ⟨gx, 0, none⟩) (l.length + sz z) cx), E (.string (strOfNums (l ++ bytesOf z))), E (.slice a l.length cap), E (.string (strOfNums l)), E (.int .i64 n), E (.int .u64 (zig n)), NewIs (bytesOf z), E (.string (strOfNums (bytesOf z))),
        E (.string (strOfNums (l ++ bytesOf z))), E (.bool true), E (.bool true), E (.int .i64 n), E (.int .i64 n), E (.bool true), E (.bool true), E (.bool true), E (.int .i64 ((l.length : Int) + (sz z : Int))), E (.slice (some ⟨gx, 0, none⟩) (l.length + sz z) cx),
        E (.int .i64 ((l.length : Int) + (sz z : Int))), E (.bool true), E (.bool true), E (.bool true), E (.int .i64 0), E (.int .i64 0), E (.bool true), E (.bool true), E (.bool true), E (.bool true), E (.bool true), E (.bool true)]) (by kernel_rfl) (by kernel_rfl)
      (phi_lasts _ ⟨E_lasts _, E_lasts _, E_lasts _, E_lasts _, E_lasts _, E_lasts _, newIs_lasts _, E_lasts _, E_lasts _, E_lasts _, E_lasts _, E_lasts _, E_lasts _, E_lasts _, E_lasts _, E_lasts _, E_lasts _, E_lasts _, E_lasts _, E_lasts _, E_lasts _, E_lasts _, E_lasts _, E_lasts _, E_lasts _, E_lasts _, E_lasts _, E_lasts _, E_lasts _, E_lasts _, trivial⟩) ?_ ?_
    · refine ⟨?_, ?_, ?_, ?_, ?_, ?_, ?_, ?_, ?_, ?_, ?_, ?_, ?_, ?_, ?_, ?_, ?_, ?_, ?_, ?_, ?_, ?_, ?_, ?_, ?_, ?_, ?_, ?_, ?_, ?_, trivial⟩ <;> intro A W hB hS hA
      · exact does_move (wanted_free rfl) rfl (hS.slots 5 rfl)
      · exact does_convertOf (wanted_free rfl) rfl (hA 0 rfl) (HCX.out W hB) rfl
      · exact does_move (wanted_free rfl) rfl (hS.slots 0 rfl)
      · exact does_convertOf (wanted_free rfl) rfl (hA 2 rfl) (HCB.out W hB) rfl
      · exact does_move (wanted_free rfl) rfl (hS.slots 1 rfl)
      · exact does_call #[.int .i64 n] (wanted_free rfl) rfl Try.func18 rfl rfl (congrArg (fun x => [x]) (hA 4 rfl)) (signed_new W n h0 h1)
      · exact does_call #[.int .u64 (z : Int)] (wanted_free rfl) rfl Try.func11 rfl rfl (congrArg (fun x => [x]) ((hA 5 rfl).trans (congrArg (Value.int IntKind.u64) HZ.out))) (bytes_new W z hzn)
      · exact does_convert (wanted_free rfl) rfl (newIs_conv (hA 6 rfl)) rfl
      · exact does_bin (wanted_free rfl) rfl (hA 3 rfl) (hA 7 rfl) (run_add_bytes W l (bytesOf z) _ _ (by rw [length_bytesOf]; omega)) rfl
      · exact does_bin (wanted_free rfl) rfl (hA 1 rfl) (hA 8 rfl) (run_eq_same W _ _ _) rfl
      · exact does_move (wanted_free rfl) rfl (hA 9 rfl)
      · exact does_move (wanted_by rfl rfl (hA 10 rfl)) rfl (hS.slots 6 rfl)
      · exact does_move (wanted_by rfl rfl (hA 10 rfl)) rfl (hS.slots 1 rfl)
      · exact does_bin (wanted_by rfl rfl (hA 10 rfl)) rfl (hA 11 rfl) (hA 12 rfl) (run_eq_int_same W _ _ _) rfl
      · exact does_pick (wanted_free rfl) rfl (hA 10 rfl) (hA 13 rfl)
      · exact does_move (wanted_free rfl) rfl (hA 14 rfl)
      · exact does_move (wanted_by rfl rfl (hA 15 rfl)) rfl (hS.slots 7 rfl)
      · exact does_move (wanted_by rfl rfl (hA 15 rfl)) rfl (hS.slots 5 rfl)
      · exact does_run (wanted_by rfl rfl (hA 15 rfl)) (run_len W (hA 17 rfl)) (congrArg (Value.int IntKind.i64) (Int.natCast_add l.length (sz z)))
      · exact does_bin (wanted_by rfl rfl (hA 15 rfl)) rfl (hA 16 rfl) (hA 18 rfl) (run_eq_int_same W _ _ _) rfl
      · exact does_pick (wanted_free rfl) rfl (hA 15 rfl) (hA 19 rfl)
      · exact does_move (wanted_free rfl) rfl (hA 20 rfl)
      · exact does_move (wanted_by rfl rfl (hA 21 rfl)) rfl (hS.slots 8 rfl)
      · exact does_call #[.int .i64 0] (wanted_by rfl rfl (hA 21 rfl)) rfl Try.func15 rfl rfl (congrArg (fun x => [x]) (hA 22 rfl)) (code_new W 0)
      · exact does_bin2 (wanted_by rfl rfl (hA 21 rfl)) rfl (hA 23 rfl) rfl (run_eq_int_same W _ _ _) rfl
      · exact does_pick (wanted_free rfl) rfl (hA 21 rfl) (hA 24 rfl)
      · exact does_move (wanted_free rfl) rfl (hA 25 rfl)
      · exact does_call #[] (wanted_by rfl rfl (hA 26 rfl)) rfl Try.func9 rfl rfl rfl (live_new W)
      · exact does_pick (wanted_free rfl) rfl (hA 26 rfl) (hA 27 rfl)
      · exact does_assign (wanted_free rfl) rfl (hA 28 rfl)
    · intro A W hB hS hL
      have h29 : slot A 4 = .bool true := hL 29 (by decide)
      obtain ⟨tmps, defers⟩ := A
      have hd : defers = [] := hS.defers
      subst hd
      go_wp2
      go_ret
      exact ⟨congrArg Ending.returned h29, hbelx.trans (hB.mono hbelx.size)⟩
end Go.Proofs.Ytmclojhnacpkkaa
