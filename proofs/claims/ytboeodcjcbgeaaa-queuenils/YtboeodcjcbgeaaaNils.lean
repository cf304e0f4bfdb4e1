/-
  What is proved here: QueueNils, call by call.
-/
import Derived.Test.YtboeodcjcbgeaaaQH
namespace Go.Proofs.Ytboeodcjcbgeaaa
open Go.RowKit Go.Proofs
set_option linter.unusedVariables false
set_option linter.unusedSimpArgs false

set_option maxRecDepth 10000 in
set_option maxHeartbeats 4000000 in
theorem nils_walk (w : World) (v : Value) (i : Int) : Calls Try.prog 5 #[v, .int .i64 i] w fun e w' => e = .returned (.bool true) ∧ Below w.heap.size w w' := by
  go_enter Try.func5, Try.ntmps5
  go_wp2_with fail
  refine (pop_nil w).mono ?_
  rintro e w1 ⟨rfl, hb1⟩
  have B1 := hid' hb1
  clear hb1
  unfold s0 Slot.val
  simp only
  go_wp2_with fail
  refine (peek_nil _ i).mono ?_
  rintro e w2 ⟨rfl, hb2⟩
  have hb0 : Below w1.heap.size w1 (w1.alloc (.cells #[.slice none 0 0, .int .i64 0, .int .i64 0, .int .i64 0] 38)) := (Below.refl _ w1).alloc (Nat.le_refl _) _
  have B2 := hid' ((B1.out.trans (hb0.mono B1.out.size)).trans (hb2.mono (B1.out.trans (hb0.mono B1.out.size)).size))
  clear hb2 hb0 B1
  unfold s0 Slot.val
  simp only
  go_wp2_with fail
  refine (passed_nil _).mono ?_
  rintro e w3 ⟨rfl, rfl⟩
  go_wp2_with fail
  refine (push_nil _ _).mono ?_
  rintro e w3 ⟨rfl, rfl⟩
  go_wp2_with fail
  refine (code_any 5 _).mono ?_
  rintro e w3 ⟨rfl, rfl⟩
  go_wp2_with fail
  refine (open_nil _).mono ?_
  rintro e w3 ⟨rfl, hb3⟩
  have hb0 : Below w2.heap.size w2 (w2.alloc (.cells #[.slice none 0 0, .int .i64 0, .int .i64 0, .int .i64 0] 38)) := (Below.refl _ w2).alloc (Nat.le_refl _) _
  have B3 := hid' ((B2.out.trans (hb0.mono B2.out.size)).trans (hb3.mono (B2.out.trans (hb0.mono B2.out.size)).size))
  clear hb3 hb0 B2
  go_wp2_with fail
  refine (len_nil _).mono ?_
  rintro e w4 ⟨rfl, rfl⟩
  go_wp2_with fail
  refine (lower_nil _).mono ?_
  rintro e w5 ⟨a, c, rfl, hb5⟩
  have B5 := hid' (B3.out.trans (hb5.mono B3.out.size))
  clear hb5 B3
  go_wp2_with fail
  refine (live_any _).mono ?_
  rintro e w6 ⟨rfl, hb6⟩
  have B6 := hid' (B5.out.trans (hb6.mono B5.out.size))
  clear hb6 B5
  go_wp2
  go_ret
  exact ⟨rfl, B6.out⟩

end Go.Proofs.Ytboeodcjcbgeaaa
