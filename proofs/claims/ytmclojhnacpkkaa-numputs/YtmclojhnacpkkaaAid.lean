/-
  What is proved here: small laws for the last statement of the laws: texts held against each other, lengths, calls, each with what it leaves.
-/
import Derived.Test.YtmclojhnacpkkaaLive
import Derived.Test.YtmclojhnacpkkaaStrs
import Derived.Test.YtmclojhnacpkkaaBytes
import Derived.Test.YtmclojhnacpkkaaPlan
namespace Go.Proofs.Ytmclojhnacpkkaa
open Go.RowKit
set_option linter.unusedVariables false

theorem run_eq_str (w : World) (A B : ByteArray) (x y : Operand) : ((do eqGuard .eql 9 x y (.string A) (.string B); binOp .eql 9 (.string A) (.string B) : Sem Value)).run Try.prog w = .ok (.bool (A.toList == B.toList)) w := by
  go_simp

theorem run_add_str (w : World) (A B : ByteArray) (x y : Operand) (h : A.size + B.size ≤ 9223372036854775807) : ((do eqGuard .add 9 x y (.string A) (.string B); binOp .add 9 (.string A) (.string B) : Sem Value)).run Try.prog w = .ok (.string (A ++ B)) w := by
  have hr := run_string_add_sum (P := Try.prog) (w := w) A B h
  go_simp

theorem run_eq_int (w : World) (A B : Int) (x y : Operand) : ((do eqGuard .eql 3 x y (.int .i64 A) (.int .i64 B); binOp .eql 3 (.int .i64 A) (.int .i64 B) : Sem Value)).run Try.prog w = .ok (.bool (A == B)) w := by
  go_simp

theorem run_len {a : Act} {t : Nat} {ad : Option Addr} {n c : Nat} {dst : Option Tmp} {ty : TypeId} {pos : String} {aft : Array Edge} {guard : Option (Nat × Bool)} (w : World) (h : slot a t = .slice ad n c) :
    (execOp a.eval { dst := dst, op := .call { callee := .builtin .len, args := #[.tmp t], argTypes := #[22] }, type := ty, pos := pos, after := aft, guard := guard }).run Try.prog w = .ok (.value (.int .i64 (n : Int))) w := by
  have h1 : a.tmps[t]?.getD undef = .slice ad n c := by rw [← Array.getD_eq_getD_getElem?]; exact h
  go_simp

/-- A slice in new memory that reads as l. -/
def NewIs (l : List Int) : Value → World → Prop := fun v w => ∃ g c, v = .slice (some ⟨g, 0, none⟩) l.length c ∧ Bts w.heap.size w (some ⟨g, 0, none⟩) l

theorem newIs_lasts (l : List Int) : Lasts (NewIs l) := by
  rintro v w w' ⟨g, c, rfl, hb⟩ hbel
  exact ⟨g, c, rfl, (hb.keep hbel).mono hbel.size⟩

theorem bytes_new (w : World) (n : Nat) (h1 : n < 18446744073709551616) : Calls Try.prog 11 #[.int .u64 (n : Int)] w fun e w' => ∃ v, e = .returned v ∧ Below w.heap.size w w' ∧ NewIs (bytesOf n) v w' := by
  refine (bytes_any w n h1).mono ?_
  rintro e w' ⟨g, c, rfl, hown, hbel⟩
  exact ⟨_, rfl, hbel, g, c, by rw [length_bytesOf], Bts.of_owns hown (bytesOf_range n)⟩

theorem newIs_conv {l : List Int} {v : Value} {w : World} (h : NewIs l v w) : (convert 22 9 v).run Try.prog w = .ok (.string (strOfNums l)) w := by
  obtain ⟨g, c, rfl, hb⟩ := h
  exact hb.conv _ _ rfl

theorem newIs_len {a : Act} {t : Nat} {l : List Int} {dst : Option Tmp} {ty : TypeId} {pos : String} {aft : Array Edge} {guard : Option (Nat × Bool)} (w : World) (h : NewIs l (slot a t) w) :
    (execOp a.eval { dst := dst, op := .call { callee := .builtin .len, args := #[.tmp t], argTypes := #[22] }, type := ty, pos := pos, after := aft, guard := guard }).run Try.prog w = .ok (.value (.int .i64 (l.length : Int))) w := by
  obtain ⟨g, c, hv, _⟩ := h
  exact run_len w hv

theorem run_add_bytes (w : World) (l r : List Int) (x y : Operand) (h : l.length + r.length ≤ 9223372036854775807) : ((do eqGuard .add 9 x y (.string (strOfNums l)) (.string (strOfNums r)); binOp .add 9 (.string (strOfNums l)) (.string (strOfNums r)) : Sem Value)).run Try.prog w = .ok (.string (strOfNums (l ++ r))) w := by
  rw [← str_add]
  exact run_add_str w _ _ x y (by rw [strOfNums_size, strOfNums_size]; exact h)

theorem run_eq_same (w : World) (A : ByteArray) (x y : Operand) : ((do eqGuard .eql 9 x y (.string A) (.string A); binOp .eql 9 (.string A) (.string A) : Sem Value)).run Try.prog w = .ok (.bool true) w := by
  rw [run_eq_str]; simp

theorem run_eq_int_same (w : World) (A : Int) (x y : Operand) : ((do eqGuard .eql 3 x y (.int .i64 A) (.int .i64 A); binOp .eql 3 (.int .i64 A) (.int .i64 A) : Sem Value)).run Try.prog w = .ok (.bool true) w := by
  rw [run_eq_int]; simp

theorem size_new (w : World) (n : Nat) (h1 : n < 18446744073709551616) : Calls Try.prog 12 #[.int .u64 (n : Int)] w fun e w' => ∃ v, e = .returned v ∧ Below w.heap.size w w' ∧ E (.int .i64 (sz n : Int)) v w' := by
  refine (size_any n w (by omega) (by omega)).mono ?_
  rintro e w' ⟨rfl, rfl⟩
  exact ⟨_, rfl, Below.refl _ _, by rw [Int.toNat_natCast]; rfl⟩

theorem live_new (w : World) : Calls Try.prog 9 #[] w fun e w' => ∃ v, e = .returned v ∧ Below w.heap.size w w' ∧ E (.bool true) v w' := by
  refine (live_any w).mono ?_
  rintro e w' ⟨rfl, hb⟩
  exact ⟨_, rfl, hb, rfl⟩

end Go.Proofs.Ytmclojhnacpkkaa
