/-
  What is proved here: runs of single operations for the last statement of the law MomentPartial.
-/
import Derived.Test.YtpgiekjkmfbmaaaReg3
import Derived.Test.YtpgiekjkmfbmaaaPlanS
namespace Go.Proofs.Ytpgiekjkmfbmaaa
open Go.RowKit Go.Proofs
set_option linter.unusedVariables false
set_option linter.unusedSimpArgs false

section
variable {a : Act} {t c : Nat} {dst : Option Tmp} {ty : TypeId} {pos : String} {aft : Array Edge} {guard : Option (Nat × Bool)}

theorem run_pick_const {v : Value} {y : Operand} (w : World) (h : PB.slot a c = .bool true) :
    (execOp a.eval { dst := dst, op := .pick (.tmp c) (.const v) y, type := ty, pos := pos, after := aft, guard := guard }).run Try.prog w = .ok (.value v) w := by
  have h1 : a.eval (.tmp c) = .bool true := h
  simp only [execOp, h1]
  rfl

theorem run_pick_else {v : Value} {x : Operand} (w : World) (h : PB.slot a c = .bool false) (h' : PB.slot a t = v) :
    (execOp a.eval { dst := dst, op := .pick (.tmp c) x (.tmp t), type := ty, pos := pos, after := aft, guard := guard }).run Try.prog w = .ok (.value v) w := by
  have h1 : a.eval (.tmp c) = .bool false := h
  have h2 : a.eval (.tmp t) = v := h'
  simp only [execOp, h1, h2]
  rfl

theorem run_pick_then {v : Value} {y : Operand} (w : World) (h : PB.slot a c = .bool true) (h' : PB.slot a t = v) :
    (execOp a.eval { dst := dst, op := .pick (.tmp c) (.tmp t) y, type := ty, pos := pos, after := aft, guard := guard }).run Try.prog w = .ok (.value v) w := by
  have h1 : a.eval (.tmp c) = .bool true := h
  have h2 : a.eval (.tmp t) = v := h'
  simp only [execOp, h1, h2]
  rfl

theorem run_pick_elseC {v : Value} {x : Operand} (w : World) (h : PB.slot a c = .bool false) :
    (execOp a.eval { dst := dst, op := .pick (.tmp c) x (.const v), type := ty, pos := pos, after := aft, guard := guard }).run Try.prog w = .ok (.value v) w := by
  have h1 : a.eval (.tmp c) = .bool false := h
  simp only [execOp, h1]
  rfl

theorem run_not {b : Bool} (w : World) (h : PB.slot a t = .bool b) :
    (execOp a.eval { dst := dst, op := .unOp .not 4 (.tmp t), type := ty, pos := pos, after := aft, guard := guard }).run Try.prog w = .ok (.value (.bool (!b))) w := by
  have h1 : a.tmps[t]?.getD undef = .bool b := by rw [← Array.getD_eq_getD_getElem?]; exact h
  go_simp

theorem run_neg {z : Int} (w : World) (h : PB.slot a t = .int .i64 z) (hz : z = -1 ∨ z = 0 ∨ z = 1) :
    (execOp a.eval { dst := dst, op := .unOp .neg 3 (.tmp t), type := ty, pos := pos, after := aft, guard := guard }).run Try.prog w = .ok (.value (.int .i64 (-z))) w := by
  have h1 : a.tmps[t]?.getD undef = .int .i64 z := by rw [← Array.getD_eq_getD_getElem?]; exact h
  rcases hz with rfl | rfl | rfl <;> go_simp <;> decide
end

theorem run_leq0 (w : World) (z : Int) (x y : Operand) (h : z ≤ 0) : ((do eqGuard .leq 3 x y (.int .i64 z) (.int .i64 0); binOp .leq 3 (.int .i64 z) (.int .i64 0) : Sem Value)).run Try.prog w = .ok (.bool true) w := by
  go_simp

theorem run_neB (w : World) (z : Bool) (x y : Operand) : ((do eqGuard .neq 4 x y (.bool z) (.bool z); binOp .neq 4 (.bool z) (.bool z) : Sem Value)).run Try.prog w = .ok (.bool false) w := by
  go_simp

theorem run_eqN (w : World) (z : Int) (x y : Operand) : ((do eqGuard .eql 3 x y (.int .i64 z) (.int .i64 (- -z)); binOp .eql 3 (.int .i64 z) (.int .i64 (- -z)) : Sem Value)).run Try.prog w = .ok (.bool true) w := by
  rw [Int.neg_neg]
  exact run_eqI w z x y

theorem cf_range (x y : T) : cfT x y = -1 ∨ cfT x y = 0 ∨ cfT x y = 1 := by
  unfold cfT
  split
  · omega
  · split
    · omega
    · split
      · omega
      · split <;> omega

theorem lessEq_all (w : World) (x1 x2 y1 y2 : Int) (n : Nat) (os : Array Obj) : Calls Try.prog 9 #[.agg #[.int .i64 x1, .int .i64 x2], .agg #[.int .i64 y1, .int .i64 y2]] (Sort.grow (w.drewN n) os) fun e w' => e = .returned (.bool (le2 (x1, x2) (y1, y2))) ∧ ∃ q os', w' = Sort.grow ((Sort.grow (w.drewN n) os).drewN q) os' :=
  lessEq_grown (x1, x2) (y1, y2) w n os

end Go.Proofs.Ytpgiekjkmfbmaaa
