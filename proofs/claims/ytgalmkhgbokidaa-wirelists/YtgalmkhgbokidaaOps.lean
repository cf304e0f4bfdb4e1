/-
  What is proved here: single operations: a field's address, loads, stores, parts of tuples, in the form that a drawn statement wants.
-/
import Derived.Test.YtgalmkhgbokidaaWA
import Derived.Test.YtgalmkhgbokidaaPQ
import Derived.Test.YtgalmkhgbokidaaTail
namespace Go.Proofs.Ytgalmkhgbokidaa
open Go.RowKit Go.Proofs
set_option maxRecDepth 20000
set_option linter.unusedVariables false
set_option linter.unusedSimpArgs false

section
variable {a : Act} {t u c : Nat} {dst : Option Tmp} {ty : TypeId} {pos : String} {aft : Array Edge} {guard : Option (Nat × Bool)}

theorem run_moveD {v : Value} (w : World) (h : PB.slot a t = v) : (execOp a.eval { dst := dst, op := .move (.tmp t), type := ty, pos := pos, after := aft, guard := guard }).run Try.prog w = .ok (.value v) w := by
  have h1 : a.tmps[t]?.getD undef = v := by rw [← Array.getD_eq_getD_getElem?]; exact h
  go_simp

theorem run_assD {v : Value} (w : World) (h : PB.slot a t = v) : (execOp a.eval { dst := dst, op := .assign (.tmp t), type := ty, pos := pos, after := aft, guard := guard }).run Try.prog w = .ok (.value v) w := by
  have h1 : a.tmps[t]?.getD undef = v := by rw [← Array.getD_eq_getD_getElem?]; exact h
  go_simp

theorem run_nilc {g : Nat} (w : World) (h : PB.slot a t = ptr g) : (execOp a.eval { dst := dst, op := .nilCheck (.tmp t), type := ty, pos := pos, after := aft, guard := guard }).run Try.prog w = .ok (.value (ptr g)) w := by
  have h1 : a.tmps[t]?.getD undef = ptr g := by rw [← Array.getD_eq_getD_getElem?]; exact h
  unfold ptr at *
  go_simp

theorem run_faTime0 {g : Nat} (w : World) (h : PB.slot a t = ptr g) : (execOp a.eval { dst := dst, op := .fieldAddr 26 (.tmp t) 0, type := ty, pos := pos, after := aft, guard := guard }).run Try.prog w = .ok (.value (.pointer (some ⟨g, 0, none⟩))) w := by
  have h1 : a.tmps[t]?.getD undef = ptr g := by rw [← Array.getD_eq_getD_getElem?]; exact h
  unfold ptr at *
  go_simp

theorem run_faTime1 {g : Nat} (w : World) (h : PB.slot a t = ptr g) : (execOp a.eval { dst := dst, op := .fieldAddr 26 (.tmp t) 1, type := ty, pos := pos, after := aft, guard := guard }).run Try.prog w = .ok (.value (.pointer (some ⟨g, 1, none⟩))) w := by
  have h1 : a.tmps[t]?.getD undef = ptr g := by rw [← Array.getD_eq_getD_getElem?]; exact h
  unfold ptr at *
  go_simp

theorem run_faVal0 {g : Nat} (w : World) (h : PB.slot a t = ptr g) : (execOp a.eval { dst := dst, op := .fieldAddr 78 (.tmp t) 0, type := ty, pos := pos, after := aft, guard := guard }).run Try.prog w = .ok (.value (.pointer (some ⟨g, 0, none⟩))) w := by
  have h1 : a.tmps[t]?.getD undef = ptr g := by rw [← Array.getD_eq_getD_getElem?]; exact h
  unfold ptr at *
  go_simp

theorem run_faVal1 {g : Nat} (w : World) (h : PB.slot a t = ptr g) : (execOp a.eval { dst := dst, op := .fieldAddr 78 (.tmp t) 1, type := ty, pos := pos, after := aft, guard := guard }).run Try.prog w = .ok (.value (.pointer (some ⟨g, 1, none⟩))) w := by
  have h1 : a.tmps[t]?.getD undef = ptr g := by rw [← Array.getD_eq_getD_getElem?]; exact h
  unfold ptr at *
  go_simp

theorem run_faVal2 {g : Nat} (w : World) (h : PB.slot a t = ptr g) : (execOp a.eval { dst := dst, op := .fieldAddr 78 (.tmp t) 2, type := ty, pos := pos, after := aft, guard := guard }).run Try.prog w = .ok (.value (.pointer (some ⟨g, 2, none⟩))) w := by
  have h1 : a.tmps[t]?.getD undef = ptr g := by rw [← Array.getD_eq_getD_getElem?]; exact h
  unfold ptr at *
  go_simp

theorem run_faCmd0 {g : Nat} (w : World) (h : PB.slot a t = ptr g) : (execOp a.eval { dst := dst, op := .fieldAddr 31 (.tmp t) 0, type := ty, pos := pos, after := aft, guard := guard }).run Try.prog w = .ok (.value (.pointer (some ⟨g, 0, none⟩))) w := by
  have h1 : a.tmps[t]?.getD undef = ptr g := by rw [← Array.getD_eq_getD_getElem?]; exact h
  unfold ptr at *
  go_simp

theorem run_faCmd1 {g : Nat} (w : World) (h : PB.slot a t = ptr g) : (execOp a.eval { dst := dst, op := .fieldAddr 31 (.tmp t) 1, type := ty, pos := pos, after := aft, guard := guard }).run Try.prog w = .ok (.value (.pointer (some ⟨g, 1, none⟩))) w := by
  have h1 : a.tmps[t]?.getD undef = ptr g := by rw [← Array.getD_eq_getD_getElem?]; exact h
  unfold ptr at *
  go_simp

theorem run_faCmd2 {g : Nat} (w : World) (h : PB.slot a t = ptr g) : (execOp a.eval { dst := dst, op := .fieldAddr 31 (.tmp t) 2, type := ty, pos := pos, after := aft, guard := guard }).run Try.prog w = .ok (.value (.pointer (some ⟨g, 2, none⟩))) w := by
  have h1 : a.tmps[t]?.getD undef = ptr g := by rw [← Array.getD_eq_getD_getElem?]; exact h
  unfold ptr at *
  go_simp

theorem run_faCmd3 {g : Nat} (w : World) (h : PB.slot a t = ptr g) : (execOp a.eval { dst := dst, op := .fieldAddr 31 (.tmp t) 3, type := ty, pos := pos, after := aft, guard := guard }).run Try.prog w = .ok (.value (.pointer (some ⟨g, 6, none⟩))) w := by
  have h1 : a.tmps[t]?.getD undef = ptr g := by rw [← Array.getD_eq_getD_getElem?]; exact h
  unfold ptr at *
  go_simp

theorem run_faCmd4 {g : Nat} (w : World) (h : PB.slot a t = ptr g) : (execOp a.eval { dst := dst, op := .fieldAddr 31 (.tmp t) 4, type := ty, pos := pos, after := aft, guard := guard }).run Try.prog w = .ok (.value (.pointer (some ⟨g, 7, none⟩))) w := by
  have h1 : a.tmps[t]?.getD undef = ptr g := by rw [← Array.getD_eq_getD_getElem?]; exact h
  unfold ptr at *
  go_simp

theorem run_faCmd5 {g : Nat} (w : World) (h : PB.slot a t = ptr g) : (execOp a.eval { dst := dst, op := .fieldAddr 31 (.tmp t) 5, type := ty, pos := pos, after := aft, guard := guard }).run Try.prog w = .ok (.value (.pointer (some ⟨g, 8, none⟩))) w := by
  have h1 : a.tmps[t]?.getD undef = ptr g := by rw [← Array.getD_eq_getD_getElem?]; exact h
  unfold ptr at *
  go_simp

theorem run_faRdr0 {g : Nat} (w : World) (h : PB.slot a t = ptr g) : (execOp a.eval { dst := dst, op := .fieldAddr 82 (.tmp t) 0, type := ty, pos := pos, after := aft, guard := guard }).run Try.prog w = .ok (.value (.pointer (some ⟨g, 0, none⟩))) w := by
  have h1 : a.tmps[t]?.getD undef = ptr g := by rw [← Array.getD_eq_getD_getElem?]; exact h
  unfold ptr at *
  go_simp

theorem run_faRdr1 {g : Nat} (w : World) (h : PB.slot a t = ptr g) : (execOp a.eval { dst := dst, op := .fieldAddr 82 (.tmp t) 1, type := ty, pos := pos, after := aft, guard := guard }).run Try.prog w = .ok (.value (.pointer (some ⟨g, 1, none⟩))) w := by
  have h1 : a.tmps[t]?.getD undef = ptr g := by rw [← Array.getD_eq_getD_getElem?]; exact h
  unfold ptr at *
  go_simp

theorem run_faRdr2 {g : Nat} (w : World) (h : PB.slot a t = ptr g) : (execOp a.eval { dst := dst, op := .fieldAddr 82 (.tmp t) 2, type := ty, pos := pos, after := aft, guard := guard }).run Try.prog w = .ok (.value (.pointer (some ⟨g, 2, none⟩))) w := by
  have h1 : a.tmps[t]?.getD undef = ptr g := by rw [← Array.getD_eq_getD_getElem?]; exact h
  unfold ptr at *
  go_simp

theorem run_faUp0 {g : Nat} (w : World) (h : PB.slot a t = .pointer (some ⟨g, 2, none⟩)) : (execOp a.eval { dst := dst, op := .fieldAddr 28 (.tmp t) 0, type := ty, pos := pos, after := aft, guard := guard }).run Try.prog w = .ok (.value (.pointer (some ⟨g, 2, none⟩))) w := by
  have h1 : a.tmps[t]?.getD undef = .pointer (some ⟨g, 2, none⟩) := by rw [← Array.getD_eq_getD_getElem?]; exact h
  go_simp

theorem run_faUp1 {g : Nat} (w : World) (h : PB.slot a t = .pointer (some ⟨g, 2, none⟩)) : (execOp a.eval { dst := dst, op := .fieldAddr 28 (.tmp t) 1, type := ty, pos := pos, after := aft, guard := guard }).run Try.prog w = .ok (.value (.pointer (some ⟨g, 3, none⟩))) w := by
  have h1 : a.tmps[t]?.getD undef = .pointer (some ⟨g, 2, none⟩) := by rw [← Array.getD_eq_getD_getElem?]; exact h
  go_simp

theorem run_faUp2 {g : Nat} (w : World) (h : PB.slot a t = .pointer (some ⟨g, 2, none⟩)) : (execOp a.eval { dst := dst, op := .fieldAddr 28 (.tmp t) 2, type := ty, pos := pos, after := aft, guard := guard }).run Try.prog w = .ok (.value (.pointer (some ⟨g, 5, none⟩))) w := by
  have h1 : a.tmps[t]?.getD undef = .pointer (some ⟨g, 2, none⟩) := by rw [← Array.getD_eq_getD_getElem?]; exact h
  go_simp

theorem run_loadBy {g k : Nat} {x : Option Addr} {n m : Nat} (w : World) (h : PB.slot a t = .pointer (some ⟨g, k, none⟩)) (hc : w.cell? ⟨g, k, none⟩ = some (.slice x n m)) :
    (execOp a.eval { dst := dst, op := .load 22 (.tmp t), type := ty, pos := pos, after := aft, guard := guard }).run Try.prog w = .ok (.value (.slice x n m)) w := by
  have h0 : a.tmps[t]?.getD undef = .pointer (some ⟨g, k, none⟩) := by rw [← Array.getD_eq_getD_getElem?]; exact h
  go_simp

theorem run_loadRw {g k : Nat} {x : Option Addr} {n m : Nat} (w : World) (h : PB.slot a t = .pointer (some ⟨g, k, none⟩)) (hc : w.cell? ⟨g, k, none⟩ = some (.slice x n m)) :
    (execOp a.eval { dst := dst, op := .load 24 (.tmp t), type := ty, pos := pos, after := aft, guard := guard }).run Try.prog w = .ok (.value (.slice x n m)) w := by
  have h0 : a.tmps[t]?.getD undef = .pointer (some ⟨g, k, none⟩) := by rw [← Array.getD_eq_getD_getElem?]; exact h
  go_simp

theorem run_loadTi {g k : Nat} {x : Option Addr} {n m : Nat} (w : World) (h : PB.slot a t = .pointer (some ⟨g, k, none⟩)) (hc : w.cell? ⟨g, k, none⟩ = some (.slice x n m)) :
    (execOp a.eval { dst := dst, op := .load 29 (.tmp t), type := ty, pos := pos, after := aft, guard := guard }).run Try.prog w = .ok (.value (.slice x n m)) w := by
  have h0 : a.tmps[t]?.getD undef = .pointer (some ⟨g, k, none⟩) := by rw [← Array.getD_eq_getD_getElem?]; exact h
  go_simp

theorem run_loadZ {g k : Nat} {z : Int} (w : World) (h : PB.slot a t = .pointer (some ⟨g, k, none⟩)) (hc : w.cell? ⟨g, k, none⟩ = some (.int .i64 z)) :
    (execOp a.eval { dst := dst, op := .load 3 (.tmp t), type := ty, pos := pos, after := aft, guard := guard }).run Try.prog w = .ok (.value (.int .i64 z)) w := by
  have h0 : a.tmps[t]?.getD undef = .pointer (some ⟨g, k, none⟩) := by rw [← Array.getD_eq_getD_getElem?]; exact h
  go_simp

theorem run_loadS {g k : Nat} {z : ByteArray} (w : World) (h : PB.slot a t = .pointer (some ⟨g, k, none⟩)) (hc : w.cell? ⟨g, k, none⟩ = some (.string z)) :
    (execOp a.eval { dst := dst, op := .load 9 (.tmp t), type := ty, pos := pos, after := aft, guard := guard }).run Try.prog w = .ok (.value (.string z)) w := by
  have h0 : a.tmps[t]?.getD undef = .pointer (some ⟨g, k, none⟩) := by rw [← Array.getD_eq_getD_getElem?]; exact h
  go_simp

theorem run_loadT {g k : Nat} {x y : Int} (w : World) (h : PB.slot a t = .pointer (some ⟨g, k, none⟩)) (hc : w.cell? ⟨g, k, none⟩ = some (.int .i64 x)) (hc1 : w.cell? ⟨g, k + 1, none⟩ = some (.int .i64 y)) :
    (execOp a.eval { dst := dst, op := .load 26 (.tmp t), type := ty, pos := pos, after := aft, guard := guard }).run Try.prog w = .ok (.value (.agg #[.int .i64 x, .int .i64 y])) w := by
  have h0 : a.tmps[t]?.getD undef = .pointer (some ⟨g, k, none⟩) := by rw [← Array.getD_eq_getD_getElem?]; exact h
  go_simp

theorem run_ext0 {x y z : Value} (w : World) (h : PB.slot a t = .tuple #[x, y, z]) : (execOp a.eval { dst := dst, op := .extract (.tmp t) 0, type := ty, pos := pos, after := aft, guard := guard }).run Try.prog w = .ok (.value x) w := by
  have h1 : a.tmps[t]?.getD undef = .tuple #[x, y, z] := by rw [← Array.getD_eq_getD_getElem?]; exact h
  go_simp

theorem run_ext1 {x y z : Value} (w : World) (h : PB.slot a t = .tuple #[x, y, z]) : (execOp a.eval { dst := dst, op := .extract (.tmp t) 1, type := ty, pos := pos, after := aft, guard := guard }).run Try.prog w = .ok (.value y) w := by
  have h1 : a.tmps[t]?.getD undef = .tuple #[x, y, z] := by rw [← Array.getD_eq_getD_getElem?]; exact h
  go_simp

theorem run_ext2 {x y z : Value} (w : World) (h : PB.slot a t = .tuple #[x, y, z]) : (execOp a.eval { dst := dst, op := .extract (.tmp t) 2, type := ty, pos := pos, after := aft, guard := guard }).run Try.prog w = .ok (.value z) w := by
  have h1 : a.tmps[t]?.getD undef = .tuple #[x, y, z] := by rw [← Array.getD_eq_getD_getElem?]; exact h
  go_simp

theorem run_loadC {b o : Nat} {c : Cm} {s : CmS} (w : World) (h : PB.slot a t = .pointer (some ⟨b, o, none⟩)) (hc : ∀ i, i < 9 → w.cell? ⟨b, o + i, none⟩ = (cmA c s)[i]?) :
    (execOp a.eval { dst := dst, op := .load 31 (.tmp t), type := ty, pos := pos, after := aft, guard := guard }).run Try.prog w = .ok (.value (cmV c s)) w := by
  have h0 : a.tmps[t]?.getD undef = .pointer (some ⟨b, o, none⟩) := by rw [← Array.getD_eq_getD_getElem?]; exact h
  have k0 : w.cell? ⟨b, o, none⟩ = some (.int .i64 c.op) := hc 0 (by omega)
  have k1 : w.cell? ⟨b, o + 1, none⟩ = some (.int .i64 c.node) := hc 1 (by omega)
  have k2 : w.cell? ⟨b, o + 2, none⟩ = some (.slice s.ra c.row.length s.rc) := hc 2 (by omega)
  have k3 : w.cell? ⟨b, o + 3, none⟩ = some (.int .i64 c.time.1) := hc 3 (by omega)
  have k4 : w.cell? ⟨b, o + 4, none⟩ = some (.int .i64 c.time.2) := hc 4 (by omega)
  have k5 : w.cell? ⟨b, o + 5, none⟩ = some (.int .i64 c.diff) := hc 5 (by omega)
  have k6 : w.cell? ⟨b, o + 6, none⟩ = some (.slice s.fa c.front.length s.fc) := hc 6 (by omega)
  have k7 : w.cell? ⟨b, o + 7, none⟩ = some (.int .i64 c.fuel) := hc 7 (by omega)
  have k8 : w.cell? ⟨b, o + 8, none⟩ = some (.slice s.sa c.sheet.length s.sc) := hc 8 (by omega)
  unfold cmV cmA
  clear hc
  go_simp
end

end Go.Proofs.Ytgalmkhgbokidaa
