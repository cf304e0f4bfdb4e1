/-
  What is proved here: the document's Get tells the command that the bytes tell from a place on.
-/
import Derived.Test.YtgalmkhgbokidaaWU
namespace Go.Proofs.Ytgalmkhgbokidaa
open Go.RowKit Go.Proofs
set_option maxRecDepth 20000
set_option linter.unusedVariables false
set_option linter.unusedSimpArgs false

section
variable {a : Act} {t u c : Nat} {dst : Option Tmp} {ty : TypeId} {pos : String} {aft : Array Edge} {guard : Option (Nat × Bool)}
theorem run_storeT {g k : Nat} {x y : Int} {p q : Value} (w : World) (h : PB.slot a t = .pointer (some ⟨g, k, none⟩)) (h' : PB.slot a u = .agg #[.int .i64 x, .int .i64 y]) (hc : w.cell? ⟨g, k, none⟩ = some p) (hc1 : w.cell? ⟨g, k + 1, none⟩ = some q) (hf : w.frozen? ⟨g, k, none⟩ = false) (hf1 : w.frozen? ⟨g, k + 1, none⟩ = false) :
    (execOp a.eval { dst := dst, op := .store 26 (.tmp t) (.tmp u), type := ty, pos := pos, after := aft, guard := guard }).run Try.prog w = .ok .skip ((w.setCell ⟨g, k, none⟩ (.int .i64 x)).setCell ⟨g, k + 1, none⟩ (.int .i64 y)) := by
  have h0 : a.tmps[t]?.getD undef = .pointer (some ⟨g, k, none⟩) := by rw [← Array.getD_eq_getD_getElem?]; exact h
  have h1 : a.tmps[u]?.getD undef = .agg #[.int .i64 x, .int .i64 y] := by rw [← Array.getD_eq_getD_getElem?]; exact h'
  go_simp
theorem run_storeZ {g k : Nat} {x : Int} {p : Value} (w : World) (h : PB.slot a t = .pointer (some ⟨g, k, none⟩)) (h' : PB.slot a u = .int .i64 x) (hc : w.cell? ⟨g, k, none⟩ = some p) (hf : w.frozen? ⟨g, k, none⟩ = false) :
    (execOp a.eval { dst := dst, op := .store 3 (.tmp t) (.tmp u), type := ty, pos := pos, after := aft, guard := guard }).run Try.prog w = .ok .skip (w.setCell ⟨g, k, none⟩ (.int .i64 x)) := by
  have h0 : a.tmps[t]?.getD undef = .pointer (some ⟨g, k, none⟩) := by rw [← Array.getD_eq_getD_getElem?]; exact h
  have h1 : a.tmps[u]?.getD undef = .int .i64 x := by rw [← Array.getD_eq_getD_getElem?]; exact h'
  go_simp
end

theorem cell_set {w : World} {g i : Nat} {v : Value} {p : Addr} (h : p.block ≠ g) : (w.setCell ⟨g, i, none⟩ v).cell? p = w.cell? p := World.cell?_of_block (Below.heap_setCell _ _ _ _ h)

def r5Val (g nb noff c : Nat) (x y : Int) (i : Nat) : Option Value :=
  [some (.slice (some ⟨nb, noff, none⟩) 2 c), some (.pointer (some ⟨nb, noff + 0, none⟩)), some (.int .i64 x), some (.slice (some ⟨nb, noff, none⟩) 2 c), some (.pointer (some ⟨nb, noff + 1, none⟩)), some (.int .i64 y), some (.agg #[.int .i64 x, .int .i64 y]), some (.pointer (some ⟨g, 2, none⟩)), some (.pointer (some ⟨g, 3, none⟩)), none].getD i none

def r5Inv (w : World) (nb noff : Nat) (x y : Int) (c c' : Cm) (s : CmS) (vs : List Value) (W : World) : Prop :=
  match vs with
    | [] => DG w c s W ∧ W.cell? ⟨nb, noff + 0, none⟩ = some (.int .i64 x) ∧ W.cell? ⟨nb, noff + 1, none⟩ = some (.int .i64 y)
    | [_] => DG w c' s W
    | _ => False

def r1Val (g nb noff c : Nat) (x y z : Int) (i : Nat) : Option Value :=
  [some (.slice (some ⟨nb, noff, none⟩) 3 c), some (.pointer (some ⟨nb, noff + 0, none⟩)), some (.int .i64 x), some (.slice (some ⟨nb, noff, none⟩) 3 c), some (.pointer (some ⟨nb, noff + 1, none⟩)), some (.int .i64 y), some (.agg #[.int .i64 x, .int .i64 y]), some (.slice (some ⟨nb, noff, none⟩) 3 c), some (.pointer (some ⟨nb, noff + 2, none⟩)), some (.int .i64 z), some (.pointer (some ⟨g, 2, none⟩)), some (.pointer (some ⟨g, 3, none⟩)), none, some (.pointer (some ⟨g, 2, none⟩)), some (.pointer (some ⟨g, 5, none⟩)), none].getD i none

def r1Inv (w : World) (nb noff : Nat) (x y z : Int) (c c' c'' : Cm) (s : CmS) (vs : List Value) (W : World) : Prop :=
  (W.cell? ⟨nb, noff + 0, none⟩ = some (.int .i64 x) ∧ W.cell? ⟨nb, noff + 1, none⟩ = some (.int .i64 y) ∧ W.cell? ⟨nb, noff + 2, none⟩ = some (.int .i64 z)) ∧ match vs with
    | [] => DG w c s W
    | [_] => DG w c' s W
    | [_, _] => DG w c'' s W
    | _ => False

end Go.Proofs.Ytgalmkhgbokidaa
