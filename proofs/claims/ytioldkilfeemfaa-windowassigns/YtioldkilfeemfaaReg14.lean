/-
  What is proved here: single operations of the statement out = append(out, append(append(Row, r..), Val)) of the document's Assign, and what lasts while it goes on.
-/
import Derived.Test.YtioldkilfeemfaaPlace
namespace Go.Proofs.Ytioldkilfeemfaa
open Go.RowKit Go.Proofs
set_option linter.unusedVariables false
set_option linter.unusedSimpArgs false

section
variable {a : Act} {t u c : Nat} {dst : Option Tmp} {ty : TypeId} {pos : String} {aft : Array Edge} {guard : Option (Nat × Bool)}

theorem run_indexI {b off n cap i : Nat} (w : World) (h : PB.slot a t = .slice (some ⟨b, off, none⟩) n cap) (h' : PB.slot a u = .int .i64 (i : Int)) (hi : i < n) (hn : n ≤ 1000000000) :
    (execOp a.eval { dst := dst, op := .indexAddr 22 (.tmp t) (.tmp u), type := ty, pos := pos, after := aft, guard := guard }).run Try.prog w = .ok (.value (.pointer (some ⟨b, off + i, none⟩))) w := by
  have h1 : a.tmps[t]?.getD undef = .slice (some ⟨b, off, none⟩) n cap := by rw [← Array.getD_eq_getD_getElem?]; exact h
  have h2 : a.tmps[u]?.getD undef = .int .i64 (i : Int) := by rw [← Array.getD_eq_getD_getElem?]; exact h'
  go_simp

theorem run_loadI {b o : Nat} {x : Int} (w : World) (h : PB.slot a t = .pointer (some ⟨b, o, none⟩)) (h1 : w.cell? ⟨b, o, none⟩ = some (.int .i64 x)) :
    (execOp a.eval { dst := dst, op := .load 3 (.tmp t), type := ty, pos := pos, after := aft, guard := guard }).run Try.prog w = .ok (.value (.int .i64 x)) w := by
  have h0 : a.tmps[t]?.getD undef = .pointer (some ⟨b, o, none⟩) := by rw [← Array.getD_eq_getD_getElem?]; exact h
  go_simp

theorem run_build {x : Int} (w : World) (h : PB.slot a t = .int .i64 x) :
    (execOp a.eval { dst := dst, op := .build 48 #[(1, .tmp t)], type := ty, pos := pos, after := aft, guard := guard }).run Try.prog w = .ok (.value (.agg #[.int .i64 0, .int .i64 x, .string ⟨#[]⟩])) w := by
  have h0 : a.tmps[t]?.getD undef = .int .i64 x := by rw [← Array.getD_eq_getD_getElem?]; exact h
  go_simp

theorem run_empty (w : World) :
    (execOp a.eval { dst := dst, op := .buildSlice 39 0 #[], type := ty, pos := pos, after := aft, guard := guard }).run Try.prog w = .ok (.value (.slice (some ⟨w.heap.size, 0, none⟩) 0 0)) (w.alloc (.cells #[] 48)) := by
  go_simp

theorem run_one {x : Int} (w : World) (h : PB.slot a t = .agg #[.int .i64 0, .int .i64 x, .string ⟨#[]⟩]) :
    (execOp a.eval { dst := dst, op := .buildSlice 39 1 #[(0, .tmp t)], type := ty, pos := pos, after := aft, guard := guard }).run Try.prog w = .ok (.value (.slice (some ⟨w.heap.size, 0, none⟩) 1 1)) (w.alloc (.cells #[.int .i64 0, .int .i64 x, .string ⟨#[]⟩] 48)) := by
  have h0 : a.tmps[t]?.getD undef = .agg #[.int .i64 0, .int .i64 x, .string ⟨#[]⟩] := by rw [← Array.getD_eq_getD_getElem?]; exact h
  go_simp

theorem run_oneR {x : Option Addr} {n m : Nat} (w : World) (h : PB.slot a t = .slice x n m) :
    (execOp a.eval { dst := dst, op := .buildSlice 41 1 #[(0, .tmp t)], type := ty, pos := pos, after := aft, guard := guard }).run Try.prog w = .ok (.value (.slice (some ⟨w.heap.size, 0, none⟩) 1 1)) (w.alloc (.cells #[.slice x n m] 39)) := by
  have h0 : a.tmps[t]?.getD undef = .slice x n m := by rw [← Array.getD_eq_getD_getElem?]; exact h
  go_simp
end

/-- A new row of values. -/
def NewV (B : Nat) (l : List V) : Value → World → Prop := fun v w => ∃ g cap, v = .slice (some ⟨g, 0, none⟩) l.length cap ∧ w.ownsRow B 48 3 v l.length (flat l)
/-- A new row of values with room for no more. -/
def NewT (B : Nat) (l : List V) : Value → World → Prop := fun v w => ∃ g, v = .slice (some ⟨g, 0, none⟩) l.length l.length ∧ w.ownsRow B 48 3 v l.length (flat l)
/-- A new slice of one new row of values. -/
def NewR (B : Nat) (l : List V) : Value → World → Prop := fun v w => ∃ g u, v = .slice (some ⟨g, 0, none⟩) 1 1 ∧ B ≤ g ∧ w.heap[g]? = some (.cells #[u] 39 (0, 0)) ∧ NewV B l u w

theorem newV_lasts (B : Nat) (l : List V) : PB.Lasts (NewV B l) := by
  rintro v w w' ⟨g, cap, rfl, ho⟩ hb
  exact ⟨g, cap, rfl, ownsRow_on ho hb⟩
theorem newT_lasts (B : Nat) (l : List V) : PB.Lasts (NewT B l) := by
  rintro v w w' ⟨g, rfl, ho⟩ hb
  exact ⟨g, rfl, ownsRow_on ho hb⟩
theorem newR_lasts (B : Nat) (l : List V) : PB.Lasts (NewR B l) := by
  rintro v w w' ⟨g, u, rfl, hB, hg, h⟩ hb
  exact ⟨g, u, rfl, hB, (hb.block g (Array.getElem?_eq_some_iff.1 hg).1).trans hg, newV_lasts B l u w w' h hb⟩

/-- How an operation of the statement changes memory. -/
def R14 (B n : Nat) (i : Nat) (w w' : World) : Prop := Below w.heap.size w w' ∨ (i = 10 ∧ InP B n w w')

theorem R14.refl (B n i : Nat) (w : World) : R14 B n i w w := Or.inl (Below.refl _ _)

theorem R14.below {n : Nat} {w0 : World} : ∀ i w w', Below w0.heap.size w0 w → R14 w0.heap.size n i w w' → Below w0.heap.size w0 w' := by
  rintro i w w' hb (h | ⟨_, h⟩)
  · exact hb.trans (h.mono hb.size)
  · exact InP.below hb hb.size h

/-- What the first twelve operations leave. -/
def left14 (B : Nat) (out r ints j p y : Value) (l : List V) (x : V) : List (Value → World → Prop) :=
  [PB.E out, NewT B [], PB.E r, NewV B l, PB.E ints, PB.E j, PB.E p, PB.E y, PB.E (aggV x), NewT B [x], NewV B (l ++ [x]), NewR B (l ++ [x])]

theorem left14_last (B : Nat) (out r ints j p y : Value) (l : List V) (x : V) : PB.LastAll (left14 B out r ints j p y l x) :=
  ⟨PB.E_lasts _, newT_lasts _ _, PB.E_lasts _, newV_lasts _ _, PB.E_lasts _, PB.E_lasts _, PB.E_lasts _, PB.E_lasts _, PB.E_lasts _, newT_lasts _ _, newV_lasts _ _, newR_lasts _ _, trivial⟩

theorem left14_lasts (B n : Nat) (out r ints jv p y : Value) (l : List V) (x : V) (hn : l.length = n) (hp : 0 < n) (i j : Nat) (v : Value) (w w' : World) (hij : i ≠ j) (h11 : i = 10 → j ≠ 11) (h : PB.phi (left14 B out r ints jv p y l x) j v w) (hr : R14 B n i w w') : PB.phi (left14 B out r ints jv p y l x) j v w' := by
  rcases hr with hb | ⟨rfl, hi⟩
  · exact PB.phi_lasts _ (left14_last B out r ints jv p y l x) j v w w' h hb
  · match j, hij, h11, h with
    | 0, _, _, h => exact h
    | 1, _, _, ⟨g, e, ho⟩ => exact ⟨g, e, hi.owns ho (by simp)⟩
    | 2, _, _, h => exact h
    | 3, _, _, ⟨g, cap, e, ho⟩ => exact ⟨g, cap, e, hi.owns ho (by omega)⟩
    | 4, _, _, h => exact h
    | 5, _, _, h => exact h
    | 6, _, _, h => exact h
    | 7, _, _, h => exact h
    | 8, _, _, h => exact h
    | 9, _, _, ⟨g, e, ho⟩ => exact ⟨g, e, hi.owns ho (by simp; omega)⟩
    | 10, hij, _, _ => exact absurd rfl hij
    | 11, _, h11, _ => exact absurd rfl (h11 rfl)
    | j + 12, _, _, h => exact h

theorem newV_of {B k : Nat} {w : World} {v : Value} {xs : List Value} {l : List V} (h : w.ownsRow B 48 3 v k xs) (hk : k = l.length) (hx : xs = flat l) (hp : 0 < k) : NewV B l v w := by
  subst hx
  subst hk
  rcases h.2 with ⟨_, h0⟩ | ⟨g, cap, cur, e, _⟩
  · omega
  · exact ⟨g, cap, e, h⟩

end Go.Proofs.Ytioldkilfeemfaa
