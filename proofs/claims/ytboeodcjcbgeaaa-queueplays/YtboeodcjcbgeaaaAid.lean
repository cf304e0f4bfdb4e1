/-
  What is proved here: slices of times as values; runs of single operations inside a statement whose order is open; a new variable.
-/
import Derived.Test.YtboeodcjcbgeaaaAhead
import Derived.Test.YtboeodcjcbgeaaaTail
namespace Go.Proofs.Ytboeodcjcbgeaaa
open Go.RowKit Go.Proofs
set_option linter.unusedVariables false
set_option linter.unusedSimpArgs false

/-- A slice that reads as times. -/
def IsL (l : List T) : Value → World → Prop := fun v w => ∃ a c, v = .slice a l.length c ∧ l.length ≤ c ∧ ((a = none ∧ c = 0) ∨ ∃ ad, a = some ad) ∧ Ts w.heap.size w a l

set_option maxRecDepth 100000 in
theorem IsL.on {l : List T} {v : Value} {w w' : World} (h : IsL l v w) (hb : Below w.heap.size w w') : IsL l v w' := by
  obtain ⟨a, c, rfl, hc, hs, ht⟩ := h
  exact ⟨a, c, rfl, hc, hs, ht.on hb⟩

set_option maxRecDepth 100000 in
theorem isL_lasts (l : List T) : PB.Lasts (IsL l) := fun _ _ _ h hb => h.on hb

set_option maxRecDepth 100000 in
theorem IsL.range {l : List T} {v : Value} {w : World} (h : IsL l v w) : ∀ x ∈ l, RT x := by
  obtain ⟨a, c, rfl, hc, hs, ht⟩ := h
  exact ht.range

set_option maxRecDepth 100000 in
theorem IsL.of_owns {base e : Nat} {w : World} {v : Value} {l : List T} (h : w.ownsRow base e 2 v l.length (flat l)) (hr : ∀ x ∈ l, RT x) : IsL l v w := by
  obtain ⟨a, c, rfl, hc, ht⟩ := Ts.of_owns h hr
  refine ⟨a, c, rfl, hc, ?_, ht⟩
  rcases h.2 with ⟨h1, _⟩ | ⟨g, c', cur, h1, _⟩
  · simp at h1; exact .inl ⟨h1.1, h1.2.2⟩
  · simp at h1; exact .inr ⟨_, h1.1⟩

set_option maxRecDepth 100000 in
theorem isL_nil (w : World) : IsL [] (.slice none 0 0) w := ⟨none, 0, rfl, by simp, .inl ⟨rfl, rfl⟩, Ts.nil _ _ _⟩

/-- The steps of a list as a new slice. -/
def IsSteps (l : List T) : Value → World → Prop := fun v w => ∃ f, StepsOf l f ∧ f.length ≤ l.length ∧ IsL f v w

set_option maxRecDepth 100000 in
theorem isSteps_lasts (l : List T) : PB.Lasts (IsSteps l) := fun _ _ _ ⟨f, h1, h2, h3⟩ hb => ⟨f, h1, h2, h3.on hb⟩

set_option maxRecDepth 100000 in
theorem new_newB (l : List T) (v : Value) (w : World) (h : IsL l v w) (hl : l.length ≤ 1000000000) : Calls Try.prog 25 #[v] w fun e w' => ∃ u, e = .returned u ∧ Below w.heap.size w w' ∧ IsSteps l u w' := by
  obtain ⟨a, c, rfl, hc, hs, ht⟩ := h
  refine (new_any w a c l ht hl).mono ?_
  rintro e w' ⟨u, f, rfl, hfl, hst, hrow, hb⟩
  exact ⟨u, rfl, hb, f, hst, hfl, IsL.of_owns hrow (fun x hx => ht.range x (hst.sub x hx))⟩

/-- A new variable that holds no time yet, made since w0. -/
def Nw (w0 : World) : Value → World → Prop := fun v w => ∃ g, v = .pointer (some ⟨g, 0, none⟩) ∧ w0.heap.size ≤ g ∧ w.heap[g]? = some (.cells #[.int .i64 0, .int .i64 0] 36 (0, 0))

set_option maxRecDepth 100000 in
theorem nw_lasts (w0 : World) : PB.Lasts (Nw w0) := by
  rintro v w w' ⟨g, rfl, h0, h2⟩ hb
  exact ⟨g, rfl, h0, (hb.block g (Array.getElem?_eq_some_iff.1 h2).1).trans h2⟩

/-- A variable that holds a time. -/
def Box (w : World) (g : Nat) (x : T) : Prop := w.heap[g]? = some (.cells #[.int .i64 x.1, .int .i64 x.2] 36 (0, 0))

set_option maxRecDepth 100000 in
theorem Box.lt {w : World} {g : Nat} {x : T} (h : Box w g x) : g < w.heap.size := (Array.getElem?_eq_some_iff.1 h).1
set_option maxRecDepth 100000 in
theorem Box.on {w w' : World} {g : Nat} {x : T} (h : Box w g x) (hb : Below w.heap.size w w') : Box w' g x := (hb.block g h.lt).trans h
set_option maxRecDepth 100000 in
theorem Box.keep {w w' : World} {B g : Nat} {x : T} (h : Box w g x) (hb : Below B w w') (hg : g < B) : Box w' g x := (hb.block g hg).trans h
set_option maxRecDepth 100000 in
theorem Box.c1 {w : World} {g : Nat} {x : T} (h : Box w g x) : w.cell? ⟨g, 0, none⟩ = some (.int .i64 x.1) := (box_facts h).1
set_option maxRecDepth 100000 in
theorem Box.c2 {w : World} {g : Nat} {x : T} (h : Box w g x) : w.cell? ⟨g, 1, none⟩ = some (.int .i64 x.2) := (box_facts h).2.1
set_option maxRecDepth 100000 in
theorem Box.f1 {w : World} {g : Nat} {x : T} (h : Box w g x) : w.frozen? ⟨g, 0, none⟩ = false := (box_facts h).2.2.1
set_option maxRecDepth 100000 in
theorem Box.f2 {w : World} {g : Nat} {x : T} (h : Box w g x) : w.frozen? ⟨g, 1, none⟩ = false := (box_facts h).2.2.2
set_option maxRecDepth 100000 in
theorem Box.new (w : World) (x : T) : Box (w.alloc (.cells #[.int .i64 x.1, .int .i64 x.2] 36)) w.heap.size x := World.alloc_heap_new w _
set_option maxRecDepth 100000 in
theorem Box.alloc {w : World} {g : Nat} {x : T} (h : Box w g x) (o : Obj) : Box (w.alloc o) g x := (Below.heap_alloc _ _ _ h.lt).trans h

set_option maxRecDepth 100000 in
theorem Box.set {w : World} {g : Nat} {y : T} (h : Box w g y) (x1 x2 : Int) : Box ((w.setCell ⟨g, 0, none⟩ (.int .i64 x1)).setCell ⟨g, 1, none⟩ (.int .i64 x2)) g (x1, x2) := by
  unfold Box at h ⊢
  simp [World.setCell, Array.getElem?_modify, h]

set_option maxRecDepth 100000 in
theorem set_other {w : World} {g k : Nat} (h : k ≠ g) (x y : Value) : ((w.setCell ⟨g, 0, none⟩ x).setCell ⟨g, 1, none⟩ y).heap[k]? = w.heap[k]? := by
  simp [World.setCell, Array.getElem?_modify, Ne.symm h]

set_option maxRecDepth 100000 in
theorem set_below {w0 w : World} {B g : Nat} (h : Below B w0 w) (hg : B ≤ g) (x y : Value) : Below B w0 ((w.setCell ⟨g, 0, none⟩ x).setCell ⟨g, 1, none⟩ y) := (h.setCell hg x).setCell hg y

section
variable {a : Act} {t u c : Nat} {dst : Option Tmp} {ty : TypeId} {pos : String} {aft : Array Edge} {guard : Option (Nat × Bool)}

set_option maxRecDepth 100000 in
theorem run_index {b off n cap i : Nat} (w : World) (h : PB.slot a t = .slice (some ⟨b, off, none⟩) n cap) (h' : PB.slot a u = .int .i64 (i : Int)) (hi : i < n) (hn : n ≤ 1000000000) :
    (execOp a.eval { dst := dst, op := .indexAddr 47 (.tmp t) (.tmp u), type := ty, pos := pos, after := aft, guard := guard }).run Try.prog w = .ok (.value (.pointer (some ⟨b, off + i * 2, none⟩))) w := by
  have h1 : a.tmps[t]?.getD undef = .slice (some ⟨b, off, none⟩) n cap := by rw [← Array.getD_eq_getD_getElem?]; exact h
  have h2 : a.tmps[u]?.getD undef = .int .i64 (i : Int) := by rw [← Array.getD_eq_getD_getElem?]; exact h'
  go_simp

set_option maxRecDepth 100000 in
theorem run_index0 {b off n cap : Nat} (w : World) (h : PB.slot a t = .slice (some ⟨b, off, none⟩) n cap) (hi : 0 < n) (hn : n ≤ 1000000000) :
    (execOp a.eval { dst := dst, op := .indexAddr 47 (.tmp t) (.const (.int .i64 0)), type := ty, pos := pos, after := aft, guard := guard }).run Try.prog w = .ok (.value (.pointer (some ⟨b, off, none⟩))) w := by
  have h1 : a.tmps[t]?.getD undef = .slice (some ⟨b, off, none⟩) n cap := by rw [← Array.getD_eq_getD_getElem?]; exact h
  go_simp

set_option maxRecDepth 100000 in
theorem run_load {b o : Nat} {x1 x2 : Int} (w : World) (h : PB.slot a t = .pointer (some ⟨b, o, none⟩)) (h1 : w.cell? ⟨b, o, none⟩ = some (.int .i64 x1)) (h2 : w.cell? ⟨b, o + 1, none⟩ = some (.int .i64 x2)) :
    (execOp a.eval { dst := dst, op := .load 36 (.tmp t), type := ty, pos := pos, after := aft, guard := guard }).run Try.prog w = .ok (.value (.agg #[.int .i64 x1, .int .i64 x2])) w := by
  have h0 : a.tmps[t]?.getD undef = .pointer (some ⟨b, o, none⟩) := by rw [← Array.getD_eq_getD_getElem?]; exact h
  go_simp

set_option maxRecDepth 100000 in
/-- The load of a variable. -/
theorem run_box {g : Nat} {x : T} (w : World) (h : PB.slot a t = .pointer (some ⟨g, 0, none⟩)) (hb : Box w g x) :
    (execOp a.eval { dst := dst, op := .load 36 (.tmp t), type := ty, pos := pos, after := aft, guard := guard }).run Try.prog w = .ok (.value (.agg #[.int .i64 x.1, .int .i64 x.2])) w :=
  run_load w h hb.c1 hb.c2

set_option maxRecDepth 100000 in
theorem run_alloc (w : World) : (execOp a.eval { dst := dst, op := .alloc 36, type := ty, pos := pos, after := aft, guard := guard }).run Try.prog w = .ok (.value (.pointer (some ⟨w.heap.size, 0, none⟩))) (w.alloc (.cells #[.int .i64 0, .int .i64 0] 36)) := by
  go_simp

set_option maxRecDepth 100000 in
theorem run_store {g : Nat} {x1 x2 : Int} {y : T} (w : World) (h : PB.slot a t = .pointer (some ⟨g, 0, none⟩)) (h' : PB.slot a u = .agg #[.int .i64 x1, .int .i64 x2]) (hb : Box w g y) :
    (execOp a.eval { dst := dst, op := .store 36 (.tmp t) (.tmp u), type := ty, pos := pos, after := aft, guard := guard }).run Try.prog w = .ok .skip ((w.setCell ⟨g, 0, none⟩ (.int .i64 x1)).setCell ⟨g, 1, none⟩ (.int .i64 x2)) := by
  have h1 : a.tmps[t]?.getD undef = .pointer (some ⟨g, 0, none⟩) := by rw [← Array.getD_eq_getD_getElem?]; exact h
  have h2 : a.tmps[u]?.getD undef = .agg #[.int .i64 x1, .int .i64 x2] := by rw [← Array.getD_eq_getD_getElem?]; exact h'
  have c0 := hb.c1
  have c1 := hb.c2
  have f0 := hb.f1
  have f1 := hb.f2
  clear hb
  go_simp

set_option maxRecDepth 100000 in
theorem run_pick_const {v : Value} {y : Operand} (w : World) (h : PB.slot a c = .bool true) :
    (execOp a.eval { dst := dst, op := .pick (.tmp c) (.const v) y, type := ty, pos := pos, after := aft, guard := guard }).run Try.prog w = .ok (.value v) w := by
  have h1 : a.eval (.tmp c) = .bool true := h
  simp only [execOp, h1]
  rfl

set_option maxRecDepth 100000 in
theorem run_pick_else {v : Value} {x : Operand} (w : World) (h : PB.slot a c = .bool false) (h' : PB.slot a t = v) :
    (execOp a.eval { dst := dst, op := .pick (.tmp c) x (.tmp t), type := ty, pos := pos, after := aft, guard := guard }).run Try.prog w = .ok (.value v) w := by
  have h1 : a.eval (.tmp c) = .bool false := h
  have h2 : a.eval (.tmp t) = v := h'
  simp only [execOp, h1, h2]
  rfl

set_option maxRecDepth 100000 in
theorem run_pick_then {v : Value} {y : Operand} (w : World) (h : PB.slot a c = .bool true) (h' : PB.slot a t = v) :
    (execOp a.eval { dst := dst, op := .pick (.tmp c) (.tmp t) y, type := ty, pos := pos, after := aft, guard := guard }).run Try.prog w = .ok (.value v) w := by
  have h1 : a.eval (.tmp c) = .bool true := h
  have h2 : a.eval (.tmp t) = v := h'
  simp only [execOp, h1, h2]
  rfl

set_option maxRecDepth 100000 in
theorem run_pick_elseC {v : Value} {x : Operand} (w : World) (h : PB.slot a c = .bool false) :
    (execOp a.eval { dst := dst, op := .pick (.tmp c) x (.const v), type := ty, pos := pos, after := aft, guard := guard }).run Try.prog w = .ok (.value v) w := by
  have h1 : a.eval (.tmp c) = .bool false := h
  simp only [execOp, h1]
  rfl

set_option maxRecDepth 100000 in
theorem run_not {b : Bool} (w : World) (h : PB.slot a t = .bool b) :
    (execOp a.eval { dst := dst, op := .unOp .not 4 (.tmp t), type := ty, pos := pos, after := aft, guard := guard }).run Try.prog w = .ok (.value (.bool (!b))) w := by
  have h1 : a.tmps[t]?.getD undef = .bool b := by rw [← Array.getD_eq_getD_getElem?]; exact h
  go_simp

set_option maxRecDepth 100000 in
theorem run_len {b : Option Addr} {n cap : Nat} (w : World) (h : PB.slot a t = .slice b n cap) :
    (execOp a.eval { dst := dst, op := .call { callee := .builtin .len, args := #[.tmp t], argTypes := #[47] }, type := ty, pos := pos, after := aft, guard := guard }).run Try.prog w = .ok (.value (.int .i64 (n : Int))) w := by
  have h1 : a.tmps[t]?.getD undef = .slice b n cap := by rw [← Array.getD_eq_getD_getElem?]; exact h
  go_simp
end

set_option maxRecDepth 100000 in
theorem run_eqI (w : World) (z z' : Int) (x y : Operand) : ((do eqGuard .eql 3 x y (.int .i64 z) (.int .i64 z'); binOp .eql 3 (.int .i64 z) (.int .i64 z') : Sem Value)).run Try.prog w = .ok (.bool (decide (z = z'))) w := by
  go_simp
  rfl

set_option maxRecDepth 100000 in
theorem run_gtI (w : World) (z z' : Int) (x y : Operand) : ((do eqGuard .gtr 3 x y (.int .i64 z) (.int .i64 z'); binOp .gtr 3 (.int .i64 z) (.int .i64 z') : Sem Value)).run Try.prog w = .ok (.bool (decide (z > z'))) w := by
  go_simp

set_option maxRecDepth 100000 in
theorem run_eqB (w : World) (z z' : Bool) (x y : Operand) : ((do eqGuard .eql 4 x y (.bool z) (.bool z'); binOp .eql 4 (.bool z) (.bool z') : Sem Value)).run Try.prog w = .ok (.bool (z == z')) w := by
  cases z <;> cases z' <;> go_simp

set_option maxRecDepth 100000 in
theorem run_neB (w : World) (z z' : Bool) (x y : Operand) : ((do eqGuard .neq 4 x y (.bool z) (.bool z'); binOp .neq 4 (.bool z) (.bool z') : Sem Value)).run Try.prog w = .ok (.bool (z != z')) w := by
  cases z <;> cases z' <;> go_simp

set_option maxRecDepth 100000 in
theorem run_eqT (w : World) (z z' : T) (x y : Operand) : ((do eqGuard .eql 36 x y (.agg #[.int .i64 z.1, .int .i64 z.2]) (.agg #[.int .i64 z'.1, .int .i64 z'.2]); binOp .eql 36 (.agg #[.int .i64 z.1, .int .i64 z.2]) (.agg #[.int .i64 z'.1, .int .i64 z'.2]) : Sem Value)).run Try.prog w = .ok (.bool (decide (z = z'))) w := by
  obtain ⟨z1, z2⟩ := z
  obtain ⟨y1, y2⟩ := z'
  go_simp
  by_cases h1 : z1 = y1 <;> by_cases h2 : z2 = y2 <;> simp [h1, h2]

set_option maxRecDepth 100000 in
theorem run_neT (w : World) (z z' : T) (x y : Operand) : ((do eqGuard .neq 36 x y (.agg #[.int .i64 z.1, .int .i64 z.2]) (.agg #[.int .i64 z'.1, .int .i64 z'.2]); binOp .neq 36 (.agg #[.int .i64 z.1, .int .i64 z.2]) (.agg #[.int .i64 z'.1, .int .i64 z'.2]) : Sem Value)).run Try.prog w = .ok (.bool (decide (z ≠ z'))) w := by
  obtain ⟨z1, z2⟩ := z
  obtain ⟨y1, y2⟩ := z'
  go_simp
  by_cases h1 : z1 = y1 <;> by_cases h2 : z2 = y2 <;> simp [h1, h2]

/-! Contracts in the form that an operation wants. -/
set_option maxRecDepth 100000 in
theorem rle_newB (x y : T) (w : World) : Calls Try.prog 33 #[.agg #[.int .i64 x.1, .int .i64 x.2], .agg #[.int .i64 y.1, .int .i64 y.2]] w fun e w' => ∃ v, e = .returned v ∧ Below w.heap.size w w' ∧ PB.E (.bool (le2 x y)) v w' :=
  (refLessEq_any x y w).mono fun e w' ⟨he, hg⟩ => ⟨_, he, hg.below, rfl⟩
end Go.Proofs.Ytboeodcjcbgeaaa
