/-
  What is proved here: a relation on memory (it has only grown), numbers of 64 bits, plans as data, and when a slice or a struct in memory reads as such data.
-/
import Derived.Test.YtjpjeledbjpaeaaChecked
import Derived.Test.YtjpjeledbjpaeaaGetT
import Derived.WalkKit
import Derived.BigQuiet
import Derived.Deep.Draws
import Derived.Deep.LoopGhost
import Derived.WalkSmall
namespace Go.Proofs.Ytjpjeledbjpaeaa
open Go.RowKit
set_option maxRecDepth 20000
set_option linter.unusedVariables false
set_option linter.unusedSimpArgs false

theorem hid' {p : Prop} (h : p) : Hid p := h

/-- Memory has only grown; what was drawn stays drawn. -/
structure Gr (w w' : World) : Prop where
  below : Below w.heap.size w w'
  drawn : w.drawn ≤ w'.drawn

theorem Gr.refl (w : World) : Gr w w := ⟨Below.refl _ _, Nat.le_refl _⟩
theorem Gr.trans {a b c : World} (h : Gr a b) (k : Gr b c) : Gr a c := ⟨h.below.trans (k.below.mono h.below.size), Nat.le_trans h.drawn k.drawn⟩
theorem Gr.alloc {a w : World} (h : Gr a w) (o : Obj) : Gr a (w.alloc o) := ⟨h.below.alloc h.below.size o, h.drawn⟩
theorem Gr.drew {a w : World} (h : Gr a w) : Gr a w.drew := ⟨h.below.drew, Nat.le_trans h.drawn (Nat.le_succ _)⟩
theorem Gr.drewN {a w : World} (h : Gr a w) (n : Nat) : Gr a (w.drewN n) := ⟨below_drewN h.below n, Nat.le_trans h.drawn (Nat.le_add_right _ _)⟩

/-- A number of 64 bits. -/
def R64 (z : Int) : Prop := -9223372036854775808 ≤ z ∧ z ≤ 9223372036854775807

/-- A step: its Op, its number, its text. -/
abbrev V := Int × Int × ByteArray

def d0 : V := (0, 0, ⟨#[]⟩)

/-- A node. -/
structure Nd where
  kind : Int
  ins : List Int
  kinds : List Int
  exprs : List (List V)
  cols : List Int
  key : Int
  n : Int
  size : Int
  slide : Int

noncomputable instance : DecidableEq Nd := fun _ _ => Classical.propDecidable _

def n0 : Nd := ⟨0, [], [], [], [], 0, 0, 0, 0⟩

/-- A plan. -/
structure Pl where
  nodes : List Nd
  outs : List Int
  room : Int

noncomputable instance : DecidableEq Pl := fun _ _ => Classical.propDecidable _

/-- A slice with the address a and l.length elements reads as the numbers l; it lies below block number B. -/
structure Ns (B : Nat) (w : World) (a : Option Addr) (l : List Int) : Prop where
  cells : l ≠ [] → ∃ b off, a = some ⟨b, off, none⟩ ∧ b < B ∧ ∀ i, i < l.length → w.cell? ⟨b, off + i, none⟩ = some (.int .i64 (l.getD i 0))

theorem Ns.nil (B : Nat) (w : World) (a : Option Addr) : Ns B w a [] := ⟨fun h => absurd rfl h⟩

theorem Ns.keep {B : Nat} {w w' : World} {a : Option Addr} {l : List Int} (h : Ns B w a l) (hb : Below B w w') : Ns B w' a l := by
  refine ⟨fun hl => ?_⟩
  obtain ⟨b, off, e, hlt, hc⟩ := h.cells hl
  exact ⟨b, off, e, hlt, fun i hi => (hb.cell (p := ⟨b, off + i, none⟩) hlt).trans (hc i hi)⟩

theorem Ns.mono {B B' : Nat} {w : World} {a : Option Addr} {l : List Int} (h : Ns B w a l) (hB : B ≤ B') : Ns B' w a l := by
  refine ⟨fun hl => ?_⟩
  obtain ⟨b, off, e, hlt, hc⟩ := h.cells hl
  exact ⟨b, off, e, by omega, hc⟩

/-- Likewise steps. -/
structure Vs (B : Nat) (w : World) (a : Option Addr) (l : List V) : Prop where
  cells : l ≠ [] → ∃ b off, a = some ⟨b, off, none⟩ ∧ b < B ∧ ∀ i, i < l.length → w.cell? ⟨b, off + i * 3, none⟩ = some (.int .i64 (l.getD i d0).1) ∧ w.cell? ⟨b, off + i * 3 + 1, none⟩ = some (.int .i64 (l.getD i d0).2.1) ∧ w.cell? ⟨b, off + i * 3 + 2, none⟩ = some (.string (l.getD i d0).2.2)

theorem Vs.nil (B : Nat) (w : World) (a : Option Addr) : Vs B w a [] := ⟨fun h => absurd rfl h⟩

theorem Vs.keep {B : Nat} {w w' : World} {a : Option Addr} {l : List V} (h : Vs B w a l) (hb : Below B w w') : Vs B w' a l := by
  refine ⟨fun hl => ?_⟩
  obtain ⟨b, off, e, hlt, hc⟩ := h.cells hl
  exact ⟨b, off, e, hlt, fun i hi => ⟨(hb.cell (p := ⟨b, off + i * 3, none⟩) hlt).trans (hc i hi).1, (hb.cell (p := ⟨b, off + i * 3 + 1, none⟩) hlt).trans (hc i hi).2.1, (hb.cell (p := ⟨b, off + i * 3 + 2, none⟩) hlt).trans (hc i hi).2.2⟩⟩

theorem Vs.mono {B B' : Nat} {w : World} {a : Option Addr} {l : List V} (h : Vs B w a l) (hB : B ≤ B') : Vs B' w a l := by
  refine ⟨fun hl => ?_⟩
  obtain ⟨b, off, e, hlt, hc⟩ := h.cells hl
  exact ⟨b, off, e, by omega, hc⟩

/-- Likewise expressions. -/
structure Es (B : Nat) (w : World) (a : Option Addr) (l : List (List V)) : Prop where
  cells : l ≠ [] → ∃ b off, a = some ⟨b, off, none⟩ ∧ b < B ∧ ∀ i, i < l.length → ∃ x c, w.cell? ⟨b, off + i, none⟩ = some (.slice x (l.getD i []).length c) ∧ Vs B w x (l.getD i [])

theorem Es.nil (B : Nat) (w : World) (a : Option Addr) : Es B w a [] := ⟨fun h => absurd rfl h⟩

theorem Es.keep {B : Nat} {w w' : World} {a : Option Addr} {l : List (List V)} (h : Es B w a l) (hb : Below B w w') : Es B w' a l := by
  refine ⟨fun hl => ?_⟩
  obtain ⟨b, off, e, hlt, hc⟩ := h.cells hl
  refine ⟨b, off, e, hlt, fun i hi => ?_⟩
  obtain ⟨x, c, h1, h2⟩ := hc i hi
  exact ⟨x, c, (hb.cell (p := ⟨b, off + i, none⟩) hlt).trans h1, h2.keep hb⟩

theorem Es.mono {B B' : Nat} {w : World} {a : Option Addr} {l : List (List V)} (h : Es B w a l) (hB : B ≤ B') : Es B' w a l := by
  refine ⟨fun hl => ?_⟩
  obtain ⟨b, off, e, hlt, hc⟩ := h.cells hl
  refine ⟨b, off, e, by omega, fun i hi => ?_⟩
  obtain ⟨x, c, h1, h2⟩ := hc i hi
  exact ⟨x, c, h1, h2.mono hB⟩

/-- A node's four slices. -/
structure NdS where
  a1 : Option Addr
  c1 : Nat
  a2 : Option Addr
  c2 : Nat
  a3 : Option Addr
  c3 : Nat
  a4 : Option Addr
  c4 : Nat

/-- They read as the node's lists. -/
structure NdR (B : Nat) (w : World) (x : Nd) (s : NdS) : Prop where
  ins : Ns B w s.a1 x.ins
  kinds : Ns B w s.a2 x.kinds
  exprs : Es B w s.a3 x.exprs
  cols : Ns B w s.a4 x.cols

theorem NdR.keep {B : Nat} {w w' : World} {x : Nd} {s : NdS} (h : NdR B w x s) (hb : Below B w w') : NdR B w' x s := ⟨h.ins.keep hb, h.kinds.keep hb, h.exprs.keep hb, h.cols.keep hb⟩
theorem NdR.mono {B B' : Nat} {w : World} {x : Nd} {s : NdS} (h : NdR B w x s) (hB : B ≤ B') : NdR B' w x s := ⟨h.ins.mono hB, h.kinds.mono hB, h.exprs.mono hB, h.cols.mono hB⟩

/-- The node's value. -/
def ndV (x : Nd) (s : NdS) : Value := .agg #[.int .i64 x.kind, .slice s.a1 x.ins.length s.c1, .slice s.a2 x.kinds.length s.c2, .slice s.a3 x.exprs.length s.c3, .slice s.a4 x.cols.length s.c4, .int .i64 x.key, .int .i64 x.n, .int .i64 x.size, .int .i64 x.slide]

/-- The nine cells of a node. -/
structure NdC (w : World) (b o : Nat) (x : Nd) (s : NdS) : Prop where
  k0 : w.cell? ⟨b, o, none⟩ = some (.int .i64 x.kind)
  k1 : w.cell? ⟨b, o + 1, none⟩ = some (.slice s.a1 x.ins.length s.c1)
  k2 : w.cell? ⟨b, o + 2, none⟩ = some (.slice s.a2 x.kinds.length s.c2)
  k3 : w.cell? ⟨b, o + 3, none⟩ = some (.slice s.a3 x.exprs.length s.c3)
  k4 : w.cell? ⟨b, o + 4, none⟩ = some (.slice s.a4 x.cols.length s.c4)
  k5 : w.cell? ⟨b, o + 5, none⟩ = some (.int .i64 x.key)
  k6 : w.cell? ⟨b, o + 6, none⟩ = some (.int .i64 x.n)
  k7 : w.cell? ⟨b, o + 7, none⟩ = some (.int .i64 x.size)
  k8 : w.cell? ⟨b, o + 8, none⟩ = some (.int .i64 x.slide)

theorem NdC.keep {B : Nat} {w w' : World} {b o : Nat} {x : Nd} {s : NdS} (h : NdC w b o x s) (hb : Below B w w') (hB : b < B) : NdC w' b o x s :=
  ⟨(hb.cell (p := ⟨b, o, none⟩) hB).trans h.k0, (hb.cell (p := ⟨b, o + 1, none⟩) hB).trans h.k1, (hb.cell (p := ⟨b, o + 2, none⟩) hB).trans h.k2, (hb.cell (p := ⟨b, o + 3, none⟩) hB).trans h.k3, (hb.cell (p := ⟨b, o + 4, none⟩) hB).trans h.k4,
   (hb.cell (p := ⟨b, o + 5, none⟩) hB).trans h.k5, (hb.cell (p := ⟨b, o + 6, none⟩) hB).trans h.k6, (hb.cell (p := ⟨b, o + 7, none⟩) hB).trans h.k7, (hb.cell (p := ⟨b, o + 8, none⟩) hB).trans h.k8⟩

/-- A slice of nodes. -/
structure Nds (B : Nat) (w : World) (a : Option Addr) (l : List Nd) : Prop where
  cells : l ≠ [] → ∃ b off, a = some ⟨b, off, none⟩ ∧ b < B ∧ ∀ i, i < l.length → ∃ s, NdC w b (off + i * 9) (l.getD i n0) s ∧ NdR B w (l.getD i n0) s

theorem Nds.nil (B : Nat) (w : World) (a : Option Addr) : Nds B w a [] := ⟨fun h => absurd rfl h⟩

theorem Nds.keep {B : Nat} {w w' : World} {a : Option Addr} {l : List Nd} (h : Nds B w a l) (hb : Below B w w') : Nds B w' a l := by
  refine ⟨fun hl => ?_⟩
  obtain ⟨b, off, e, hlt, hc⟩ := h.cells hl
  refine ⟨b, off, e, hlt, fun i hi => ?_⟩
  obtain ⟨s, h1, h2⟩ := hc i hi
  exact ⟨s, h1.keep hb hlt, h2.keep hb⟩

theorem Nds.mono {B B' : Nat} {w : World} {a : Option Addr} {l : List Nd} (h : Nds B w a l) (hB : B ≤ B') : Nds B' w a l := by
  refine ⟨fun hl => ?_⟩
  obtain ⟨b, off, e, hlt, hc⟩ := h.cells hl
  refine ⟨b, off, e, by omega, fun i hi => ?_⟩
  obtain ⟨s, h1, h2⟩ := hc i hi
  exact ⟨s, h1, h2.mono hB⟩

/-- A plan's two slices. -/
structure PlS where
  a1 : Option Addr
  c1 : Nat
  a2 : Option Addr
  c2 : Nat

structure PlR (B : Nat) (w : World) (p : Pl) (s : PlS) : Prop where
  nodes : Nds B w s.a1 p.nodes
  outs : Ns B w s.a2 p.outs

theorem PlR.keep {B : Nat} {w w' : World} {p : Pl} {s : PlS} (h : PlR B w p s) (hb : Below B w w') : PlR B w' p s := ⟨h.nodes.keep hb, h.outs.keep hb⟩
theorem PlR.mono {B B' : Nat} {w : World} {p : Pl} {s : PlS} (h : PlR B w p s) (hB : B ≤ B') : PlR B' w p s := ⟨h.nodes.mono hB, h.outs.mono hB⟩

/-- The plan's value. -/
def plV (p : Pl) (s : PlS) : Value := .agg #[.slice s.a1 p.nodes.length s.c1, .slice s.a2 p.outs.length s.c2, .int .i64 p.room]

/-- Memory grew: what was there reads as before. -/
theorem Ns.gr {w w' : World} {a : Option Addr} {l : List Int} (h : Ns w.heap.size w a l) (hb : Gr w w') : Ns w'.heap.size w' a l := (h.keep hb.below).mono hb.below.size
theorem Vs.gr {w w' : World} {a : Option Addr} {l : List V} (h : Vs w.heap.size w a l) (hb : Gr w w') : Vs w'.heap.size w' a l := (h.keep hb.below).mono hb.below.size
theorem Es.gr {w w' : World} {a : Option Addr} {l : List (List V)} (h : Es w.heap.size w a l) (hb : Gr w w') : Es w'.heap.size w' a l := (h.keep hb.below).mono hb.below.size
theorem NdR.gr {w w' : World} {x : Nd} {s : NdS} (h : NdR w.heap.size w x s) (hb : Gr w w') : NdR w'.heap.size w' x s := (h.keep hb.below).mono hb.below.size
theorem Nds.gr {w w' : World} {a : Option Addr} {l : List Nd} (h : Nds w.heap.size w a l) (hb : Gr w w') : Nds w'.heap.size w' a l := (h.keep hb.below).mono hb.below.size
theorem PlR.gr {w w' : World} {p : Pl} {s : PlS} (h : PlR w.heap.size w p s) (hb : Gr w w') : PlR w'.heap.size w' p s := (h.keep hb.below).mono hb.below.size

/-- How long the lists are, where a law asks on. -/
structure NdSmall (x : Nd) : Prop where
  ins : x.ins.length ≤ 20
  kinds : x.kinds.length ≤ 30
  exprs : x.exprs.length ≤ 30
  cols : x.cols.length ≤ 30
  steps : ∀ e ∈ x.exprs, e.length ≤ 80 ∧ ∀ t ∈ e, t.2.2.size ≤ 5000

structure Small (p : Pl) : Prop where
  nodes : p.nodes.length ≤ 70
  outs : p.outs.length ≤ 20
  each : ∀ x ∈ p.nodes, NdSmall x

theorem getD_mem {α : Type} {l : List α} {i : Nat} {d : α} (h : i < l.length) : l.getD i d ∈ l := by
  have : l.getD i d = l[i] := by simp [List.getD, List.getElem?_eq_getElem h]
  rw [this]; exact List.getElem_mem h

theorem take_step {α : Type} {l r : List α} {d : α} {j : Nat} (h : l.take j = r.take j) (hl : j < l.length) (hr : j < r.length) (he : l.getD j d = r.getD j d) : l.take (j + 1) = r.take (j + 1) := by
  simp [List.getD, List.getElem?_eq_getElem hl, List.getElem?_eq_getElem hr] at he
  rw [List.take_add_one, List.take_add_one, h, List.getElem?_eq_getElem hl, List.getElem?_eq_getElem hr, he]

theorem take_all {α : Type} {l r : List α} {j : Nat} (h : l.take j = r.take j) (hl : l.length ≤ j) (hr : r.length ≤ j) : l = r := by
  rwa [List.take_of_length_le hl, List.take_of_length_le hr] at h

end Go.Proofs.Ytjpjeledbjpaeaa
