/-
  What is proved here: what holds while the document's Decode goes on: its boxes, its reader, the lists that it has read; the statement n.Exprs = append(n.Exprs, f.steps()), whose operations come in any order.
-/
import Derived.Test.YtjpjeledbjpaeaaRLst
import Derived.Test.YtjpjeledbjpaeaaChain
import Derived.Great.BuildSlice
namespace Go.Proofs.Ytjpjeledbjpaeaa
open Go.RowKit Go.Proofs
set_option maxRecDepth 20000
set_option linter.unusedVariables false
set_option linter.unusedSimpArgs false

theorem Fix.trans' {base : Nat} {ok : TypeId → Prop} {a b c : World} (h : Fix base ok a b) (k : Fix base ok b c) : Fix base ok a c :=
  ⟨Nat.le_trans h.size k.size, fun j x t z hj hc ht => by
    have e := h.block j x t z hj hc ht
    rw [k.block j x t z hj (by rw [e]; exact hc) ht, e]⟩

theorem Fix.setBx {base b i : Nat} {w : World} {cs : Array Value} {t0 : TypeId} {v : Value} (h : Bx w b cs t0) : Fix base (fun t => t ≠ t0) w (w.setCell ⟨b, i, none⟩ v) :=
  have k := But.setCell b i w v
  ⟨k.size, fun j c t z hj hc ht => k.block j (Array.getElem?_eq_some_iff.1 hc).1 (fun e => by
    subst e
    unfold Bx at h
    rw [h] at hc
    simp at hc
    exact ht hc.2.1.symm)⟩

theorem Bx.fix {base b : Nat} {ok : TypeId → Prop} {w w' : World} {cs : Array Value} {t : TypeId} (h : Bx w b cs t) (hf : Fix base ok w w') (hk : ok t) (hb : base ≤ b) : Bx w' b cs t :=
  (hf.block b cs t (0, 0) hb h hk).trans h

def z3 : Array Value := #[.slice none 0 0, .slice none 0 0, .int .i64 0]

/-- Decode's boxes: its result, its reader, the plan. -/
structure DS (w : World) (gP : Nat) (ba : Option Addr) (cap : Nat) (l : List Int) (pcs : Array Value) (s : Option (List Int)) (W : World) : Prop where
  bel : Below w.heap.size w W
  res : Bx W w.heap.size #[.slice none 0 0, .slice none 0 0, .int .i64 0] 25
  pb : Bx W gP pcs 25
  rd : RdS 67 W (w.heap.size + 1) ba cap l s
  gp : w.heap.size + 2 ≤ gP

section
variable {w : World} {gP : Nat} {ba : Option Addr} {cap : Nat} {l : List Int} {pcs : Array Value} {s s' : Option (List Int)} {W W' : World}

theorem DS.size (h : DS w gP ba cap l pcs s W) : w.heap.size + 2 ≤ W.heap.size := by
  have := h.pb.lt
  have := h.gp
  omega

theorem DS.bts (h : DS w gP ba cap l pcs s W) (hb : Bts w.heap.size w ba l) : Bts (w.heap.size + 1) W ba l := (hb.keep h.bel).mono (by omega)

theorem DS.call (h : DS w gP ba cap l pcs s W) (hb : But (w.heap.size + 1) W W') (hr : RdS 67 W' (w.heap.size + 1) ba cap l s') : DS w gP ba cap l pcs s' W' :=
  have hg := h.gp
  ⟨but_below h.bel hb (by omega), h.res.but hb (by omega), h.pb.but hb (by omega), hr, h.gp⟩

theorem DS.keep (h : DS w gP ba cap l pcs s W) (hb : Below W.heap.size W W') : DS w gP ba cap l pcs s W' := h.call (But.of_below hb) (h.rd.keep hb)

theorem DS.setP {i : Nat} {v : Value} (h : DS w gP ba cap l pcs s W) : DS w gP ba cap l (pcs.setIfInBounds i v) s (W.setCell ⟨gP, i, none⟩ v) :=
  have hg := h.gp
  ⟨h.bel.setCell (p := ⟨gP, i, none⟩) (by show w.heap.size ≤ gP; omega) v, h.res.setOther (by omega), h.pb.setCell, h.rd.set (by omega), h.gp⟩

theorem DS.setO {g i : Nat} {v : Value} (h : DS w gP ba cap l pcs s W) (hg : w.heap.size + 2 ≤ g) (hgp : g ≠ gP) : DS w gP ba cap l pcs s (W.setCell ⟨g, i, none⟩ v) :=
  ⟨h.bel.setCell (p := ⟨g, i, none⟩) (by show w.heap.size ≤ g; omega) v, h.res.setOther (by omega), h.pb.setOther (fun e => hgp e.symm), h.rd.set (by omega), h.gp⟩

theorem DS.grown {v : Value} {e sz n base : Nat} {xs : List Value} (h : DS w gP ba cap l pcs s W) (ho : W.ownsRow base e sz v n xs) (he : e ≠ 25) (hbase : w.heap.size + 2 ≤ base) (hg : W.grownBy W' v.ownBlock) : DS w gP ba cap l pcs s W' := by
  have hrow : ∀ j, v.ownBlock = some j → w.heap.size + 2 ≤ j := fun j hj => Nat.le_trans hbase (ho.lt j hj).1
  have hF : Fix (w.heap.size) (fun t => t ≠ e) W W' := Fix.of_grown hg ho
  refine ⟨⟨hg.os.trans h.bel.os, hg.tape.trans h.bel.tape, hg.output.trans h.bel.output, Nat.le_trans h.bel.size hg.size, fun k hk => ?_⟩, h.res.fix hF (fun e' => he e'.symm) (Nat.le_refl _), h.pb.fix hF (fun e' => he e'.symm) (by have := h.gp; omega), h.rd.grown hg (fun e' => by have := hrow _ e'.symm; omega), h.gp⟩
  rw [hg.block k (Nat.lt_of_lt_of_le hk h.bel.size) (fun e' => by have := hrow k e'.symm; omega)]
  exact h.bel.block k hk
end

/-- And a node's box, made in the round that began at wr. -/
structure NS (w wr : World) (gP gN : Nat) (ba : Option Addr) (cap : Nat) (l : List Int) (pcs cs : Array Value) (s : Option (List Int)) (W : World) : Prop where
  ds : DS w gP ba cap l pcs s W
  nb : Bx W gN cs 44
  but : But (w.heap.size + 1) wr W
  ng : wr.heap.size ≤ gN
  pg : gP < wr.heap.size

section
variable {w wr : World} {gP gN : Nat} {ba : Option Addr} {cap : Nat} {l : List Int} {pcs cs : Array Value} {s s' : Option (List Int)} {W W' : World}

theorem NS.base (h : NS w wr gP gN ba cap l pcs cs s W) : w.heap.size + 2 ≤ wr.heap.size := by
  have := h.ds.gp
  have := h.pg
  omega

theorem NS.call (h : NS w wr gP gN ba cap l pcs cs s W) (hb : But (w.heap.size + 1) W W') (hr : RdS 67 W' (w.heap.size + 1) ba cap l s') : NS w wr gP gN ba cap l pcs cs s' W' :=
  have h1 := h.base
  have h2 := h.ng
  ⟨h.ds.call hb hr, h.nb.but hb (by omega), h.but.trans hb, h.ng, h.pg⟩

theorem NS.keep (h : NS w wr gP gN ba cap l pcs cs s W) (hb : Below W.heap.size W W') : NS w wr gP gN ba cap l pcs cs s W' := h.call (But.of_below hb) (h.ds.rd.keep hb)

theorem NS.set {i : Nat} {v : Value} (h : NS w wr gP gN ba cap l pcs cs s W) : NS w wr gP gN ba cap l pcs (cs.setIfInBounds i v) s (W.setCell ⟨gN, i, none⟩ v) :=
  have h1 := h.base
  have h2 := h.ng
  have h3 := h.pg
  ⟨h.ds.setO (by omega) (by omega), h.nb.setCell, h.but.setNew (by omega), h.ng, h.pg⟩

theorem NS.fixC (h : NS w wr gP gN ba cap l pcs cs s W) (hb : But (w.heap.size + 1) W W') : Fix wr.heap.size (fun t => t ≠ 44) W W' := Fix.of_but hb (by have := h.base; omega)

theorem NS.grown {v : Value} {e sz n : Nat} {xs : List Value} (h : NS w wr gP gN ba cap l pcs cs s W) (ho : W.ownsRow wr.heap.size e sz v n xs) (he : e ≠ 25) (he2 : e ≠ 44) (hg : W.grownBy W' v.ownBlock) : NS w wr gP gN ba cap l pcs cs s W' :=
  have hF : Fix wr.heap.size (fun t => t ≠ e) W W' := Fix.of_grown hg ho
  ⟨h.ds.grown ho he h.base hg, h.nb.fix hF (fun e' => he2 e'.symm) h.ng, h.but.grown hg (fun k hk => (ho.lt k hk).1), h.ng, h.pg⟩
end

/-- And the expressions that have been read: ev the list, fv what stands in the box. -/
structure XS (w wr : World) (gP gN : Nat) (ba : Option Addr) (cap : Nat) (l : List Int) (pcs : Array Value) (k0 v1 v2 : Value) (x1 x2 : List Int) (ev : Value) (xs : List (List V)) (fv : Value) (s : Option (List Int)) (W : World) : Prop where
  ns : NS w wr gP gN ba cap l pcs #[k0, v1, v2, fv, .slice none 0 0, .int .i64 0, .int .i64 0, .int .i64 0, .int .i64 0] s W
  ex : RExprs wr.heap.size W ev xs
  r1 : RInts wr.heap.size W v1 x1
  r2 : RInts wr.heap.size W v2 x2

section
variable {w wr : World} {gP gN : Nat} {ba : Option Addr} {cap : Nat} {l : List Int} {pcs : Array Value} {k0 v1 v2 : Value} {x1 x2 : List Int} {ev fv : Value} {xs : List (List V)} {s s' : Option (List Int)} {W W' : World}

theorem XS.call (h : XS w wr gP gN ba cap l pcs k0 v1 v2 x1 x2 ev xs fv s W) (hb : But (w.heap.size + 1) W W') (hr : RdS 67 W' (w.heap.size + 1) ba cap l s') : XS w wr gP gN ba cap l pcs k0 v1 v2 x1 x2 ev xs fv s' W' :=
  have hF : Fix wr.heap.size (fun _ => True) W W' := Fix.of_but hb (by have := h.ns.base; omega)
  ⟨h.ns.call hb hr, h.ex.fix EE_lasts hF trivial (fun _ _ => trivial), h.r1.fix EI_lasts hF trivial (fun _ _ => trivial), h.r2.fix EI_lasts hF trivial (fun _ _ => trivial)⟩

theorem XS.keep (h : XS w wr gP gN ba cap l pcs k0 v1 v2 x1 x2 ev xs fv s W) (hb : Below W.heap.size W W') : XS w wr gP gN ba cap l pcs k0 v1 v2 x1 x2 ev xs fv s W' := h.call (But.of_below hb) (h.ns.ds.rd.keep hb)

theorem XS.set (h : XS w wr gP gN ba cap l pcs k0 v1 v2 x1 x2 ev xs fv s W) : XS w wr gP gN ba cap l pcs k0 v1 v2 x1 x2 ev xs ev s (W.setCell ⟨gN, 3, none⟩ ev) :=
  have hF : Fix wr.heap.size (fun t => t ≠ 44) W (W.setCell ⟨gN, 3, none⟩ ev) := Fix.setBx h.ns.nb
  ⟨h.ns.set (i := 3) (v := ev), h.ex.fix EE_lasts hF (by decide) (fun t ht => by rw [ht]; decide), h.r1.fix EI_lasts hF (by decide) (fun _ h => h.elim), h.r2.fix EI_lasts hF (by decide) (fun _ h => h.elim)⟩

theorem XS.push {ev' : Value} {x : List V} {c : List Value} {cs : Nat → List Value} (h : XS w wr gP gN ba cap l pcs k0 v1 v2 x1 x2 ev xs fv s W) (h1 : W.ownsRow wr.heap.size 46 1 ev xs.length ((List.range xs.length).flatMap cs)) (h2 : ∀ i, i < xs.length → EE wr.heap.size W (xs.getD i []) (cs i)) (hx : EE wr.heap.size W x c) (hg : W.grownBy W' ev.ownBlock) (ho : W'.ownsRow wr.heap.size 46 1 ev' (xs.length + 1) ((List.range xs.length).flatMap cs ++ c)) : XS w wr gP gN ba cap l pcs k0 v1 v2 x1 x2 ev' (xs ++ [x]) fv s W' :=
  have hF : Fix wr.heap.size (fun t => t ≠ 46) W W' := Fix.of_grown hg h1
  ⟨h.ns.grown h1 (by decide) (by decide) hg, Row.push EE_lasts (fun t ht => by rw [ht]; decide) h1 h2 hx hg ho, h.r1.fix EI_lasts hF (by decide) (fun _ h => h.elim), h.r2.fix EI_lasts hF (by decide) (fun _ h => h.elim)⟩
end

/-- How far the statement has come. -/
def St15 (w wr : World) (gP gN : Nat) (ba : Option Addr) (cap : Nat) (l : List Int) (pcs : Array Value) (k0 v1 v2 : Value) (x1 x2 : List Int) (u : Value) (xs : List (List V)) (s : Option (List Int)) (l3 l4 l5 l7 : Bool) (a66 a67 a68 : Value) (W : World) : Prop :=
  match l7, l5, l4, l3 with
  | true, true, true, true => ∃ x s' v, XS w wr gP gN ba cap l pcs k0 v1 v2 x1 x2 v (xs ++ [x]) v s' W ∧ Rd stepsB (LD 64 TOK) s x s'
  | false, true, true, true => ∃ x s', XS w wr gP gN ba cap l pcs k0 v1 v2 x1 x2 a68 (xs ++ [x]) u s' W ∧ Rd stepsB (LD 64 TOK) s x s'
  | false, false, true, true => ∃ g v x s', a67 = .slice (some ⟨g, 0, none⟩) 1 1 ∧ Bx W g #[v] 46 ∧ RTerms wr.heap.size W v x ∧ XS w wr gP gN ba cap l pcs k0 v1 v2 x1 x2 u xs u s' W ∧ Rd stepsB (LD 64 TOK) s x s'
  | false, false, false, true => ∃ x s', RTerms wr.heap.size W a66 x ∧ XS w wr gP gN ba cap l pcs k0 v1 v2 x1 x2 u xs u s' W ∧ Rd stepsB (LD 64 TOK) s x s'
  | false, false, false, false => XS w wr gP gN ba cap l pcs k0 v1 v2 x1 x2 u xs u s W
  | _, _, _, _ => False

structure I15 (w wr : World) (gP gN : Nat) (ba : Option Addr) (cap : Nat) (l : List Int) (pcs : Array Value) (k0 v1 v2 : Value) (x1 x2 : List Int) (u : Value) (xs : List (List V)) (s : Option (List Int)) (A0 : Act) (L : Nat → Bool) (A : Act) (W : World) : Prop where
  defers : A.defers = A0.defers
  size : A.tmps.size = A0.tmps.size
  oth : ∀ t, t < 63 ∨ 69 < t → PB.slot A t = PB.slot A0 t
  p0 : L 0 = true → PB.slot A 63 = .pointer (some ⟨gN, 3, none⟩)
  p1 : L 1 = true → PB.slot A 64 = u
  p2 : L 2 = true → PB.slot A 65 = ptr (w.heap.size + 1)
  p6 : L 6 = true → PB.slot A 69 = .pointer (some ⟨gN, 3, none⟩)
  w5 : L 5 = true → L 1 = true
  st : St15 w wr gP gN ba cap l pcs k0 v1 v2 x1 x2 u xs s (L 3) (L 4) (L 5) (L 7) (PB.slot A 66) (PB.slot A 67) (PB.slot A 68) W

section
variable {w wr : World} {gP gN : Nat} {ba : Option Addr} {cap : Nat} {l : List Int} {pcs : Array Value} {k0 v1 v2 : Value} {x1 x2 : List Int} {u : Value} {xs : List (List V)} {s : Option (List Int)} {A0 A : Act} {L : Nat → Bool} {W W' : World}

theorem I15.start (h : XS w wr gP gN ba cap l pcs k0 v1 v2 x1 x2 u xs u s W) : I15 w wr gP gN ba cap l pcs k0 v1 v2 x1 x2 u xs s A0 (fun _ => false) A0 W.drew :=
  ⟨rfl, rfl, fun _ _ => rfl, fun h => (by cases h), fun h => (by cases h), fun h => (by cases h), fun h => (by cases h), fun h => (by cases h), h.keep (Below.refl _ _).drew⟩

/-- Until the append the box holds what it held. -/
theorem I15.box (h : I15 w wr gP gN ba cap l pcs k0 v1 v2 x1 x2 u xs s A0 L A W) (h5 : L 5 = false) : W.cell? ⟨gN, 3, none⟩ = some u := by
  have k := h.st
  rw [h5] at k
  cases e3 : L 3 <;> cases e4 : L 4 <;> cases e7 : L 7 <;> rw [e3, e4, e7] at k <;> simp only [St15] at k <;> try exact k.elim
  · exact k.ns.nb.cell 3
  · obtain ⟨_, _, _, k, _⟩ := k
    exact k.ns.nb.cell 3
  · obtain ⟨_, _, _, _, _, _, _, k, _⟩ := k
    exact k.ns.nb.cell 3

/-- The four that only move. -/
theorem I15.pure (h : I15 w wr gP gN ba cap l pcs k0 v1 v2 x1 x2 u xs s A0 L A W) (hs : 69 < A0.tmps.size) {i : Nat} {v : Value} (hi : (i = 0 ∧ v = .pointer (some ⟨gN, 3, none⟩)) ∨ (i = 1 ∧ v = u) ∨ (i = 2 ∧ v = ptr (w.heap.size + 1)) ∨ (i = 6 ∧ v = .pointer (some ⟨gN, 3, none⟩))) : I15 w wr gP gN ba cap l pcs k0 v1 v2 x1 x2 u xs s A0 (fun k => k == i || L k) (A.put (some (63 + i)) v) W := by
  have hii : i = 0 ∨ i = 1 ∨ i = 2 ∨ i = 6 := by rcases hi with h | h | h | h <;> simp [h.1]
  have o : ∀ t, t ≠ 63 + i → PB.slot (A.put (some (63 + i)) v) t = PB.slot A t := fun t ht => PB.slot_put_other _ _ _ _ ht
  have me : PB.slot (A.put (some (63 + i)) v) (63 + i) = v := PB.slot_put_same _ _ _ (by rw [h.size]; omega)
  refine ⟨h.defers, by simp [Act.put, h.size], fun t ht => ?_, fun hl => ?_, fun hl => ?_, fun hl => ?_, fun hl => ?_, fun hl => ?_, ?_⟩
  · rw [o t (by omega)]; exact h.oth t ht
  · by_cases e : i = 0
    · subst e; rw [me]; rcases hi with h | h | h | h <;> first | exact h.2 | (have := h.1; omega)
    · rw [o _ (by omega)]; exact h.p0 (by rwa [onl (by omega)] at hl)
  · by_cases e : i = 1
    · subst e; rw [me]; rcases hi with h | h | h | h <;> first | exact h.2 | (have := h.1; omega)
    · rw [o _ (by omega)]; exact h.p1 (by rwa [onl (by omega)] at hl)
  · by_cases e : i = 2
    · subst e; rw [me]; rcases hi with h | h | h | h <;> first | exact h.2 | (have := h.1; omega)
    · rw [o _ (by omega)]; exact h.p2 (by rwa [onl (by omega)] at hl)
  · by_cases e : i = 6
    · subst e; rw [me]; rcases hi with h | h | h | h <;> first | exact h.2 | (have := h.1; omega)
    · rw [o _ (by omega)]; exact h.p6 (by rwa [onl (by omega)] at hl)
  · rw [onl (by omega)] at hl
    simp [h.w5 hl]
  · show St15 _ _ _ _ _ _ _ _ _ _ _ _ _ _ _ _ ((3 == i) || L 3) ((4 == i) || L 4) ((5 == i) || L 5) ((7 == i) || L 7) _ _ _ _
    rw [onl (by omega), onl (by omega), onl (by omega), onl (by omega), o _ (by omega), o _ (by omega), o _ (by omega)]
    exact h.st

/-- One of the four that do. -/
theorem I15.step (h : I15 w wr gP gN ba cap l pcs k0 v1 v2 x1 x2 u xs s A0 L A W) (hs : 69 < A0.tmps.size) {i : Nat} {v : Value} (hi : i = 3 ∨ i = 4 ∨ i = 5) (h15 : i = 5 → L 1 = true)
    (hst : St15 w wr gP gN ba cap l pcs k0 v1 v2 x1 x2 u xs s ((3 == i) || L 3) ((4 == i) || L 4) ((5 == i) || L 5) (L 7) (PB.slot (A.put (some (63 + i)) v) 66) (PB.slot (A.put (some (63 + i)) v) 67) (PB.slot (A.put (some (63 + i)) v) 68) W') : I15 w wr gP gN ba cap l pcs k0 v1 v2 x1 x2 u xs s A0 (fun k => k == i || L k) (A.put (some (63 + i)) v) W' := by
  have o : ∀ t, t ≠ 63 + i → PB.slot (A.put (some (63 + i)) v) t = PB.slot A t := fun t ht => PB.slot_put_other _ _ _ _ ht
  refine ⟨h.defers, by simp [Act.put, h.size], fun t ht => ?_, fun hl => ?_, fun hl => ?_, fun hl => ?_, fun hl => ?_, fun hl => ?_, ?_⟩
  · rw [o t (by omega)]; exact h.oth t ht
  · rw [o _ (by omega)]; exact h.p0 (by rwa [onl (by omega)] at hl)
  · rw [o _ (by omega)]; exact h.p1 (by rwa [onl (by omega)] at hl)
  · rw [o _ (by omega)]; exact h.p2 (by rwa [onl (by omega)] at hl)
  · rw [o _ (by omega)]; exact h.p6 (by rwa [onl (by omega)] at hl)
  · by_cases e : i = 5
    · rw [onl (by omega)]; exact h15 e
    · rw [onl (by omega)] at hl ⊢; exact h.w5 hl
  · show St15 _ _ _ _ _ _ _ _ _ _ _ _ _ _ _ _ _ _ _ ((7 == i) || L 7) _ _ _ _
    rw [onl (i := i) (k := 7) (by omega)]
    exact hst

theorem I15.at3 (h : I15 w wr gP gN ba cap l pcs k0 v1 v2 x1 x2 u xs s A0 L A W) (h3 : L 3 = false) : XS w wr gP gN ba cap l pcs k0 v1 v2 x1 x2 u xs u s W ∧ L 4 = false ∧ L 5 = false ∧ L 7 = false := by
  have k := h.st
  cases e4 : L 4 <;> cases e5 : L 5 <;> cases e7 : L 7 <;> rw [h3, e4, e5, e7] at k <;> simp only [St15] at k <;> try exact k.elim
  exact ⟨k, rfl, rfl, rfl⟩

theorem I15.at4 (h : I15 w wr gP gN ba cap l pcs k0 v1 v2 x1 x2 u xs s A0 L A W) (h3 : L 3 = true) (h4 : L 4 = false) : (∃ x s', RTerms wr.heap.size W (PB.slot A 66) x ∧ XS w wr gP gN ba cap l pcs k0 v1 v2 x1 x2 u xs u s' W ∧ Rd stepsB (LD 64 TOK) s x s') ∧ L 5 = false ∧ L 7 = false := by
  have k := h.st
  cases e5 : L 5 <;> cases e7 : L 7 <;> rw [h3, h4, e5, e7] at k <;> simp only [St15] at k <;> try exact k.elim
  exact ⟨k, rfl, rfl⟩

theorem I15.at5 (h : I15 w wr gP gN ba cap l pcs k0 v1 v2 x1 x2 u xs s A0 L A W) (h4 : L 4 = true) (h5 : L 5 = false) : (∃ g v x s', PB.slot A 67 = .slice (some ⟨g, 0, none⟩) 1 1 ∧ Bx W g #[v] 46 ∧ RTerms wr.heap.size W v x ∧ XS w wr gP gN ba cap l pcs k0 v1 v2 x1 x2 u xs u s' W ∧ Rd stepsB (LD 64 TOK) s x s') ∧ L 3 = true ∧ L 7 = false := by
  have k := h.st
  cases e3 : L 3 <;> cases e7 : L 7 <;> rw [e3, h4, h5, e7] at k <;> simp only [St15] at k <;> try exact k.elim
  exact ⟨k, rfl, rfl⟩

theorem I15.at7 (h : I15 w wr gP gN ba cap l pcs k0 v1 v2 x1 x2 u xs s A0 L A W) (h5 : L 5 = true) (h7 : L 7 = false) : (∃ x s', XS w wr gP gN ba cap l pcs k0 v1 v2 x1 x2 (PB.slot A 68) (xs ++ [x]) u s' W ∧ Rd stepsB (LD 64 TOK) s x s') ∧ L 3 = true ∧ L 4 = true := by
  have k := h.st
  cases e3 : L 3 <;> cases e4 : L 4 <;> rw [e3, e4, h5, h7] at k <;> simp only [St15] at k <;> try exact k.elim
  exact ⟨k, rfl, rfl⟩

/-- The store. -/
theorem I15.store (h : I15 w wr gP gN ba cap l pcs k0 v1 v2 x1 x2 u xs s A0 L A W) (h5 : L 5 = true) (h7 : L 7 = false) : I15 w wr gP gN ba cap l pcs k0 v1 v2 x1 x2 u xs s A0 (fun k => k == 7 || L k) A (W.setCell ⟨gN, 3, none⟩ (PB.slot A 68)) := by
  obtain ⟨⟨x, s', hx, hr⟩, h3, h4⟩ := h.at7 h5 h7
  refine ⟨h.defers, h.size, h.oth, fun hl => h.p0 (by rwa [onl (by omega)] at hl), fun hl => h.p1 (by rwa [onl (by omega)] at hl), fun hl => h.p2 (by rwa [onl (by omega)] at hl), fun hl => h.p6 (by rwa [onl (by omega)] at hl), fun hl => (by rw [onl (by omega)] at hl ⊢; exact h.w5 hl), ?_⟩
  show St15 _ _ _ _ _ _ _ _ _ _ _ _ _ _ _ _ ((3 == 7) || L 3) ((4 == 7) || L 4) ((5 == 7) || L 5) ((7 == 7) || L 7) _ _ _ _
  rw [h3, h4, h5, h7]
  exact ⟨x, s', _, hx.set, hr⟩

theorem I15.done (h : I15 w wr gP gN ba cap l pcs k0 v1 v2 x1 x2 u xs s A0 L A W) (h7 : L 7 = true) : ∃ x s' v, XS w wr gP gN ba cap l pcs k0 v1 v2 x1 x2 v (xs ++ [x]) v s' W ∧ Rd stepsB (LD 64 TOK) s x s' := by
  have k := h.st
  cases e3 : L 3 <;> cases e4 : L 4 <;> cases e5 : L 5 <;> rw [e3, e4, e5, h7] at k <;> simp only [St15] at k <;> try exact k.elim
  exact k
end

/-- A call, whatever it does. -/
theorem wp_callG {o : Oper} {a : Act} {w : World} {K : Act → World → Prop} {Q : Exit → Act → World → Prop} {P : Program} {f : FuncId} {fn : Func} {args : Array Operand} {ats : Array TypeId} (vs : Array Value)
    (ho : o.op = .call { callee := .value (.func f), args := args, argTypes := ats }) (hf : P.funcs[f]? = some fn) (hname : (fn.name == "runtime.NumGoroutine") = false) (hbody : fn.body.isNone = false)
    (hvs : args.toList.map a.eval = vs.toList) (hc : Calls P f vs w fun e w' => ∃ v, e = .returned v ∧ K (a.put o.dst v) w') : o.wp P a w K Q := by
  have hrun : (execOp a.eval o).run P w = .ok (.enter f vs) w := by
    obtain ⟨dst, op, ty, pos, aft, guard⟩ := o
    simp only at ho
    subst ho
    have hname' : ¬ fn.name = "runtime.NumGoroutine" := by simpa using hname
    have hbody' : ¬ fn.body = none := by
      intro h; rw [h] at hbody; cases hbody
    have hvs' : args.map a.eval = vs := by apply Array.ext'; rw [Array.toList_map]; exact hvs
    rw [execOp_call_go]
    simp [callFunc, hf, hname', hbody', hvs']
  unfold Oper.wp
  rw [hrun]
  simp only [Oper.upon]
  refine hc.mono ?_
  rintro e w' ⟨v, rfl, hk⟩
  exact hk

section
variable {a : Act} {t u c : Nat} {dst : Option Tmp} {ty : TypeId} {pos : String} {aft : Array Edge} {guard : Option (Nat × Bool)}

theorem run_moveD {v : Value} (w : World) (h : PB.slot a t = v) : (execOp a.eval { dst := dst, op := .move (.tmp t), type := ty, pos := pos, after := aft, guard := guard }).run Try.prog w = .ok (.value v) w := by
  have h1 : a.tmps[t]?.getD undef = v := by rw [← Array.getD_eq_getD_getElem?]; exact h
  go_simp

theorem run_faNode3 {g : Nat} (w : World) (h : PB.slot a t = .pointer (some ⟨g, 0, none⟩)) : (execOp a.eval { dst := dst, op := .fieldAddr 44 (.tmp t) 3, type := ty, pos := pos, after := aft, guard := guard }).run Try.prog w = .ok (.value (.pointer (some ⟨g, 3, none⟩))) w := by
  have h1 : a.tmps[t]?.getD undef = .pointer (some ⟨g, 0, none⟩) := by rw [← Array.getD_eq_getD_getElem?]; exact h
  go_simp

theorem run_ldE {g k : Nat} {x : Option Addr} {n m : Nat} (w : World) (h : PB.slot a t = .pointer (some ⟨g, k, none⟩)) (hc : w.cell? ⟨g, k, none⟩ = some (.slice x n m)) :
    (execOp a.eval { dst := dst, op := .load 42 (.tmp t), type := ty, pos := pos, after := aft, guard := guard }).run Try.prog w = .ok (.value (.slice x n m)) w := by
  have h0 : a.tmps[t]?.getD undef = .pointer (some ⟨g, k, none⟩) := by rw [← Array.getD_eq_getD_getElem?]; exact h
  go_simp

theorem run_stE {g k : Nat} {x y : Option Addr} {n m n' m' : Nat} (w : World) (h : PB.slot a t = .pointer (some ⟨g, k, none⟩)) (h' : PB.slot a u = .slice x n m) (hc : w.cell? ⟨g, k, none⟩ = some (.slice y n' m')) (hf : w.frozen? ⟨g, k, none⟩ = false) :
    (execOp a.eval { dst := dst, op := .store 42 (.tmp t) (.tmp u), type := ty, pos := pos, after := aft, guard := guard }).run Try.prog w = .ok .skip (w.setCell ⟨g, k, none⟩ (.slice x n m)) := by
  have h0 : a.tmps[t]?.getD undef = .pointer (some ⟨g, k, none⟩) := by rw [← Array.getD_eq_getD_getElem?]; exact h
  have h1 : a.tmps[u]?.getD undef = .slice x n m := by rw [← Array.getD_eq_getD_getElem?]; exact h'
  go_simp

theorem run_bsE {x : Option Addr} {n m : Nat} (w : World) (h : PB.slot a t = .slice x n m) :
    (execOp a.eval { dst := dst, op := .buildSlice 42 1 #[(0, .tmp t)], type := ty, pos := pos, after := aft, guard := guard }).run Try.prog w = .ok (.value (.slice (some ⟨w.heap.size, 0, none⟩) 1 1)) (w.alloc (.cells #[.slice x n m] 46)) := by
  have h0 : a.tmps[t]?.getD undef = .slice x n m := by rw [← Array.getD_eq_getD_getElem?]; exact h
  go_simp
end

end Go.Proofs.Ytjpjeledbjpaeaa
