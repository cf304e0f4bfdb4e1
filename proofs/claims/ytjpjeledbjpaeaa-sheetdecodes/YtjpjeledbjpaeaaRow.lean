/-
  What is proved here: lists that a call itself has made, in memory: numbers, steps, expressions, nodes; that they stay while other memory is written; a thing more; how they read.
-/
import Derived.Test.YtjpjeledbjpaeaaRdr
namespace Go.Proofs.Ytjpjeledbjpaeaa
open Go.RowKit Go.Proofs
set_option maxRecDepth 20000
set_option linter.unusedVariables false
set_option linter.unusedSimpArgs false

/-- Blocks from base on, of the kinds ok, have not changed. -/
structure Fix (base : Nat) (ok : TypeId → Prop) (w w' : World) : Prop where
  size : w.heap.size ≤ w'.heap.size
  block : ∀ k c t z, base ≤ k → w.heap[k]? = some (.cells c t z) → ok t → w'.heap[k]? = w.heap[k]?

theorem Fix.of_but {base g : Nat} {ok : TypeId → Prop} {w w' : World} (h : But g w w') (hg : g < base) : Fix base ok w w' :=
  ⟨h.size, fun k c t z hk hc _ => h.block k (Array.getElem?_eq_some_iff.1 hc).1 (by omega)⟩

theorem Fix.of_grown {base base' e sz n : Nat} {w w' : World} {v : Value} {xs : List Value} (h : w.grownBy w' v.ownBlock) (ho : w.ownsRow base' e sz v n xs) : Fix base (fun t => t ≠ e) w w' := by
  refine ⟨h.size, fun k c t z hk hc ht => h.block k (Array.getElem?_eq_some_iff.1 hc).1 fun e1 => ?_⟩
  rcases ho.2 with ⟨rfl, _⟩ | ⟨g, cap, cur, rfl, _, hg, _⟩
  · simp [Value.ownBlock] at e1
  · simp [Value.ownBlock] at e1
    subst e1
    rw [hc] at hg
    simp at hg
    exact ht hg.2.1

theorem own_fix {base e sz n : Nat} {ok : TypeId → Prop} {w w' : World} {v : Value} {xs : List Value} (h : w.ownsRow base e sz v n xs) (hf : Fix base ok w w') (he : ok e) : w'.ownsRow base e sz v n xs := by
  refine ⟨h.1, ?_⟩
  rcases h.2 with h | ⟨g, cap, cur, h1, h2, h3, h4⟩
  · exact .inl h
  · exact .inr ⟨g, cap, cur, h1, h2, by rw [hf.block g _ _ _ h2 h3 he]; exact h3, h4⟩

theorem own_base {base base' e sz n : Nat} {w : World} {v : Value} {xs : List Value} (h : w.ownsRow base e sz v n xs) (hb : base' ≤ base) : w.ownsRow base' e sz v n xs := by
  refine ⟨h.1, ?_⟩
  rcases h.2 with h | ⟨g, cap, cur, h1, h2, h3⟩
  · exact .inl h
  · exact .inr ⟨g, cap, cur, h1, by omega, h3⟩

/-- v is a slice in a row of the call's own, of kind e, sz cells each, whose elements have the cells that E tells. -/
def Row {α : Type} (e sz : Nat) (E : Nat → World → α → List Value → Prop) (d : α) (base : Nat) (w : World) (v : Value) (xs : List α) : Prop :=
  ∃ cs : Nat → List Value, w.ownsRow base e sz v xs.length ((List.range xs.length).flatMap cs) ∧ ∀ i, i < xs.length → E base w (xs.getD i d) (cs i)

def EI (_ : Nat) (_ : World) (z : Int) (cs : List Value) : Prop := cs = [.int .i64 z]
def ET (_ : Nat) (_ : World) (t : V) (cs : List Value) : Prop := cs = [.int .i64 t.1, .int .i64 t.2.1, .string t.2.2]

def RInts := Row 3 1 EI 0
def RTerms := Row 64 3 ET d0
def EE (base : Nat) (w : World) (x : List V) (cs : List Value) : Prop := ∃ v, cs = [v] ∧ RTerms base w v x
def RExprs := Row 46 1 EE []

/-- A node's slices, made by the call. -/
structure NdO (base : Nat) (w : World) (x : Nd) (v1 v2 v3 v4 : Value) : Prop where
  ins : RInts base w v1 x.ins
  kinds : RInts base w v2 x.kinds
  exprs : RExprs base w v3 x.exprs
  cols : RInts base w v4 x.cols

def nd9 (x : Nd) (v1 v2 v3 v4 : Value) : List Value := [.int .i64 x.kind, v1, v2, v3, v4, .int .i64 x.key, .int .i64 x.n, .int .i64 x.size, .int .i64 x.slide]
def EN (base : Nat) (w : World) (x : Nd) (cs : List Value) : Prop := ∃ v1 v2 v3 v4, cs = nd9 x v1 v2 v3 v4 ∧ NdO base w x v1 v2 v3 v4
def RNodes := Row 44 9 EN n0

/-- The cells' relation lasts while blocks of some kinds stay. -/
def ELasts {α : Type} (E : Nat → World → α → List Value → Prop) (need : TypeId → Prop) : Prop :=
  ∀ base ok w w' x cs, E base w x cs → Fix base ok w w' → (∀ t, need t → ok t) → E base w' x cs
def EBase {α : Type} (E : Nat → World → α → List Value → Prop) : Prop := ∀ base base' w x cs, E base w x cs → base' ≤ base → E base' w x cs

theorem EI_lasts : ELasts EI (fun _ => False) := fun _ _ _ _ _ _ h _ _ => h
theorem ET_lasts : ELasts ET (fun _ => False) := fun _ _ _ _ _ _ h _ _ => h
theorem EI_base : EBase EI := fun _ _ _ _ _ h _ => h
theorem ET_base : EBase ET := fun _ _ _ _ _ h _ => h

theorem Row.fix {α : Type} {e sz : Nat} {E : Nat → World → α → List Value → Prop} {d : α} {need : TypeId → Prop} (hE : ELasts E need) {base : Nat} {ok : TypeId → Prop} {w w' : World} {v : Value} {xs : List α} (h : Row e sz E d base w v xs) (hf : Fix base ok w w') (he : ok e) (hn : ∀ t, need t → ok t) : Row e sz E d base w' v xs := by
  obtain ⟨cs, h1, h2⟩ := h
  exact ⟨cs, own_fix h1 hf he, fun i hi => hE _ _ _ _ _ _ (h2 i hi) hf hn⟩

theorem Row.base {α : Type} {e sz : Nat} {E : Nat → World → α → List Value → Prop} {d : α} (hE : EBase E) {base base' : Nat} {w : World} {v : Value} {xs : List α} (h : Row e sz E d base w v xs) (hb : base' ≤ base) : Row e sz E d base' w v xs := by
  obtain ⟨cs, h1, h2⟩ := h
  exact ⟨cs, own_base h1 hb, fun i hi => hE _ _ _ _ _ (h2 i hi) hb⟩

theorem EE_lasts : ELasts EE (fun t => t = 64) := fun base ok w w' x cs ⟨v, h1, h2⟩ hf hn => ⟨v, h1, h2.fix ET_lasts hf (hn _ rfl) (fun _ h => h.elim)⟩
theorem EE_base : EBase EE := fun _ _ _ _ _ ⟨v, h1, h2⟩ hb => ⟨v, h1, h2.base ET_base hb⟩
theorem NdO.fix {base : Nat} {ok : TypeId → Prop} {w w' : World} {x : Nd} {v1 v2 v3 v4 : Value} (h : NdO base w x v1 v2 v3 v4) (hf : Fix base ok w w') (hn : ∀ t, (t = 3 ∨ t = 46 ∨ t = 64) → ok t) : NdO base w' x v1 v2 v3 v4 :=
  ⟨h.ins.fix EI_lasts hf (hn _ (.inl rfl)) (fun _ h => h.elim), h.kinds.fix EI_lasts hf (hn _ (.inl rfl)) (fun _ h => h.elim), h.exprs.fix EE_lasts hf (hn _ (.inr (.inl rfl))) (fun t ht => hn t (.inr (.inr ht))), h.cols.fix EI_lasts hf (hn _ (.inl rfl)) (fun _ h => h.elim)⟩
theorem NdO.base {base base' : Nat} {w : World} {x : Nd} {v1 v2 v3 v4 : Value} (h : NdO base w x v1 v2 v3 v4) (hb : base' ≤ base) : NdO base' w x v1 v2 v3 v4 :=
  ⟨h.ins.base EI_base hb, h.kinds.base EI_base hb, h.exprs.base EE_base hb, h.cols.base EI_base hb⟩
theorem EN_lasts : ELasts EN (fun t => t = 3 ∨ t = 46 ∨ t = 64) := fun base ok w w' x cs ⟨v1, v2, v3, v4, h1, h2⟩ hf hn => ⟨v1, v2, v3, v4, h1, h2.fix hf hn⟩
theorem EN_base : EBase EN := fun _ _ _ _ _ ⟨v1, v2, v3, v4, h1, h2⟩ hb => ⟨v1, v2, v3, v4, h1, h2.base hb⟩

theorem Row.nil {α : Type} {e sz : Nat} {E : Nat → World → α → List Value → Prop} {d : α} {base : Nat} {w : World} {v : Value} (h : w.ownsRow base e sz v 0 []) : Row e sz E d base w v ([] : List α) := ⟨fun _ => [], h, fun i hi => by simp at hi⟩

theorem flatMap_same {f g : Nat → List Value} : ∀ l : List Nat, (∀ i ∈ l, f i = g i) → l.flatMap f = l.flatMap g
  | [], _ => rfl
  | x :: l, h => by rw [List.flatMap_cons, List.flatMap_cons, h x (by simp), flatMap_same l fun i hi => h i (List.mem_cons_of_mem _ hi)]

theorem range_map_push (cs : Nat → List Value) (c : List Value) (n : Nat) : (List.range (n + 1)).flatMap (fun i => if i < n then cs i else c) = (List.range n).flatMap cs ++ c := by
  rw [List.range_succ, List.flatMap_append, List.flatMap_singleton, if_neg (by omega)]
  congr 1
  exact flatMap_same _ fun i hi => if_pos (List.mem_range.1 hi)

/-- A thing more. -/
theorem Row.push {α : Type} {e sz : Nat} {E : Nat → World → α → List Value → Prop} {d : α} {need : TypeId → Prop} (hE : ELasts E need) (hne : ∀ t, need t → t ≠ e) {base : Nat} {w w' : World} {v v' : Value} {xs : List α} {x : α} {c : List Value} {cs : Nat → List Value}
    (h1 : w.ownsRow base e sz v xs.length ((List.range xs.length).flatMap cs)) (h2 : ∀ i, i < xs.length → E base w (xs.getD i d) (cs i)) (hx : E base w x c) (hg : w.grownBy w' v.ownBlock) (ho : w'.ownsRow base e sz v' (xs.length + 1) ((List.range xs.length).flatMap cs ++ c)) : Row e sz E d base w' v' (xs ++ [x]) := by
  have hf : Fix base (fun t => t ≠ e) w w' := Fix.of_grown hg h1
  refine ⟨fun i => if i < xs.length then cs i else c, ?_, fun i hi => ?_⟩
  · rw [List.length_append, List.length_singleton, range_map_push]
    exact ho
  · rw [List.length_append, List.length_singleton] at hi
    show E base w' ((xs ++ [x]).getD i d) (if i < xs.length then cs i else c)
    by_cases h : i < xs.length
    · rw [if_pos h]
      have e1 : (xs ++ [x]).getD i d = xs.getD i d := by simp [List.getD, List.getElem?_append_left h]
      rw [e1]
      exact hE _ _ _ _ _ _ (h2 i h) hf hne
    · rw [if_neg h]
      have e2 : i = xs.length := by omega
      subst e2
      have e1 : (xs ++ [x]).getD xs.length d = x := by simp [List.getD]
      rw [e1]
      exact hE _ _ _ _ _ _ hx hf hne

/-! How they read. -/

theorem flat_cell {cs : Nat → List Value} {sz : Nat} : ∀ {n : Nat}, (∀ i, i < n → (cs i).length = sz) → ∀ i j, i < n → j < sz → ((List.range n).flatMap cs)[i * sz + j]? = (cs i)[j]?
  | 0, _, i, j, hi, _ => by omega
  | n + 1, h, i, j, hi, hj => by
    rw [List.range_succ, List.flatMap_append, List.flatMap_singleton]
    have hl : ((List.range n).flatMap cs).length = n * sz := by
      have : ∀ m, m ≤ n → ((List.range m).flatMap cs).length = m * sz := by
        intro m
        induction m with
        | zero => intro _; simp
        | succ m ih => intro hm; rw [List.range_succ, List.flatMap_append, List.length_append, ih (by omega), List.flatMap_singleton, h m (by omega), Nat.add_mul, Nat.one_mul]
      exact this n (Nat.le_refl _)
    rcases Nat.lt_or_ge i n with hin | hin
    · have hlt : i * sz + j < n * sz := by
        have : (i + 1) * sz ≤ n * sz := Nat.mul_le_mul_right _ hin
        rw [Nat.add_mul] at this
        omega
      rw [List.getElem?_append_left (by omega)]
      exact flat_cell (fun k hk => h k (by omega)) i j hin hj
    · have e : i = n := by omega
      subst e
      rw [List.getElem?_append_right (by omega), hl]
      congr 1
      omega

theorem Row.form {α : Type} {e sz : Nat} {E : Nat → World → α → List Value → Prop} {d : α} {base : Nat} {w : World} {v : Value} {xs : List α} (h : Row e sz E d base w v xs) : ∃ a c, v = .slice a xs.length c := by
  obtain ⟨cs, h1, _⟩ := h
  rcases h1.2 with ⟨rfl, h0⟩ | ⟨g, cap, cur, rfl, _⟩
  · exact ⟨none, 0, by rw [h0]⟩
  · exact ⟨_, _, rfl⟩

theorem Row.cellsAt {α : Type} {e sz : Nat} {E : Nat → World → α → List Value → Prop} {d : α} {base : Nat} {w : World} {a : Option Addr} {n c : Nat} {xs : List α} (h : Row e sz E d base w (.slice a n c) xs) (hE : ∀ base w x cs, E base w x cs → cs.length = sz) (hne : xs ≠ []) :
    ∃ b, a = some ⟨b, 0, none⟩ ∧ b < w.heap.size ∧ ∃ cs : Nat → List Value, (∀ i, i < xs.length → E base w (xs.getD i d) (cs i)) ∧ ∀ i j, i < xs.length → j < sz → w.cell? ⟨b, i * sz + j, none⟩ = (cs i)[j]? := by
  obtain ⟨cs, h1, h2⟩ := h
  have hh := h1
  rcases h1.2 with ⟨h, h0⟩ | ⟨g, cap, cur, hv, _, hg, _⟩
  · exact absurd (List.eq_nil_of_length_eq_zero h0) hne
  · cases hv
    refine ⟨g, rfl, (hh.lt g rfl).2, cs, h2, fun i j hi hj => ?_⟩
    have hlt : i * sz + j < xs.length * sz := by
      have : (i + 1) * sz ≤ xs.length * sz := Nat.mul_le_mul_right _ hi
      rw [Nat.add_mul] at this
      omega
    rw [hh.cellAt (i * sz + j) hlt]
    exact flat_cell (fun k hk => hE _ _ _ _ (h2 k hk)) i j hi hj

theorem RInts.ns {base : Nat} {w : World} {a : Option Addr} {n c : Nat} {xs : List Int} (h : RInts base w (.slice a n c) xs) : Ns w.heap.size w a xs := by
  refine ⟨fun hne => ?_⟩
  obtain ⟨b, rfl, hb, cs, h1, h2⟩ := h.cellsAt (fun _ _ _ _ h => by rw [h]; rfl) hne
  refine ⟨b, 0, rfl, hb, fun i hi => ?_⟩
  have := h2 i 0 hi (by omega)
  rw [h1 i hi] at this
  simpa using this

theorem RTerms.vs {base : Nat} {w : World} {a : Option Addr} {n c : Nat} {xs : List V} (h : RTerms base w (.slice a n c) xs) : Vs w.heap.size w a xs := by
  refine ⟨fun hne => ?_⟩
  obtain ⟨b, rfl, hb, cs, h1, h2⟩ := h.cellsAt (fun _ _ _ _ h => by rw [h]; rfl) hne
  refine ⟨b, 0, rfl, hb, fun i hi => ?_⟩
  have a0 := h2 i 0 hi (by omega)
  have a1 := h2 i 1 hi (by omega)
  have a2 := h2 i 2 hi (by omega)
  rw [h1 i hi] at a0 a1 a2
  simp only [Nat.zero_add]
  exact ⟨by simpa using a0, by simpa using a1, by simpa using a2⟩

theorem RExprs.es {base : Nat} {w : World} {a : Option Addr} {n c : Nat} {xs : List (List V)} (h : RExprs base w (.slice a n c) xs) : Es w.heap.size w a xs := by
  refine ⟨fun hne => ?_⟩
  obtain ⟨b, rfl, hb, cs, h1, h2⟩ := h.cellsAt (fun _ _ _ _ ⟨v, h, _⟩ => by rw [h]; rfl) hne
  refine ⟨b, 0, rfl, hb, fun i hi => ?_⟩
  have a0 := h2 i 0 hi (by omega)
  obtain ⟨v, e1, e2⟩ := h1 i hi
  rw [e1] at a0
  obtain ⟨a', c', rfl⟩ := e2.form
  exact ⟨a', c', by simpa using a0, e2.vs⟩

theorem NdO.r {base : Nat} {w : World} {x : Nd} {v1 v2 v3 v4 : Value} (h : NdO base w x v1 v2 v3 v4) : ∃ s : NdS, v1 = .slice s.a1 x.ins.length s.c1 ∧ v2 = .slice s.a2 x.kinds.length s.c2 ∧ v3 = .slice s.a3 x.exprs.length s.c3 ∧ v4 = .slice s.a4 x.cols.length s.c4 ∧ NdR w.heap.size w x s := by
  obtain ⟨i1, i2, i3, i4⟩ := h
  obtain ⟨a1, c1, rfl⟩ := i1.form
  obtain ⟨a2, c2, rfl⟩ := i2.form
  obtain ⟨a3, c3, rfl⟩ := i3.form
  obtain ⟨a4, c4, rfl⟩ := i4.form
  exact ⟨⟨a1, c1, a2, c2, a3, c3, a4, c4⟩, rfl, rfl, rfl, rfl, ⟨i1.ns, i2.ns, i3.es, i4.ns⟩⟩

theorem RNodes.nds {base : Nat} {w : World} {a : Option Addr} {n c : Nat} {xs : List Nd} (h : RNodes base w (.slice a n c) xs) : Nds w.heap.size w a xs := by
  refine ⟨fun hne => ?_⟩
  obtain ⟨b, rfl, hb, cs, h1, h2⟩ := h.cellsAt (fun _ _ _ _ ⟨_, _, _, _, h, _⟩ => by rw [h]; rfl) hne
  refine ⟨b, 0, rfl, hb, fun i hi => ?_⟩
  obtain ⟨v1, v2, v3, v4, e1, e2⟩ := h1 i hi
  obtain ⟨s, rfl, rfl, rfl, rfl, hr⟩ := e2.r
  have key := fun j hj => h2 i j hi hj
  rw [e1] at key
  refine ⟨s, ?_, hr⟩
  simp only [Nat.zero_add]
  exact ⟨by simpa [nd9] using key 0 (by omega), by simpa [nd9] using key 1 (by omega), by simpa [nd9] using key 2 (by omega), by simpa [nd9] using key 3 (by omega), by simpa [nd9] using key 4 (by omega), by simpa [nd9] using key 5 (by omega), by simpa [nd9] using key 6 (by omega), by simpa [nd9] using key 7 (by omega), by simpa [nd9] using key 8 (by omega)⟩

end Go.Proofs.Ytjpjeledbjpaeaa
