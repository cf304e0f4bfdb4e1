/-
  What is proved here: how a trace in memory changes: a number more, a reader put, a reader gone, since moved.
-/
import Derived.Test.YtlamcgeboclkjaaTrB
namespace Go.Proofs.Ytlamcgeboclkjaa
open Go.RowKit Go.Maps
set_option linter.unusedVariables false
set_option linter.unusedSimpArgs false

/-- Nothing but three blocks has changed. -/
structure Kp (G S M : Nat) (w w' : World) : Prop where
  os : w'.os = w.os
  tape : w'.tape = w.tape
  output : w'.output = w.output
  size : w.heap.size ≤ w'.heap.size
  block : ∀ k, k < w.heap.size → k ≠ G → k ≠ S → k ≠ M → w'.heap[k]? = w.heap[k]?

theorem Kp.of_below {G S M : Nat} {w w' : World} (h : Below w.heap.size w w') : Kp G S M w w' := ⟨h.os, h.tape, h.output, h.size, fun k hk _ _ _ => h.block k hk⟩
theorem Kp.trans {G S M : Nat} {a b c : World} (h : Kp G S M a b) (k : Kp G S M b c) : Kp G S M a c :=
  ⟨k.os.trans h.os, k.tape.trans h.tape, k.output.trans h.output, Nat.le_trans h.size k.size, fun i hi h1 h2 h3 => (k.block i (Nat.lt_of_lt_of_le hi h.size) h1 h2 h3).trans (h.block i hi h1 h2 h3)⟩
theorem Kp.of_grown {G S M : Nat} {w w' : World} (h : w.grownBy w' (some M)) : Kp G S M w w' := ⟨h.os, h.tape, h.output, h.size, fun k hk _ _ h3 => h.block k hk (fun e => h3 (by simpa using e))⟩
theorem Kp.set {G S M b i : Nat} {w : World} (hb : b = G ∨ b = S) (u : Value) : Kp G S M w (w.setCell ⟨b, i, none⟩ u) :=
  ⟨rfl, rfl, rfl, by simp, fun k hk h1 h2 _ => Below.heap_setCell _ _ _ _ (by rcases hb with rfl | rfl <;> assumption)⟩
theorem Kp.below {G S M B : Nat} {w0 w w' : World} (h : Kp G S M w w') (h0 : Below B w0 w) (hB : B ≤ w0.heap.size) (hG : B ≤ G) (hS : B ≤ S) (hM : B ≤ M) : Below B w0 w' :=
  ⟨h.os.trans h0.os, h.tape.trans h0.tape, h.output.trans h0.output, Nat.le_trans h0.size h.size, fun k hk => (h.block k (by have := h0.size; omega) (by omega) (by omega) (by omega)).trans (h0.block k hk)⟩

theorem One.kept {x : T} {v : Value} {w w' : World} (h : One x v w) (hk : ∀ (g : Nat) (cur : Array Value), w.heap[g]? = some (.cells cur 31 (0, 0)) → w'.heap[g]? = w.heap[g]?) : One x v w' := by
  obtain ⟨hr, g, c, cur, rfl, hc, hg, ht⟩ := h
  exact ⟨hr, g, c, cur, rfl, hc, (hk g cur hg).trans hg, ht⟩

section
variable {w : World} {G S M nn : Nat} {ks : Int → Prop} {cnt : Nat} {f : Int → T} {nx : Nat} {sx : T}

theorem St.other (h : St w G S M nn ks cnt f nx sx) {g : Nat} {cur : Array Value} (hg : w.heap[g]? = some (.cells cur 31 (0, 0))) : g ≠ G ∧ g ≠ S ∧ g ≠ M := by
  refine ⟨?_, ?_, ?_⟩
  · rintro rfl
    have := h.tr
    rw [hg] at this
    simp at this
  · rintro rfl
    obtain ⟨sv, hS, _⟩ := h.sp
    rw [hg] at hS
    simp at hS
  · rintro rfl
    obtain ⟨D, ⟨es, clock, hb, _⟩, _⟩ := h.mp
    rw [hg] at hb
    simp at hb

theorem St.one (h : St w G S M nn ks cnt f nx sx) {w' : World} (hk : Kp G S M w w') {x : T} {v : Value} (ho : One x v w) : One x v w' :=
  ho.kept fun g cur hg => hk.block g (Array.getElem?_eq_some_iff.1 hg).1 (h.other hg).1 (h.other hg).2.1 (h.other hg).2.2

theorem St.apart (h : St w G S M nn ks cnt f nx sx) : G ≠ S ∧ G ≠ M ∧ S ≠ M := by
  obtain ⟨sv, hS, _⟩ := h.sp
  obtain ⟨D, ⟨es, clock, hb, _⟩, _⟩ := h.mp
  have hG := h.tr
  refine ⟨?_, ?_, ?_⟩
  · rintro rfl; rw [hG] at hS; simp at hS
  · rintro rfl; rw [hG] at hb; simp at hb
  · rintro rfl; rw [hS] at hb; simp at hb

/-- The next number is one more. -/
theorem St.bump (h : St w G S M nn ks cnt f nx sx) : St (w.setCell ⟨G, 2, none⟩ (.int .i64 ((nx : Int) + 1))) G S M nn ks cnt f (nx + 1) sx := by
  have hk : Kp G S M w (w.setCell ⟨G, 2, none⟩ (.int .i64 ((nx : Int) + 1))) := Kp.set (.inl rfl) _
  obtain ⟨a1, a2, a3⟩ := h.apart
  obtain ⟨sv, hS, hone⟩ := h.sp
  obtain ⟨D, hown, hc, hkk, hv⟩ := h.mp
  refine ⟨?_, ⟨sv, (Below.heap_setCell _ _ _ _ (Ne.symm a1)).trans hS, h.one hk hone⟩, D, hown.setCell (Ne.symm a2) _, hc, hkk, fun z hz => ?_⟩
  · simp [World.setCell, h.tr, Array.getElem?_modify]
  · obtain ⟨v, h1, h2⟩ := hv z hz
    exact ⟨v, h1, h.one hk h2⟩

/-- Since is another. -/
theorem St.move (h : St w G S M nn ks cnt f nx sx) {y : T} {u : Value} (hu : One y u w) : St (w.setCell ⟨S, 2, none⟩ u) G S M nn ks cnt f nx y := by
  have hk : Kp G S M w (w.setCell ⟨S, 2, none⟩ u) := Kp.set (.inr rfl) _
  obtain ⟨a1, a2, a3⟩ := h.apart
  obtain ⟨sv, hS, hone⟩ := h.sp
  obtain ⟨D, hown, hc, hkk, hv⟩ := h.mp
  refine ⟨(Below.heap_setCell _ _ _ _ a1).trans h.tr, ⟨u, ?_, h.one hk hu⟩, D, hown.setCell (Ne.symm a3) _, hc, hkk, fun z hz => ?_⟩
  · simp [World.setCell, hS, Array.getElem?_modify]
  · obtain ⟨v, h1, h2⟩ := hv z hz
    exact ⟨v, h1, h.one hk h2⟩

theorem lit_ne {y z : Int} (h : y ≠ z) : (Lit.int .i64 y) ≠ (Lit.int .i64 z) := fun e => h (by injection e)

/-- A reader is put into the map. -/
theorem St.put (h : St w G S M nn ks cnt f nx sx) {D : DataW Value} (hown : w.ownsMap Try.prog 3 heldR M nn D) (hc : Maps.size D = cnt) (hk : ∀ z, has D (.int .i64 z) = true ↔ ks z) (hv : ∀ z, ks z → ∃ v, (∀ zd, D.atKey (.int .i64 z) zd = .held v) ∧ One (f z) v w)
    {w' : World} {z : Int} {u : Value} (hz : R64 z) (hown' : w'.ownsMap Try.prog 3 heldR M (nn + 1) (D.put (.int .i64 z) (.held u))) (hg : w.grownBy w' (some M)) {f' : Int → T} (hu : One (f' z) u w) (hf : ∀ y, ks y → y ≠ z → f' y = f y) {cnt' : Nat} (h1 : ks z → cnt' = cnt) (h2 : ¬ ks z → cnt' = cnt + 1) :
    St w' G S M (nn + 1) (fun y => y = z ∨ ks y) cnt' f' nx sx := by
  have hkp : Kp G S M w w' := Kp.of_grown hg
  obtain ⟨a1, a2, a3⟩ := h.apart
  obtain ⟨sv, hS, hone⟩ := h.sp
  have hlit := keyed3.key (key3 hz)
  refine ⟨(hg.block G (Array.getElem?_eq_some_iff.1 h.tr).1 (fun e => a2 (by simpa using e))).trans h.tr, ⟨sv, (hg.block S (Array.getElem?_eq_some_iff.1 hS).1 (fun e => a3 (by simpa using e))).trans hS, h.one hkp hone⟩, _, hown', ?_, fun y => ?_, fun y hy => ?_⟩
  · rw [size_put (hown.tidy keyed3), hc]
    by_cases hh : ks z
    · rw [if_pos ((hk z).2 hh), h1 hh]
    · rw [if_neg (fun e => hh ((hk z).1 e)), h2 hh]
  · by_cases e : y = z
    · subst e; simp [has_put_same hown.isMap hlit]
    · rw [has_put_other (lit_ne e), hk y]; simp [e]
  · by_cases e : y = z
    · subst e
      exact ⟨u, fun zd => atKey_put_same hown.isMap hlit _ _, h.one hkp hu⟩
    · have hky : ks y := by rcases hy with hy | hy; exact absurd hy e; exact hy
      obtain ⟨v, q1, q2⟩ := hv y hky
      exact ⟨v, fun zd => (atKey_put_other (lit_ne e) _ _).trans (q1 zd), by rw [hf y hky e]; exact h.one hkp q2⟩

/-- A reader is gone. -/
theorem St.del (h : St w G S M nn ks cnt f nx sx) {D : DataW Value} (hown : w.ownsMap Try.prog 3 heldR M nn D) (hc : Maps.size D = cnt) (hk : ∀ z, has D (.int .i64 z) = true ↔ ks z) (hv : ∀ z, ks z → ∃ v, (∀ zd, D.atKey (.int .i64 z) zd = .held v) ∧ One (f z) v w)
    {w' : World} {z : Int} (hown' : w'.ownsMap Try.prog 3 heldR M nn (D.del (.int .i64 z))) (hg : w.grownBy w' (some M)) (hkz : ks z) :
    St w' G S M nn (fun y => ks y ∧ y ≠ z) (cnt - 1) f nx sx := by
  have hkp : Kp G S M w w' := Kp.of_grown hg
  obtain ⟨a1, a2, a3⟩ := h.apart
  obtain ⟨sv, hS, hone⟩ := h.sp
  refine ⟨(hg.block G (Array.getElem?_eq_some_iff.1 h.tr).1 (fun e => a2 (by simpa using e))).trans h.tr, ⟨sv, (hg.block S (Array.getElem?_eq_some_iff.1 hS).1 (fun e => a3 (by simpa using e))).trans hS, h.one hkp hone⟩, _, hown', ?_, fun y => ?_, fun y hy => ?_⟩
  · have := size_del (k := .int .i64 z) (hown.tidy keyed3)
    rw [if_pos ((hk z).2 hkz), hc] at this
    omega
  · by_cases e : y = z
    · subst e; simp [has_del_same]
    · rw [has_del_other (lit_ne e), hk y]; simp [e]
  · obtain ⟨v, q1, q2⟩ := hv y hy.1
    exact ⟨v, fun zd => (atKey_del_other (lit_ne hy.2) _).trans (q1 zd), h.one hkp q2⟩

end

end Go.Proofs.Ytlamcgeboclkjaa
