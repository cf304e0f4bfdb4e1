/-
  What is proved here: the statement x, y := a[i], b[i] of commands, whose order is left open.
-/
import Derived.Test.YtgalmkhgbokidaaWX
import Derived.Test.YtgalmkhgbokidaaWQ
import Derived.Test.YtgalmkhgbokidaaOpenW
namespace Go.Proofs.Ytgalmkhgbokidaa
open Go.RowKit Go.Proofs
set_option maxRecDepth 20000
set_option linter.unusedVariables false
set_option linter.unusedSimpArgs false

structure R6 (vals : Nat → Option Value) (xs ys : Array Value) (A0 : Act) (wc : World) (L : Nat → Bool) (A : Act) (w : World) : Prop where
  defers : A.defers = A0.defers
  size : A.tmps.size = A0.tmps.size
  oth : ∀ t, t ≠ 8 → t ≠ 9 → (t < 21 ∨ 29 ≤ t) → PB.slot A t = PB.slot A0 t
  below : Below wc.heap.size wc w
  vals : ∀ k v, vals k = some v → L k = true → PB.slot A (21 + k) = v
  p6 : L 8 = true → ∃ g c, PB.slot A 8 = ptr g ∧ wc.heap.size ≤ g ∧ Bx w g c 31 ∧ c.size = 9
  p7 : L 9 = true → ∃ g c, PB.slot A 9 = ptr g ∧ wc.heap.size ≤ g ∧ Bx w g c 31 ∧ c.size = 9
  apart : L 8 = true → L 9 = true → PB.slot A 8 ≠ PB.slot A 9
  c12 : L 10 = true → L 8 = true ∧ L 9 = true
  c13 : L 11 = true → L 8 = true ∧ L 9 = true
  b12 : L 10 = true → ∃ g, PB.slot A 8 = ptr g ∧ Bx w g xs 31
  b13 : L 11 = true → ∃ g, PB.slot A 9 = ptr g ∧ Bx w g ys 31

section
variable {vals : Nat → Option Value} {xs ys : Array Value} {A0 : Act} {wc : World} {L : Nat → Bool} {A : Act} {w w' : World}

theorem on_other {i k : Nat} (h : k ≠ i) : ((k == i) || L k) = L k := by simp [h]

theorem R6.pure (h : R6 vals xs ys A0 wc L A w) (h49 : 29 ≤ A0.tmps.size) {i : Nat} {v : Value} (hi : i < 8) (hv : vals i = some v) (hb : Below w.heap.size w w') : R6 vals xs ys A0 wc (fun k => k == i || L k) (A.put (some (21 + i)) v) w' := by
  have o : ∀ t, (t < 21 ∨ 29 ≤ t) → PB.slot (A.put (some (21 + i)) v) t = PB.slot A t := fun t ht => PB.slot_put_other _ _ _ _ (by omega)
  have hx : ∀ g c t, Bx w g c t → Bx w' g c t := fun g c t hg => hg.keep hb
  refine ⟨h.defers, by simp [Act.put, h.size], fun t h6 h7 ht => (o t ht).trans (h.oth t h6 h7 ht), h.below.trans (hb.mono h.below.size), fun k u hu hk => ?_, ?_, ?_, ?_, ?_, ?_, ?_, ?_⟩
  · by_cases e : k = i
    · subst e
      rw [hv] at hu; cases hu
      exact PB.slot_put_same _ _ _ (by rw [h.size]; omega)
    · rw [PB.slot_put_other _ _ _ _ (by omega)]
      exact h.vals k u hu (by simpa [e] using hk)
  all_goals simp only [on_other (show (8 : Nat) ≠ i by omega), on_other (show (9 : Nat) ≠ i by omega), on_other (show (10 : Nat) ≠ i by omega), on_other (show (11 : Nat) ≠ i by omega), o 8 (by omega), o 9 (by omega)]
  · intro hl; obtain ⟨g, c, h1, h2, h3, h4⟩ := h.p6 hl; exact ⟨g, c, h1, h2, hx g c _ h3, h4⟩
  · intro hl; obtain ⟨g, c, h1, h2, h3, h4⟩ := h.p7 hl; exact ⟨g, c, h1, h2, hx g c _ h3, h4⟩
  · exact h.apart
  · exact h.c12
  · exact h.c13
  · intro hl; obtain ⟨g, h1, h3⟩ := h.b12 hl; exact ⟨g, h1, hx g _ _ h3⟩
  · intro hl; obtain ⟨g, h1, h3⟩ := h.b13 hl; exact ⟨g, h1, hx g _ _ h3⟩

/-- A command's zero. -/
def z9 : Array Value := cmA c0 s0

theorem R6.new6 (h : R6 vals xs ys A0 wc L A w) (h49 : 29 ≤ A0.tmps.size) (hv : ∀ k v, vals k = some v → k < 8) (hl : L 8 = false) : R6 vals xs ys A0 wc (fun k => k == 8 || L k) (A.put (some 8) (ptr w.heap.size)) (w.alloc (.cells z9 31)) := by
  have hb : Below w.heap.size w (w.alloc (.cells z9 31)) := (Below.refl _ w).alloc (Nat.le_refl _) _
  have o : ∀ t, t ≠ 8 → PB.slot (A.put (some 8) (ptr w.heap.size)) t = PB.slot A t := fun t ht => PB.slot_put_other _ _ _ _ ht
  have s : PB.slot (A.put (some 8) (ptr w.heap.size)) 8 = ptr w.heap.size := PB.slot_put_same _ _ _ (by rw [h.size]; omega)
  have n12 : L 10 = false := by
    rcases Bool.eq_false_or_eq_true (L 10) with h' | h'
    · have := (h.c12 h').1; rw [hl] at this; cases this
    · exact h'
  have n13 : L 11 = false := by
    rcases Bool.eq_false_or_eq_true (L 11) with h' | h'
    · have := (h.c13 h').1; rw [hl] at this; cases this
    · exact h'
  refine ⟨h.defers, by simp [Act.put, h.size], fun t h6 h7 ht => (o t h6).trans (h.oth t h6 h7 ht), h.below.alloc h.below.size _, fun k u hu hk => ?_, fun _ => ⟨w.heap.size, z9, s, h.below.size, Bx.new _ _ _, rfl⟩, fun h7 => ?_, fun _ h7 => ?_, fun h8 => ?_, fun h9 => ?_, fun h8 => ?_, fun h9 => ?_⟩
  · have hk10 := hv k u hu
    have hk6 : k ≠ 8 := by omega
    rw [o _ (by omega)]
    exact h.vals k u hu (by simpa [hk6] using hk)
  · simp at h7
    obtain ⟨g, c, h1, h2, h3, h4⟩ := h.p7 h7
    exact ⟨g, c, (o 9 (by omega)).trans h1, h2, h3.keep hb, h4⟩
  · simp at h7
    obtain ⟨g, c, h1, h2, h3, h4⟩ := h.p7 h7
    rw [s, o 9 (by omega), h1]
    intro e
    have := ptr_inj e
    have := h3.lt
    omega
  · simp [n12] at h8
  · simp [n13] at h9
  · simp [n12] at h8
  · simp [n13] at h9

theorem R6.new7 (h : R6 vals xs ys A0 wc L A w) (h49 : 29 ≤ A0.tmps.size) (hv : ∀ k v, vals k = some v → k < 8) (hl : L 9 = false) : R6 vals xs ys A0 wc (fun k => k == 9 || L k) (A.put (some 9) (ptr w.heap.size)) (w.alloc (.cells z9 31)) := by
  have hb : Below w.heap.size w (w.alloc (.cells z9 31)) := (Below.refl _ w).alloc (Nat.le_refl _) _
  have o : ∀ t, t ≠ 9 → PB.slot (A.put (some 9) (ptr w.heap.size)) t = PB.slot A t := fun t ht => PB.slot_put_other _ _ _ _ ht
  have s : PB.slot (A.put (some 9) (ptr w.heap.size)) 9 = ptr w.heap.size := PB.slot_put_same _ _ _ (by rw [h.size]; omega)
  have n12 : L 10 = false := by
    rcases Bool.eq_false_or_eq_true (L 10) with h' | h'
    · have := (h.c12 h').2; rw [hl] at this; cases this
    · exact h'
  have n13 : L 11 = false := by
    rcases Bool.eq_false_or_eq_true (L 11) with h' | h'
    · have := (h.c13 h').2; rw [hl] at this; cases this
    · exact h'
  refine ⟨h.defers, by simp [Act.put, h.size], fun t h6 h7 ht => (o t h7).trans (h.oth t h6 h7 ht), h.below.alloc h.below.size _, fun k u hu hk => ?_, fun h6 => ?_, fun _ => ⟨w.heap.size, z9, s, h.below.size, Bx.new _ _ _, rfl⟩, fun h6 _ => ?_, fun h8 => ?_, fun h9 => ?_, fun h8 => ?_, fun h9 => ?_⟩
  · have hk10 := hv k u hu
    have hk6 : k ≠ 9 := by omega
    rw [o _ (by omega)]
    exact h.vals k u hu (by simpa [hk6] using hk)
  · simp at h6
    obtain ⟨g, c, h1, h2, h3, h4⟩ := h.p6 h6
    exact ⟨g, c, (o 8 (by omega)).trans h1, h2, h3.keep hb, h4⟩
  · simp at h6
    obtain ⟨g, c, h1, h2, h3, h4⟩ := h.p6 h6
    rw [s, o 8 (by omega), h1]
    intro e
    have := ptr_inj e
    have := h3.lt
    omega
  · simp [n12] at h8
  · simp [n13] at h9
  · simp [n12] at h8
  · simp [n13] at h9

theorem R6.store12 (h : R6 vals xs ys A0 wc L A w) (hv : ∀ k v, vals k = some v → k < 8) (h10 : L 8 = true) (h11 : L 9 = true) {g : Nat} {c : Array Value} (hs : PB.slot A 8 = ptr g) (hg : wc.heap.size ≤ g) (hb : Bx w g c 31) (h9 : xs.size = 9) : R6 vals xs ys A0 wc (fun k => k == 10 || L k) A (w.setRow g xs) := by
  refine ⟨h.defers, h.size, h.oth, below_setRow h.below hg _, fun k u hu hk => ?_, fun _ => ⟨g, xs, hs, hg, hb.set, h9⟩, fun _ => ?_, fun _ _ => h.apart h10 h11, fun _ => ⟨by simp [h10], by simp [h11]⟩, fun _ => ⟨by simp [h10], by simp [h11]⟩, fun _ => ⟨g, hs, hb.set⟩, fun h9 => ?_⟩
  · have hk10 := hv k u hu
    have hk6 : k ≠ 10 := by omega
    exact h.vals k u hu (by simpa [hk6] using hk)
  · obtain ⟨g', c', h1, h2, h3, h4⟩ := h.p7 h11
    refine ⟨g', c', h1, h2, h3.other (fun e => ?_), h4⟩
    subst e
    exact h.apart h10 h11 (by rw [hs, h1])
  · simp at h9
    obtain ⟨g', h1, h3⟩ := h.b13 h9
    refine ⟨g', h1, h3.other (fun e => ?_)⟩
    subst e
    exact h.apart h10 h11 (by rw [hs, h1])

theorem R6.store13 (h : R6 vals xs ys A0 wc L A w) (hv : ∀ k v, vals k = some v → k < 8) (h10 : L 8 = true) (h11 : L 9 = true) {g : Nat} {c : Array Value} (hs : PB.slot A 9 = ptr g) (hg : wc.heap.size ≤ g) (hb : Bx w g c 31) (h9 : ys.size = 9) : R6 vals xs ys A0 wc (fun k => k == 11 || L k) A (w.setRow g ys) := by
  refine ⟨h.defers, h.size, h.oth, below_setRow h.below hg _, fun k u hu hk => ?_, fun _ => ?_, fun _ => ⟨g, ys, hs, hg, hb.set, h9⟩, fun _ _ => h.apart h10 h11, fun _ => ⟨by simp [h10], by simp [h11]⟩, fun _ => ⟨by simp [h10], by simp [h11]⟩, fun h8 => ?_, fun _ => ⟨g, hs, hb.set⟩⟩
  · have hk10 := hv k u hu
    have hk6 : k ≠ 11 := by omega
    exact h.vals k u hu (by simpa [hk6] using hk)
  · obtain ⟨g', c', h1, h2, h3, h4⟩ := h.p6 h10
    refine ⟨g', c', h1, h2, h3.other (fun e => ?_), h4⟩
    subst e
    exact h.apart h10 h11 (by rw [hs, h1])
  · simp at h8
    obtain ⟨g', h1, h3⟩ := h.b12 h8
    refine ⟨g', h1, h3.other (fun e => ?_)⟩
    subst e
    exact h.apart h10 h11 (by rw [hs, h1])
end

section
variable {a : Act} {t u c : Nat} {dst : Option Tmp} {ty : TypeId} {pos : String} {aft : Array Edge} {guard : Option (Nat × Bool)}

theorem run_allocNd (w : World) : (execOp a.eval { dst := dst, op := .alloc 31, type := ty, pos := pos, after := aft, guard := guard }).run Try.prog w = .ok (.value (ptr w.heap.size)) (w.alloc (.cells z9 31)) := by
  unfold ptr z9 cmA c0 s0
  go_simp

theorem run_ixK {b off n cap i : Nat} (w : World) (h : PB.slot a t = .slice (some ⟨b, off, none⟩) n cap) (h' : PB.slot a u = .int .i64 (i : Int)) (hi : i < n) (hn : n ≤ 1000000000) :
    (execOp a.eval { dst := dst, op := .indexAddr 33 (.tmp t) (.tmp u), type := ty, pos := pos, after := aft, guard := guard }).run Try.prog w = .ok (.value (.pointer (some ⟨b, off + i * 9, none⟩))) w := by
  have h1 : a.tmps[t]?.getD undef = .slice (some ⟨b, off, none⟩) n cap := by rw [← Array.getD_eq_getD_getElem?]; exact h
  have h2 : a.tmps[u]?.getD undef = .int .i64 (i : Int) := by rw [← Array.getD_eq_getD_getElem?]; exact h'
  go_simp

theorem run_storeNd {g : Nat} {cells old : Array Value} (w : World) (h : PB.slot a t = ptr g) (h' : PB.slot a u = .agg cells) (hg : Bx w g old 31) (ho : old.size = 9) (h9 : cells.size = 9) (h1 : cells.all (·.oneCell') = true) :
    (execOp a.eval { dst := dst, op := .store 31 (.tmp t) (.tmp u), type := ty, pos := pos, after := aft, guard := guard }).run Try.prog w = .ok .skip (w.setRow g cells) := by
  have e1 : a.tmps[t]?.getD undef = ptr g := by rw [← Array.getD_eq_getD_getElem?]; exact h
  have e2 : a.tmps[u]?.getD undef = .agg cells := by rw [← Array.getD_eq_getD_getElem?]; exact h'
  have hrun := run_storeVar_row (P := Try.prog) w g 31 31 old cells hg (by rw [h9]; kernel_rfl) (by rw [ho, h9]) h1
  unfold ptr at e1
  simp [execOp, Act.eval, e1, e2, Instr.storeAt, Instr.sureAddr, hrun]
end

end Go.Proofs.Ytgalmkhgbokidaa
