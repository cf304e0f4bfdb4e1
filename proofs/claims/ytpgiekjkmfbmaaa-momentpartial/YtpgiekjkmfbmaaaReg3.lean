/-
  What is proved here: what holds while the statement j, m := Join(a, b), Meet(a, b) goes on, in whatever order.
-/
import Derived.Test.YtpgiekjkmfbmaaaPartAid
import Derived.Test.YtpgiekjkmfbmaaaPlanI
namespace Go.Proofs.Ytpgiekjkmfbmaaa
open Go.RowKit Go.Proofs
set_option linter.unusedVariables false
set_option linter.unusedSimpArgs false

def ptr (g : Nat) : Value := .pointer (some ⟨g, 0, none⟩)

/-- Block g holds a time. -/
def Box (w : World) (g : Nat) (x : T) : Prop := w.heap[g]? = some (.cells #[.int .i64 x.1, .int .i64 x.2] 23 (0, 0))

theorem Box.lt {w : World} {g : Nat} {x : T} (h : Box w g x) : g < w.heap.size := (Array.getElem?_eq_some_iff.1 h).1
theorem Box.keep {w w' : World} {g : Nat} {x : T} (h : Box w g x) (hb : Below w.heap.size w w') : Box w' g x := (hb.block g h.lt).trans h

/-- The values that the first six operations leave. -/
def valOf (a b j m : T) : Nat → Option Value
  | 0 => some (tv a) | 1 => some (tv b) | 2 => some (tv j) | 3 => some (tv a) | 4 => some (tv b) | 5 => some (tv m) | _ => none

structure R3 (p : Nat) (a b j m : T) (wc : World) (L : Nat → Bool) (A : Act) (w : World) : Prop where
  defers : A.defers = []
  size : A.tmps.size = 121
  s3 : PB.slot A 3 = ptr p
  s4 : PB.slot A 4 = ptr (p + 1)
  s5 : PB.slot A 5 = ptr (p + 1 + 1)
  s6 : PB.slot A 6 = .bool false
  below : Below wc.heap.size wc w
  vals : ∀ k v, valOf a b j m k = some v → L k = true → PB.slot A (44 + k) = v
  p7 : L 6 = true → ∃ g x, PB.slot A 7 = ptr g ∧ wc.heap.size ≤ g ∧ Box w g x
  p8 : L 7 = true → ∃ g x, PB.slot A 8 = ptr g ∧ wc.heap.size ≤ g ∧ Box w g x
  apart : L 6 = true → L 7 = true → PB.slot A 7 ≠ PB.slot A 8
  c8 : L 8 = true → L 6 = true ∧ L 7 = true
  c9 : L 9 = true → L 6 = true ∧ L 7 = true
  b8 : L 8 = true → ∃ g, PB.slot A 7 = ptr g ∧ Box w g j
  b9 : L 9 = true → ∃ g, PB.slot A 8 = ptr g ∧ Box w g m

section
variable {p : Nat} {a b j m : T} {wc : World} {L : Nat → Bool} {A : Act} {w w' : World}

theorem on_other {i k : Nat} (h : k ≠ i) : ((k == i) || L k) = L k := by simp [h]

theorem R3.pure (h : R3 p a b j m wc L A w) {i : Nat} {v : Value} (hi : i < 6) (hv : valOf a b j m i = some v) (hb : Below w.heap.size w w') : R3 p a b j m wc (fun k => k == i || L k) (A.put (some (44 + i)) v) w' := by
  have o : ∀ t, t < 44 → PB.slot (A.put (some (44 + i)) v) t = PB.slot A t := fun t ht => PB.slot_put_other _ _ _ _ (by omega)
  have hx : ∀ g x, Box w g x → Box w' g x := fun g x hg => hg.keep hb
  refine ⟨h.defers, by simp [Act.put, h.size], (o 3 (by omega)).trans h.s3, (o 4 (by omega)).trans h.s4, (o 5 (by omega)).trans h.s5, (o 6 (by omega)).trans h.s6, h.below.trans (hb.mono h.below.size), fun k u hu hk => ?_, ?_, ?_, ?_, ?_, ?_, ?_, ?_⟩
  · by_cases e : k = i
    · subst e
      rw [hv] at hu; cases hu
      exact PB.slot_put_same _ _ _ (by rw [h.size]; omega)
    · rw [PB.slot_put_other _ _ _ _ (by omega)]
      exact h.vals k u hu (by simpa [e] using hk)
  all_goals simp only [on_other (show (6 : Nat) ≠ i by omega), on_other (show (7 : Nat) ≠ i by omega), on_other (show (8 : Nat) ≠ i by omega), on_other (show (9 : Nat) ≠ i by omega), o 7 (by omega), o 8 (by omega)]
  · intro hl; obtain ⟨g, x, h1, h2, h3⟩ := h.p7 hl; exact ⟨g, x, h1, h2, hx g x h3⟩
  · intro hl; obtain ⟨g, x, h1, h2, h3⟩ := h.p8 hl; exact ⟨g, x, h1, h2, hx g x h3⟩
  · exact h.apart
  · exact h.c8
  · exact h.c9
  · intro hl; obtain ⟨g, h1, h3⟩ := h.b8 hl; exact ⟨g, h1, hx g _ h3⟩
  · intro hl; obtain ⟨g, h1, h3⟩ := h.b9 hl; exact ⟨g, h1, hx g _ h3⟩

theorem ptr_inj {g g' : Nat} (h : ptr g = ptr g') : g = g' := by simpa [ptr] using h

theorem R3.new7 (h : R3 p a b j m wc L A w) (hl : L 6 = false) : R3 p a b j m wc (fun k => k == 6 || L k) (A.put (some 7) (ptr w.heap.size)) (w.alloc (.cells #[.int .i64 0, .int .i64 0] 23)) := by
  have hb : Below w.heap.size w (w.alloc (.cells #[.int .i64 0, .int .i64 0] 23)) := (Below.refl _ w).alloc (Nat.le_refl _) _
  have o : ∀ t, t ≠ 7 → PB.slot (A.put (some 7) (ptr w.heap.size)) t = PB.slot A t := fun t ht => PB.slot_put_other _ _ _ _ ht
  have s : PB.slot (A.put (some 7) (ptr w.heap.size)) 7 = ptr w.heap.size := PB.slot_put_same _ _ _ (by rw [h.size]; omega)
  have hx : ∀ g x, Box w g x → Box (w.alloc (.cells #[.int .i64 0, .int .i64 0] 23)) g x := fun g x hg => hg.keep hb
  have n8 : L 8 = false := by
    rcases Bool.eq_false_or_eq_true (L 8) with h' | h'
    · have := (h.c8 h').1; rw [hl] at this; cases this
    · exact h'
  have n9 : L 9 = false := by
    rcases Bool.eq_false_or_eq_true (L 9) with h' | h'
    · have := (h.c9 h').1; rw [hl] at this; cases this
    · exact h'
  refine ⟨h.defers, by simp [Act.put, h.size], (o 3 (by omega)).trans h.s3, (o 4 (by omega)).trans h.s4, (o 5 (by omega)).trans h.s5, (o 6 (by omega)).trans h.s6, h.below.alloc h.below.size _, fun k u hu hk => ?_, fun _ => ⟨w.heap.size, (0, 0), s, h.below.size, World.alloc_heap_new _ _⟩, fun h7 => ?_, fun _ h7 => ?_, fun h8 => ?_, fun h9 => ?_, fun h8 => ?_, fun h9 => ?_⟩
  · have hk6 : k ≠ 6 := by rintro rfl; simp [valOf] at hu
    rw [o _ (by omega)]
    exact h.vals k u hu (by simpa [hk6] using hk)
  · simp at h7
    obtain ⟨g, x, h1, h2, h3⟩ := h.p8 h7
    exact ⟨g, x, (o 8 (by omega)).trans h1, h2, hx g x h3⟩
  · simp at h7
    obtain ⟨g, x, h1, h2, h3⟩ := h.p8 h7
    rw [s, o 8 (by omega), h1]
    intro e
    have := ptr_inj e
    have := h3.lt
    omega
  · simp [n8] at h8
  · simp [n9] at h9
  · simp [n8] at h8
  · simp [n9] at h9

theorem R3.new8 (h : R3 p a b j m wc L A w) (hl : L 7 = false) : R3 p a b j m wc (fun k => k == 7 || L k) (A.put (some 8) (ptr w.heap.size)) (w.alloc (.cells #[.int .i64 0, .int .i64 0] 23)) := by
  have hb : Below w.heap.size w (w.alloc (.cells #[.int .i64 0, .int .i64 0] 23)) := (Below.refl _ w).alloc (Nat.le_refl _) _
  have o : ∀ t, t ≠ 8 → PB.slot (A.put (some 8) (ptr w.heap.size)) t = PB.slot A t := fun t ht => PB.slot_put_other _ _ _ _ ht
  have s : PB.slot (A.put (some 8) (ptr w.heap.size)) 8 = ptr w.heap.size := PB.slot_put_same _ _ _ (by rw [h.size]; omega)
  have hx : ∀ g x, Box w g x → Box (w.alloc (.cells #[.int .i64 0, .int .i64 0] 23)) g x := fun g x hg => hg.keep hb
  have n8 : L 8 = false := by
    rcases Bool.eq_false_or_eq_true (L 8) with h' | h'
    · have := (h.c8 h').2; rw [hl] at this; cases this
    · exact h'
  have n9 : L 9 = false := by
    rcases Bool.eq_false_or_eq_true (L 9) with h' | h'
    · have := (h.c9 h').2; rw [hl] at this; cases this
    · exact h'
  refine ⟨h.defers, by simp [Act.put, h.size], (o 3 (by omega)).trans h.s3, (o 4 (by omega)).trans h.s4, (o 5 (by omega)).trans h.s5, (o 6 (by omega)).trans h.s6, h.below.alloc h.below.size _, fun k u hu hk => ?_, fun h6 => ?_, fun _ => ⟨w.heap.size, (0, 0), s, h.below.size, World.alloc_heap_new _ _⟩, fun h6 _ => ?_, fun h8 => ?_, fun h9 => ?_, fun h8 => ?_, fun h9 => ?_⟩
  · have hk6 : k ≠ 7 := by rintro rfl; simp [valOf] at hu
    rw [o _ (by omega)]
    exact h.vals k u hu (by simpa [hk6] using hk)
  · simp at h6
    obtain ⟨g, x, h1, h2, h3⟩ := h.p7 h6
    exact ⟨g, x, (o 7 (by omega)).trans h1, h2, hx g x h3⟩
  · simp at h6
    obtain ⟨g, x, h1, h2, h3⟩ := h.p7 h6
    rw [s, o 7 (by omega), h1]
    intro e
    have := ptr_inj e
    have := h3.lt
    omega
  · simp [n8] at h8
  · simp [n9] at h9
  · simp [n8] at h8
  · simp [n9] at h9

/-- A time is stored in a block. -/
def stored (w : World) (g : Nat) (x : T) : World := (w.setCell ⟨g, 0, none⟩ (.int .i64 x.1)).setCell ⟨g, 1, none⟩ (.int .i64 x.2)

theorem stored_same {g : Nat} {x y : T} (h : Box w g y) : Box (stored w g x) g x := box_set h
theorem stored_other {g g' : Nat} {x y : T} (h : Box w g' y) (hne : g' ≠ g) : Box (stored w g x) g' y := by
  unfold Box stored
  rw [Below.heap_setCell _ _ _ _ hne, Below.heap_setCell _ _ _ _ hne]
  exact h
theorem stored_some {g g' : Nat} {x y : T} (h : Box w g' y) (hg : ∃ z, Box w g z) : ∃ z, Box (stored w g x) g' z := by
  by_cases e : g' = g
  · subst e; exact ⟨x, stored_same h⟩
  · exact ⟨y, stored_other h e⟩

theorem R3.store8 (h : R3 p a b j m wc L A w) {g : Nat} {x : T} (h6 : L 6 = true) (h7 : L 7 = true) (hs : PB.slot A 7 = ptr g) (hg : wc.heap.size ≤ g) (hb : Box w g x) : R3 p a b j m wc (fun k => k == 8 || L k) A (stored w g j) := by
  refine ⟨h.defers, h.size, h.s3, h.s4, h.s5, h.s6, (h.below.setCell (p := ⟨g, 0, none⟩) hg _).setCell (p := ⟨g, 1, none⟩) hg _, fun k u hu hk => ?_, fun _ => ⟨g, j, hs, hg, stored_same hb⟩, fun _ => ?_, fun _ _ => h.apart h6 h7, fun _ => ⟨by simp [h6], by simp [h7]⟩, fun _ => ⟨by simp [h6], by simp [h7]⟩, fun _ => ⟨g, hs, stored_same hb⟩, fun h9 => ?_⟩
  · have hk6 : k ≠ 8 := by rintro rfl; simp [valOf] at hu
    exact h.vals k u hu (by simpa [hk6] using hk)
  · obtain ⟨g', y, h1, h2, h3⟩ := h.p8 h7
    refine ⟨g', y, h1, h2, stored_other h3 (fun e => ?_)⟩
    subst e
    exact h.apart h6 h7 (by rw [hs, h1])
  · simp at h9
    obtain ⟨g', h1, h3⟩ := h.b9 h9
    refine ⟨g', h1, stored_other h3 (fun e => ?_)⟩
    subst e
    exact h.apart h6 h7 (by rw [hs, h1])

theorem R3.store9 (h : R3 p a b j m wc L A w) {g : Nat} {x : T} (h6 : L 6 = true) (h7 : L 7 = true) (hs : PB.slot A 8 = ptr g) (hg : wc.heap.size ≤ g) (hb : Box w g x) : R3 p a b j m wc (fun k => k == 9 || L k) A (stored w g m) := by
  refine ⟨h.defers, h.size, h.s3, h.s4, h.s5, h.s6, (h.below.setCell (p := ⟨g, 0, none⟩) hg _).setCell (p := ⟨g, 1, none⟩) hg _, fun k u hu hk => ?_, fun _ => ?_, fun _ => ⟨g, m, hs, hg, stored_same hb⟩, fun _ _ => h.apart h6 h7, fun _ => ⟨by simp [h6], by simp [h7]⟩, fun _ => ⟨by simp [h6], by simp [h7]⟩, fun h8 => ?_, fun _ => ⟨g, hs, stored_same hb⟩⟩
  · have hk6 : k ≠ 9 := by rintro rfl; simp [valOf] at hu
    exact h.vals k u hu (by simpa [hk6] using hk)
  · obtain ⟨g', y, h1, h2, h3⟩ := h.p7 h6
    refine ⟨g', y, h1, h2, stored_other h3 (fun e => ?_)⟩
    subst e
    exact h.apart h6 h7 (by rw [hs, h1])
  · simp at h8
    obtain ⟨g', h1, h3⟩ := h.b8 h8
    refine ⟨g', h1, stored_other h3 (fun e => ?_)⟩
    subst e
    exact h.apart h6 h7 (by rw [hs, h1])
end

end Go.Proofs.Ytpgiekjkmfbmaaa
