/-
  What is proved here: what holds while the statement x, y := a.Nodes[i], b.Nodes[i] goes on, in whatever order.
-/
import Derived.Test.YtjpjeledbjpaeaaSameQ
import Derived.Test.YtjpjeledbjpaeaaPuts
import Derived.Test.YtjpjeledbjpaeaaPlanI
import Derived.Test.YtjpjeledbjpaeaaTail
namespace Go.Proofs.Ytjpjeledbjpaeaa
open Go.RowKit Go.Proofs
set_option maxRecDepth 20000
set_option linter.unusedVariables false
set_option linter.unusedSimpArgs false

def ptr (g : Nat) : Value := .pointer (some ⟨g, 0, none⟩)

theorem ptr_inj {g g' : Nat} (h : ptr g = ptr g') : g = g' := by simpa [ptr] using h

theorem Bx.keep {w w' : World} {g : Nat} {c : Array Value} {t : TypeId} (h : Bx w g c t) (hb : Below w.heap.size w w') : Bx w' g c t := (hb.block g h.lt).trans h

theorem Bx.set {w : World} {g : Nat} {c c' : Array Value} {t : TypeId} (h : Bx w g c t) : Bx (w.setRow g c') g c' t := by
  unfold Bx at *
  unfold World.setRow
  simp [Array.getElem?_modify, h]

theorem Bx.other {w : World} {g g' : Nat} {c c' : Array Value} {t : TypeId} (h : Bx w g c t) (hne : g ≠ g') : Bx (w.setRow g' c') g c t := by
  unfold Bx at *
  rw [setRow_other _ _ _ _ hne]
  exact h

structure R6 (vals : Nat → Option Value) (xs ys : Array Value) (A0 : Act) (wc : World) (L : Nat → Bool) (A : Act) (w : World) : Prop where
  defers : A.defers = A0.defers
  size : A.tmps.size = A0.tmps.size
  oth : ∀ t, t ≠ 6 → t ≠ 7 → (t < 39 ∨ 49 ≤ t) → PB.slot A t = PB.slot A0 t
  below : Below wc.heap.size wc w
  vals : ∀ k v, vals k = some v → L k = true → PB.slot A (39 + k) = v
  p6 : L 10 = true → ∃ g c, PB.slot A 6 = ptr g ∧ wc.heap.size ≤ g ∧ Bx w g c 44 ∧ c.size = 9
  p7 : L 11 = true → ∃ g c, PB.slot A 7 = ptr g ∧ wc.heap.size ≤ g ∧ Bx w g c 44 ∧ c.size = 9
  apart : L 10 = true → L 11 = true → PB.slot A 6 ≠ PB.slot A 7
  c12 : L 12 = true → L 10 = true ∧ L 11 = true
  c13 : L 13 = true → L 10 = true ∧ L 11 = true
  b12 : L 12 = true → ∃ g, PB.slot A 6 = ptr g ∧ Bx w g xs 44
  b13 : L 13 = true → ∃ g, PB.slot A 7 = ptr g ∧ Bx w g ys 44

section
variable {vals : Nat → Option Value} {xs ys : Array Value} {A0 : Act} {wc : World} {L : Nat → Bool} {A : Act} {w w' : World}

theorem on_other {i k : Nat} (h : k ≠ i) : ((k == i) || L k) = L k := by simp [h]

theorem R6.pure (h : R6 vals xs ys A0 wc L A w) (h49 : 49 ≤ A0.tmps.size) {i : Nat} {v : Value} (hi : i < 10) (hv : vals i = some v) (hb : Below w.heap.size w w') : R6 vals xs ys A0 wc (fun k => k == i || L k) (A.put (some (39 + i)) v) w' := by
  have o : ∀ t, (t < 39 ∨ 49 ≤ t) → PB.slot (A.put (some (39 + i)) v) t = PB.slot A t := fun t ht => PB.slot_put_other _ _ _ _ (by omega)
  have hx : ∀ g c t, Bx w g c t → Bx w' g c t := fun g c t hg => hg.keep hb
  refine ⟨h.defers, by simp [Act.put, h.size], fun t h6 h7 ht => (o t ht).trans (h.oth t h6 h7 ht), h.below.trans (hb.mono h.below.size), fun k u hu hk => ?_, ?_, ?_, ?_, ?_, ?_, ?_, ?_⟩
  · by_cases e : k = i
    · subst e
      rw [hv] at hu; cases hu
      exact PB.slot_put_same _ _ _ (by rw [h.size]; omega)
    · rw [PB.slot_put_other _ _ _ _ (by omega)]
      exact h.vals k u hu (by simpa [e] using hk)
  all_goals simp only [on_other (show (10 : Nat) ≠ i by omega), on_other (show (11 : Nat) ≠ i by omega), on_other (show (12 : Nat) ≠ i by omega), on_other (show (13 : Nat) ≠ i by omega), o 6 (by omega), o 7 (by omega)]
  · intro hl; obtain ⟨g, c, h1, h2, h3, h4⟩ := h.p6 hl; exact ⟨g, c, h1, h2, hx g c _ h3, h4⟩
  · intro hl; obtain ⟨g, c, h1, h2, h3, h4⟩ := h.p7 hl; exact ⟨g, c, h1, h2, hx g c _ h3, h4⟩
  · exact h.apart
  · exact h.c12
  · exact h.c13
  · intro hl; obtain ⟨g, h1, h3⟩ := h.b12 hl; exact ⟨g, h1, hx g _ _ h3⟩
  · intro hl; obtain ⟨g, h1, h3⟩ := h.b13 hl; exact ⟨g, h1, hx g _ _ h3⟩

/-- A node's zero. -/
def z9 : Array Value := #[.int .i64 0, .slice none 0 0, .slice none 0 0, .slice none 0 0, .slice none 0 0, .int .i64 0, .int .i64 0, .int .i64 0, .int .i64 0]

theorem R6.new6 (h : R6 vals xs ys A0 wc L A w) (h49 : 49 ≤ A0.tmps.size) (hv : ∀ k v, vals k = some v → k < 10) (hl : L 10 = false) : R6 vals xs ys A0 wc (fun k => k == 10 || L k) (A.put (some 6) (ptr w.heap.size)) (w.alloc (.cells z9 44)) := by
  have hb : Below w.heap.size w (w.alloc (.cells z9 44)) := (Below.refl _ w).alloc (Nat.le_refl _) _
  have o : ∀ t, t ≠ 6 → PB.slot (A.put (some 6) (ptr w.heap.size)) t = PB.slot A t := fun t ht => PB.slot_put_other _ _ _ _ ht
  have s : PB.slot (A.put (some 6) (ptr w.heap.size)) 6 = ptr w.heap.size := PB.slot_put_same _ _ _ (by rw [h.size]; omega)
  have n12 : L 12 = false := by
    rcases Bool.eq_false_or_eq_true (L 12) with h' | h'
    · have := (h.c12 h').1; rw [hl] at this; cases this
    · exact h'
  have n13 : L 13 = false := by
    rcases Bool.eq_false_or_eq_true (L 13) with h' | h'
    · have := (h.c13 h').1; rw [hl] at this; cases this
    · exact h'
  refine ⟨h.defers, by simp [Act.put, h.size], fun t h6 h7 ht => (o t h6).trans (h.oth t h6 h7 ht), h.below.alloc h.below.size _, fun k u hu hk => ?_, fun _ => ⟨w.heap.size, z9, s, h.below.size, Bx.new _ _ _, rfl⟩, fun h7 => ?_, fun _ h7 => ?_, fun h8 => ?_, fun h9 => ?_, fun h8 => ?_, fun h9 => ?_⟩
  · have hk10 := hv k u hu
    have hk6 : k ≠ 10 := by omega
    rw [o _ (by omega)]
    exact h.vals k u hu (by simpa [hk6] using hk)
  · simp at h7
    obtain ⟨g, c, h1, h2, h3, h4⟩ := h.p7 h7
    exact ⟨g, c, (o 7 (by omega)).trans h1, h2, h3.keep hb, h4⟩
  · simp at h7
    obtain ⟨g, c, h1, h2, h3, h4⟩ := h.p7 h7
    rw [s, o 7 (by omega), h1]
    intro e
    have := ptr_inj e
    have := h3.lt
    omega
  · simp [n12] at h8
  · simp [n13] at h9
  · simp [n12] at h8
  · simp [n13] at h9

theorem R6.new7 (h : R6 vals xs ys A0 wc L A w) (h49 : 49 ≤ A0.tmps.size) (hv : ∀ k v, vals k = some v → k < 10) (hl : L 11 = false) : R6 vals xs ys A0 wc (fun k => k == 11 || L k) (A.put (some 7) (ptr w.heap.size)) (w.alloc (.cells z9 44)) := by
  have hb : Below w.heap.size w (w.alloc (.cells z9 44)) := (Below.refl _ w).alloc (Nat.le_refl _) _
  have o : ∀ t, t ≠ 7 → PB.slot (A.put (some 7) (ptr w.heap.size)) t = PB.slot A t := fun t ht => PB.slot_put_other _ _ _ _ ht
  have s : PB.slot (A.put (some 7) (ptr w.heap.size)) 7 = ptr w.heap.size := PB.slot_put_same _ _ _ (by rw [h.size]; omega)
  have n12 : L 12 = false := by
    rcases Bool.eq_false_or_eq_true (L 12) with h' | h'
    · have := (h.c12 h').2; rw [hl] at this; cases this
    · exact h'
  have n13 : L 13 = false := by
    rcases Bool.eq_false_or_eq_true (L 13) with h' | h'
    · have := (h.c13 h').2; rw [hl] at this; cases this
    · exact h'
  refine ⟨h.defers, by simp [Act.put, h.size], fun t h6 h7 ht => (o t h7).trans (h.oth t h6 h7 ht), h.below.alloc h.below.size _, fun k u hu hk => ?_, fun h6 => ?_, fun _ => ⟨w.heap.size, z9, s, h.below.size, Bx.new _ _ _, rfl⟩, fun h6 _ => ?_, fun h8 => ?_, fun h9 => ?_, fun h8 => ?_, fun h9 => ?_⟩
  · have hk10 := hv k u hu
    have hk6 : k ≠ 11 := by omega
    rw [o _ (by omega)]
    exact h.vals k u hu (by simpa [hk6] using hk)
  · simp at h6
    obtain ⟨g, c, h1, h2, h3, h4⟩ := h.p6 h6
    exact ⟨g, c, (o 6 (by omega)).trans h1, h2, h3.keep hb, h4⟩
  · simp at h6
    obtain ⟨g, c, h1, h2, h3, h4⟩ := h.p6 h6
    rw [s, o 6 (by omega), h1]
    intro e
    have := ptr_inj e
    have := h3.lt
    omega
  · simp [n12] at h8
  · simp [n13] at h9
  · simp [n12] at h8
  · simp [n13] at h9

theorem R6.store12 (h : R6 vals xs ys A0 wc L A w) (hv : ∀ k v, vals k = some v → k < 10) (h10 : L 10 = true) (h11 : L 11 = true) {g : Nat} {c : Array Value} (hs : PB.slot A 6 = ptr g) (hg : wc.heap.size ≤ g) (hb : Bx w g c 44) (h9 : xs.size = 9) : R6 vals xs ys A0 wc (fun k => k == 12 || L k) A (w.setRow g xs) := by
  refine ⟨h.defers, h.size, h.oth, below_setRow h.below hg _, fun k u hu hk => ?_, fun _ => ⟨g, xs, hs, hg, hb.set, h9⟩, fun _ => ?_, fun _ _ => h.apart h10 h11, fun _ => ⟨by simp [h10], by simp [h11]⟩, fun _ => ⟨by simp [h10], by simp [h11]⟩, fun _ => ⟨g, hs, hb.set⟩, fun h9 => ?_⟩
  · have hk10 := hv k u hu
    have hk6 : k ≠ 12 := by omega
    exact h.vals k u hu (by simpa [hk6] using hk)
  · obtain ⟨g', c', h1, h2, h3, h4⟩ := h.p7 h11
    refine ⟨g', c', h1, h2, h3.other (fun e => ?_), h4⟩
    subst e
    exact h.apart h10 h11 (by rw [hs, h1])
  · simp at h9
    obtain ⟨g', h1, h3⟩ := h.b13 h9
    refine ⟨g', h1, h3.other (fun e => ?_)⟩
    subst e
    exact h.apart h10 h11 (by rw [hs, h1])

theorem R6.store13 (h : R6 vals xs ys A0 wc L A w) (hv : ∀ k v, vals k = some v → k < 10) (h10 : L 10 = true) (h11 : L 11 = true) {g : Nat} {c : Array Value} (hs : PB.slot A 7 = ptr g) (hg : wc.heap.size ≤ g) (hb : Bx w g c 44) (h9 : ys.size = 9) : R6 vals xs ys A0 wc (fun k => k == 13 || L k) A (w.setRow g ys) := by
  refine ⟨h.defers, h.size, h.oth, below_setRow h.below hg _, fun k u hu hk => ?_, fun _ => ?_, fun _ => ⟨g, ys, hs, hg, hb.set, h9⟩, fun _ _ => h.apart h10 h11, fun _ => ⟨by simp [h10], by simp [h11]⟩, fun _ => ⟨by simp [h10], by simp [h11]⟩, fun h8 => ?_, fun _ => ⟨g, hs, hb.set⟩⟩
  · have hk10 := hv k u hu
    have hk6 : k ≠ 13 := by omega
    exact h.vals k u hu (by simpa [hk6] using hk)
  · obtain ⟨g', c', h1, h2, h3, h4⟩ := h.p6 h10
    refine ⟨g', c', h1, h2, h3.other (fun e => ?_), h4⟩
    subst e
    exact h.apart h10 h11 (by rw [hs, h1])
  · simp at h8
    obtain ⟨g', h1, h3⟩ := h.b12 h8
    refine ⟨g', h1, h3.other (fun e => ?_)⟩
    subst e
    exact h.apart h10 h11 (by rw [hs, h1])
end

section
variable {a : Act} {t u c : Nat} {dst : Option Tmp} {ty : TypeId} {pos : String} {aft : Array Edge} {guard : Option (Nat × Bool)}

theorem run_allocNd (w : World) : (execOp a.eval { dst := dst, op := .alloc 44, type := ty, pos := pos, after := aft, guard := guard }).run Try.prog w = .ok (.value (ptr w.heap.size)) (w.alloc (.cells z9 44)) := by
  unfold ptr z9
  go_simp

theorem run_fieldNd {g : Nat} (w : World) (h : PB.slot a t = ptr g) : (execOp a.eval { dst := dst, op := .fieldAddr 25 (.tmp t) 0, type := ty, pos := pos, after := aft, guard := guard }).run Try.prog w = .ok (.value (ptr g)) w := by
  have h1 : a.tmps[t]?.getD undef = ptr g := by rw [← Array.getD_eq_getD_getElem?]; exact h
  unfold ptr at *
  go_simp

theorem run_loadNds {g : Nat} {x : Option Addr} {n m : Nat} (w : World) (h : PB.slot a t = ptr g) (hc : w.cell? ⟨g, 0, none⟩ = some (.slice x n m)) :
    (execOp a.eval { dst := dst, op := .load 22 (.tmp t), type := ty, pos := pos, after := aft, guard := guard }).run Try.prog w = .ok (.value (.slice x n m)) w := by
  have h0 : a.tmps[t]?.getD undef = ptr g := by rw [← Array.getD_eq_getD_getElem?]; exact h
  unfold ptr at *
  go_simp

theorem run_indexNd {b off n cap i : Nat} (w : World) (h : PB.slot a t = .slice (some ⟨b, off, none⟩) n cap) (h' : PB.slot a u = .int .i64 (i : Int)) (hi : i < n) (hn : n ≤ 1000000000) :
    (execOp a.eval { dst := dst, op := .indexAddr 22 (.tmp t) (.tmp u), type := ty, pos := pos, after := aft, guard := guard }).run Try.prog w = .ok (.value (.pointer (some ⟨b, off + i * 9, none⟩))) w := by
  have h1 : a.tmps[t]?.getD undef = .slice (some ⟨b, off, none⟩) n cap := by rw [← Array.getD_eq_getD_getElem?]; exact h
  have h2 : a.tmps[u]?.getD undef = .int .i64 (i : Int) := by rw [← Array.getD_eq_getD_getElem?]; exact h'
  go_simp

theorem run_loadNd {b o : Nat} {x : Nd} {s : NdS} (w : World) (h : PB.slot a t = .pointer (some ⟨b, o, none⟩)) (hc : NdC w b o x s) :
    (execOp a.eval { dst := dst, op := .load 44 (.tmp t), type := ty, pos := pos, after := aft, guard := guard }).run Try.prog w = .ok (.value (ndV x s)) w := by
  have h0 : a.tmps[t]?.getD undef = .pointer (some ⟨b, o, none⟩) := by rw [← Array.getD_eq_getD_getElem?]; exact h
  obtain ⟨p0, p1, p2, p3, p4, p5, p6, p7, p8⟩ := hc
  unfold ndV
  go_simp

theorem run_storeNd {g : Nat} {cells old : Array Value} (w : World) (h : PB.slot a t = ptr g) (h' : PB.slot a u = .agg cells) (hg : Bx w g old 44) (ho : old.size = 9) (h9 : cells.size = 9) (h1 : cells.all (·.oneCell') = true) :
    (execOp a.eval { dst := dst, op := .store 44 (.tmp t) (.tmp u), type := ty, pos := pos, after := aft, guard := guard }).run Try.prog w = .ok .skip (w.setRow g cells) := by
  have e1 : a.tmps[t]?.getD undef = ptr g := by rw [← Array.getD_eq_getD_getElem?]; exact h
  have e2 : a.tmps[u]?.getD undef = .agg cells := by rw [← Array.getD_eq_getD_getElem?]; exact h'
  have hrun := run_storeVar_row (P := Try.prog) w g 44 44 old cells hg (by rw [h9]; kernel_rfl) (by rw [ho, h9]) h1
  unfold ptr at e1
  simp [execOp, Act.eval, e1, e2, Instr.storeAt, Instr.sureAddr, hrun]
end

/-- A frame that differs from another one in some slots alone. -/
def puts (A : Act) (A0 : Act) : List Nat → Act
  | [] => A0
  | d :: ds => puts A (A0.put (some d) (PB.slot A d)) ds

theorem puts_size (A : Act) : ∀ (ds : List Nat) (A0 : Act), (puts A A0 ds).tmps.size = A0.tmps.size
  | [], _ => rfl
  | d :: ds, A0 => by rw [puts, puts_size A ds]; simp [Act.put]

theorem puts_defers (A : Act) : ∀ (ds : List Nat) (A0 : Act), (puts A A0 ds).defers = A0.defers
  | [], _ => rfl
  | d :: ds, A0 => by rw [puts, puts_defers A ds]; rfl

theorem puts_slot (A : Act) (t : Nat) : ∀ (ds : List Nat) (A0 : Act), t < A0.tmps.size → (t ∉ ds → PB.slot A0 t = PB.slot A t) → PB.slot (puts A A0 ds) t = PB.slot A t
  | [], A0, _, h => h (by simp)
  | d :: ds, A0, ht, h => by
    rw [puts]
    refine puts_slot A t ds _ (by simp [Act.put]; exact ht) fun hn => ?_
    by_cases e : t = d
    · subst e
      exact PB.slot_put_same _ _ _ ht
    · rw [PB.slot_put_other _ _ _ _ e]
      exact h (by simp [e, hn])

theorem frame_puts {A A0 : Act} (hd : A.defers = A0.defers) (hs : A.tmps.size = A0.tmps.size) (ds : List Nat) (h : ∀ t, t ∉ ds → PB.slot A t = PB.slot A0 t) : A = puts A A0 ds := by
  have h1 : (puts A A0 ds).tmps.size = A.tmps.size := by rw [puts_size, hs]
  have h2 : (puts A A0 ds).defers = A.defers := by rw [puts_defers, hd]
  have h3 : ∀ t, t < A.tmps.size → PB.slot (puts A A0 ds) t = PB.slot A t := fun t ht => puts_slot A t ds A0 (by omega) fun hn => (h t hn).symm
  generalize puts A A0 ds = B at *
  obtain ⟨ta, da⟩ := A
  obtain ⟨tb, db⟩ := B
  simp only at h1 h2
  subst h2
  congr 1
  apply Array.ext (by omega)
  intro i hi1 hi2
  have := h3 i hi1
  simpa [PB.slot, Array.getD, hi1, hi2] using this.symm

end Go.Proofs.Ytjpjeledbjpaeaa
