/-
  What is proved here: changes as data; places of a ring as cells; rows that lie in some blocks; how a queue lies in memory.
-/
import Derived.Test.YtboeodcjcbgeaaaOrderV
import Derived.Laws.CopyOwn
namespace Go.Proofs.Ytboeodcjcbgeaaa
open Go.RowKit Go.Proofs
set_option linter.unusedVariables false
set_option linter.unusedSimpArgs false

/-- A change: its row, its time, its number. -/
structure U where
  row : List V
  time : T
  diff : Int

def u0 : U := ⟨[], (0, 0), 0⟩

/-- A place: a row's slice (address, length, room), a time, a number. -/
structure Slot where
  a : Option Addr
  n : Nat
  c : Nat
  t : T
  d : Int

def s0 : Slot := ⟨none, 0, 0, (0, 0), 0⟩

def Slot.cells (s : Slot) : List Value := [.slice s.a s.n s.c, .int .i64 s.t.1, .int .i64 s.t.2, .int .i64 s.d]
def Slot.val (s : Slot) : Value := .agg #[.slice s.a s.n s.c, .int .i64 s.t.1, .int .i64 s.t.2, .int .i64 s.d]

/-- The cells of places. -/
def flatS (S : List Slot) : List Value := S.flatMap Slot.cells

theorem flatS_append (S R : List Slot) : flatS (S ++ R) = flatS S ++ flatS R := by simp [flatS]
theorem flatS_cons (s : Slot) (S : List Slot) : flatS (s :: S) = s.cells ++ flatS S := by simp [flatS]
theorem length_flatS (S : List Slot) : (flatS S).length = S.length * 4 := by
  induction S with
  | nil => rfl
  | cons s S ih => rw [flatS_cons, List.length_append, ih]; simp [Slot.cells]; omega
theorem flatS_ones (S : List Slot) : ∀ u ∈ flatS S, u.oneCell' = true := by
  intro u hu
  simp only [flatS, List.mem_flatMap] at hu
  obtain ⟨x, _, hx⟩ := hu
  simp [Slot.cells] at hx
  rcases hx with rfl | rfl | rfl | rfl <;> rfl

theorem flatS_get (S : List Slot) : ∀ i, i < S.length → (flatS S)[i * 4]? = some (.slice (S.getD i s0).a (S.getD i s0).n (S.getD i s0).c) ∧ (flatS S)[i * 4 + 1]? = some (.int .i64 (S.getD i s0).t.1) ∧ (flatS S)[i * 4 + 2]? = some (.int .i64 (S.getD i s0).t.2) ∧ (flatS S)[i * 4 + 3]? = some (.int .i64 (S.getD i s0).d) := by
  induction S with
  | nil => intro i h; simp at h
  | cons s S ih =>
    intro i hi
    rw [flatS_cons]
    cases i with
    | zero => simp [Slot.cells]
    | succ i =>
      have := ih i (by simpa using hi)
      rw [show (i + 1) * 4 = i * 4 + 1 + 1 + 1 + 1 by omega]
      simpa [Slot.cells] using this

theorem flatS_drop (S : List Slot) : ∀ k, (flatS S).drop (k * 4) = flatS (S.drop k) := by
  induction S with
  | nil => intro k; simp [flatS]
  | cons s S ih =>
    intro k
    cases k with
    | zero => simp
    | succ k =>
      rw [flatS_cons, show (k + 1) * 4 = k * 4 + 1 + 1 + 1 + 1 by omega]
      simpa [Slot.cells] using ih k

theorem flatS_take (S : List Slot) : ∀ k, (flatS S).take (k * 4) = flatS (S.take k) := by
  induction S with
  | nil => intro k; simp [flatS]
  | cons s S ih =>
    intro k
    cases k with
    | zero => simp [flatS]
    | succ k =>
      rw [flatS_cons, show (k + 1) * 4 = k * 4 + 1 + 1 + 1 + 1 by omega, List.take_succ_cons, flatS_cons]
      simp [Slot.cells, ih k]

theorem flatS_set (S : List Slot) (x : Slot) : ∀ k, k < S.length → ((((flatS S).set (k * 4) (.slice x.a x.n x.c)).set (k * 4 + 1) (.int .i64 x.t.1)).set (k * 4 + 2) (.int .i64 x.t.2)).set (k * 4 + 3) (.int .i64 x.d) = flatS (S.set k x) := by
  induction S with
  | nil => intro k h; simp at h
  | cons s S ih =>
    intro k hk
    cases k with
    | zero => simp [flatS_cons, Slot.cells]
    | succ k =>
      have := ih k (by simpa using hk)
      rw [flatS_cons, show (k + 1) * 4 = k * 4 + 1 + 1 + 1 + 1 by omega, List.set_cons_succ, flatS_cons]
      rw [← this]
      simp [Slot.cells]

/-- A row in memory whose cells lie in blocks of the kind P. -/
structure VP (P : Nat → Prop) (w : World) (a : Option Addr) (l : List V) : Prop where
  cells : l ≠ [] → ∃ b off, a = some ⟨b, off, none⟩ ∧ P b ∧ b < w.heap.size ∧ ∀ i, i < l.length → w.cell? ⟨b, off + i * 3, none⟩ = some (.int .i64 (l.getD i d0).1) ∧ w.cell? ⟨b, off + i * 3 + 1, none⟩ = some (.int .i64 (l.getD i d0).2.1) ∧ w.cell? ⟨b, off + i * 3 + 2, none⟩ = some (.string (l.getD i d0).2.2)

theorem VP.nil (P : Nat → Prop) (w : World) (a : Option Addr) : VP P w a [] := ⟨fun h => absurd rfl h⟩

theorem VP.keep {P Q : Nat → Prop} {w w' : World} {a : Option Addr} {l : List V} (h : VP P w a l) (hk : ∀ k, P k → k < w.heap.size → w'.heap[k]? = w.heap[k]? ∧ Q k) (hs : w.heap.size ≤ w'.heap.size) : VP Q w' a l := by
  refine ⟨fun hl => ?_⟩
  obtain ⟨b, off, e, hP, hlt, hc⟩ := h.cells hl
  have hb : ∀ p : Addr, p.block = b → w'.cell? p = w.cell? p := fun p hp => World.cell?_of_block (by rw [hp]; exact (hk b hP hlt).1)
  exact ⟨b, off, e, (hk b hP hlt).2, by omega, fun i hi => ⟨(hb _ rfl).trans (hc i hi).1, (hb _ rfl).trans (hc i hi).2.1, (hb _ rfl).trans (hc i hi).2.2⟩⟩

theorem VP.mono {P Q : Nat → Prop} {w : World} {a : Option Addr} {l : List V} (h : VP P w a l) (hk : ∀ k, P k → Q k) : VP Q w a l := h.keep (fun k hp _ => ⟨rfl, hk k hp⟩) (Nat.le_refl _)

theorem VP.vs {P : Nat → Prop} {w : World} {a : Option Addr} {l : List V} (h : VP P w a l) : Vs w.heap.size w a l := by
  refine ⟨fun hl => ?_⟩
  obtain ⟨b, off, e, hP, hlt, hc⟩ := h.cells hl
  exact ⟨b, off, e, hlt, hc⟩

/-- What shape a slice has. -/
def Sh (a : Option Addr) (n c : Nat) : Prop := a = none → n = 0 ∧ c = 0

theorem Sh.nil : Sh none 0 0 := fun _ => ⟨rfl, rfl⟩
theorem Sh.at (ad : Addr) (n c : Nat) : Sh (some ad) n c := fun h => (by cases h)

/-- A place reads as a change. -/
structure Rd (P : Nat → Prop) (w : World) (s : Slot) (u : U) : Prop where
  sh : Sh s.a s.n s.c
  n : s.n = u.row.length
  row : VP P w s.a u.row
  t : s.t = u.time
  d : s.d = u.diff

theorem Rd.keep {P Q : Nat → Prop} {w w' : World} {s : Slot} {u : U} (h : Rd P w s u) (hk : ∀ k, P k → k < w.heap.size → w'.heap[k]? = w.heap[k]? ∧ Q k) (hs : w.heap.size ≤ w'.heap.size) : Rd Q w' s u := ⟨h.sh, h.n, h.row.keep hk hs, h.t, h.d⟩
theorem Rd.mono {P Q : Nat → Prop} {w : World} {s : Slot} {u : U} (h : Rd P w s u) (hk : ∀ k, P k → Q k) : Rd Q w s u := ⟨h.sh, h.n, h.row.mono hk, h.t, h.d⟩
theorem Rd.zero (P : Nat → Prop) (w : World) : Rd P w s0 u0 := ⟨Sh.nil, rfl, VP.nil _ _ _, rfl, rfl⟩

/-- What may be asked of a change. -/
structure Fit (u : U) : Prop where
  row : u.row.length ≤ 1000
  time : RT u.time

theorem Fit.zero : Fit u0 := ⟨by simp [u0], by unfold RT R64 u0; simp⟩

/-- The four cells of a place. -/
structure C4 (w : World) (b o : Nat) (s : Slot) : Prop where
  k0 : w.cell? ⟨b, o, none⟩ = some (.slice s.a s.n s.c)
  k1 : w.cell? ⟨b, o + 1, none⟩ = some (.int .i64 s.t.1)
  k2 : w.cell? ⟨b, o + 2, none⟩ = some (.int .i64 s.t.2)
  k3 : w.cell? ⟨b, o + 3, none⟩ = some (.int .i64 s.d)

theorem C4.keep {w w' : World} {b o : Nat} {s : Slot} (h : C4 w b o s) (hb : w'.heap[b]? = w.heap[b]?) : C4 w' b o s := by
  have e : ∀ p : Addr, p.block = b → w'.cell? p = w.cell? p := fun p hp => World.cell?_of_block (by rw [hp]; exact hb)
  exact ⟨(e _ rfl).trans h.k0, (e _ rfl).trans h.k1, (e _ rfl).trans h.k2, (e _ rfl).trans h.k3⟩

theorem C4.of_block {w : World} {b : Nat} {S : List Slot} {t : TypeId} {fr : Nat × Nat} (h : w.heap[b]? = some (.cells (flatS S).toArray t fr)) {i : Nat} (hi : i < S.length) : C4 w b (i * 4) (S.getD i s0) := by
  have hg := flatS_get S i hi
  refine ⟨?_, ?_, ?_, ?_⟩ <;> (rw [cell_of_row _ _ _ _ _ _ h]; simp only [List.getElem?_toArray])
  · exact hg.1
  · exact hg.2.1
  · exact hg.2.2.1
  · exact hg.2.2.2

/-- A slice of changes: its cells in block b from off on, its rows in blocks of the kind P. -/
def Us (P : Nat → Prop) (w : World) (b off : Nat) (L : List U) : Prop := ∀ i, i < L.length → ∃ s, C4 w b (off + i * 4) s ∧ Rd P w s (L.getD i u0)

theorem Us.keep {P Q : Nat → Prop} {w w' : World} {b off : Nat} {L : List U} (h : Us P w b off L) (hb : w'.heap[b]? = w.heap[b]?) (hk : ∀ k, P k → k < w.heap.size → w'.heap[k]? = w.heap[k]? ∧ Q k) (hs : w.heap.size ≤ w'.heap.size) : Us Q w' b off L := by
  intro i hi
  obtain ⟨s, h1, h2⟩ := h i hi
  exact ⟨s, h1.keep hb, h2.keep hk hs⟩

/-- Nothing but two blocks has changed. -/
structure Kp (G R : Nat) (w w' : World) : Prop where
  os : w'.os = w.os
  tape : w'.tape = w.tape
  output : w'.output = w.output
  size : w.heap.size ≤ w'.heap.size
  block : ∀ k, k < w.heap.size → k ≠ G → k ≠ R → w'.heap[k]? = w.heap[k]?

theorem Kp.refl (G R : Nat) (w : World) : Kp G R w w := ⟨rfl, rfl, rfl, Nat.le_refl _, fun _ _ _ _ => rfl⟩
theorem Kp.of_below {G R : Nat} {w w' : World} (h : Below w.heap.size w w') : Kp G R w w' := ⟨h.os, h.tape, h.output, h.size, fun k hk _ _ => h.block k hk⟩
theorem Kp.trans {G R : Nat} {a b c : World} (h : Kp G R a b) (k : Kp G R b c) : Kp G R a c :=
  ⟨k.os.trans h.os, k.tape.trans h.tape, k.output.trans h.output, Nat.le_trans h.size k.size, fun i hi h1 h2 => (k.block i (Nat.lt_of_lt_of_le hi h.size) h1 h2).trans (h.block i hi h1 h2)⟩
/-- Where the second block is another one behind the first step: the same, or new. -/
theorem Kp.trans' {G R R' : Nat} {a b c : World} (h : Kp G R a b) (hR : R' = R ∨ a.heap.size ≤ R') (k : Kp G R' b c) : Kp G R a c :=
  ⟨k.os.trans h.os, k.tape.trans h.tape, k.output.trans h.output, Nat.le_trans h.size k.size, fun i hi h1 h2 => (k.block i (Nat.lt_of_lt_of_le hi h.size) h1 (by rcases hR with rfl | hR; exact h2; omega)).trans (h.block i hi h1 h2)⟩
theorem Kp.set {G R b i : Nat} {w : World} (hb : b = G ∨ b = R) (u : Value) : Kp G R w (w.setCell ⟨b, i, none⟩ u) :=
  ⟨rfl, rfl, rfl, by simp, fun k hk h1 h2 => Below.heap_setCell _ _ _ _ (by rcases hb with rfl | rfl <;> assumption)⟩
theorem Kp.below {G R B : Nat} {w0 w w' : World} (h : Kp G R w w') (h0 : Below B w0 w) (hB : B ≤ w0.heap.size) (hG : B ≤ G) (hR : B ≤ R) : Below B w0 w' :=
  ⟨h.os.trans h0.os, h.tape.trans h0.tape, h.output.trans h0.output, Nat.le_trans h0.size h.size, fun k hk => (h.block k (by have := h0.size; omega) (by omega) (by omega)).trans (h0.block k hk)⟩

/-- Blocks other than two. -/
def Out (G R : Nat) : Nat → Prop := fun k => k ≠ G ∧ k ≠ R

/-- A queue in memory: block G the queue, R its ring: the places S, of which those from f on, round the end, hold the changes L; p are popped. -/
structure Qs (w : World) (G R : Nat) (room : Int) (L : List U) (p : Nat) (S : List Slot) (f : Nat) (ra : Option Addr) : Prop where
  obj : w.heap[G]? = some (.cells #[.int .i64 room, .slice ra S.length S.length, .int .i64 (f : Int), .int .i64 (L.length : Int), .int .i64 (p : Int)] 57 (0, 0))
  ring : (S = [] ∧ ra = none ∧ f = 0) ∨ (f < S.length ∧ ra = some ⟨R, 0, none⟩ ∧ w.heap[R]? = some (.cells (flatS S).toArray 38 (0, 0)))
  fits : L.length ≤ S.length
  most : S.length ≤ 131072
  reads : ∀ i, i < L.length → Rd (Out G R) w (S.getD ((f + i) % S.length) s0) (L.getD i u0)
  good : ∀ u ∈ L, Fit u

section
variable {w : World} {G R : Nat} {room : Int} {L : List U} {p : Nat} {S : List Slot} {f : Nat} {ra : Option Addr}

theorem Qs.cells (h : Qs w G R room L p S f ra) : w.cell? ⟨G, 0, none⟩ = some (.int .i64 room) ∧ w.cell? ⟨G, 1, none⟩ = some (.slice ra S.length S.length) ∧ w.cell? ⟨G, 2, none⟩ = some (.int .i64 (f : Int)) ∧ w.cell? ⟨G, 3, none⟩ = some (.int .i64 (L.length : Int)) ∧ w.cell? ⟨G, 4, none⟩ = some (.int .i64 (p : Int)) := by
  refine ⟨?_, ?_, ?_, ?_, ?_⟩ <;> (rw [cell_of_row _ _ _ _ _ _ h.obj]; rfl)

theorem Qs.lt (h : Qs w G R room L p S f ra) : G < w.heap.size := (Array.getElem?_eq_some_iff.1 h.obj).1

theorem Qs.ne (h : Qs w G R room L p S f ra) (hS : S ≠ []) : f < S.length ∧ ra = some ⟨R, 0, none⟩ ∧ w.heap[R]? = some (.cells (flatS S).toArray 38 (0, 0)) ∧ G ≠ R ∧ R < w.heap.size := by
  rcases h.ring with ⟨h1, _⟩ | ⟨h1, h2, h3⟩
  · exact absurd h1 hS
  · refine ⟨h1, h2, h3, ?_, (Array.getElem?_eq_some_iff.1 h3).1⟩
    rintro rfl
    have := h.obj
    rw [h3] at this
    simp at this

theorem Qs.on {w' : World} (h : Qs w G R room L p S f ra) (hb : Below w.heap.size w w') : Qs w' G R room L p S f ra := by
  refine ⟨(hb.block G h.lt).trans h.obj, ?_, h.fits, h.most, fun i hi => (h.reads i hi).keep (fun k hP hk => ⟨hb.block k hk, hP⟩) hb.size, h.good⟩
  rcases h.ring with h1 | ⟨h1, h2, h3⟩
  · exact .inl h1
  · exact .inr ⟨h1, h2, (hb.block R (Array.getElem?_eq_some_iff.1 h3).1).trans h3⟩

end

/-- A queue in memory. -/
def Q (w : World) (G R : Nat) (room : Int) (L : List U) (p : Nat) : Prop := ∃ S f ra, Qs w G R room L p S f ra

theorem Q.on {w w' : World} {G R : Nat} {room : Int} {L : List U} {p : Nat} (h : Q w G R room L p) (hb : Below w.heap.size w w') : Q w' G R room L p := by
  obtain ⟨S, f, ra, h⟩ := h
  exact ⟨S, f, ra, h.on hb⟩

/-! Places round the end. -/
theorem md_eq {f i n : Nat} (hf : f < n) (hi : i < n) : (f + i) % n = if f + i < n then f + i else f + i - n := by
  split
  · exact Nat.mod_eq_of_lt (by assumption)
  · rw [Nat.mod_eq_sub_mod (by omega)]; exact Nat.mod_eq_of_lt (by omega)

theorem md_lt {f i n : Nat} (hn : 0 < n) : (f + i) % n < n := Nat.mod_lt _ hn

theorem md_inj {f i j n : Nat} (hf : f < n) (hi : i < n) (hj : j < n) (h : (f + i) % n = (f + j) % n) : i = j := by
  rw [md_eq hf hi, md_eq hf hj] at h
  split at h <;> split at h <;> omega

theorem md_next {f i n : Nat} : ((f + 1) % n + i) % n = (f + (i + 1)) % n := by
  rw [Nat.mod_add_mod]
  congr 1
  omega

theorem tmod_md {f i n : Nat} : Int.tmod ((f : Int) + (i : Int)) (n : Int) = (((f + i) % n : Nat) : Int) := by
  rw [← Int.natCast_add, ← Int.ofNat_tmod]

theorem getD_set_same {α : Type} {l : List α} {k : Nat} {x d : α} (h : k < l.length) : (l.set k x).getD k d = x := by simp [List.getD, h]
theorem getD_set_other {α : Type} {l : List α} {k j : Nat} {x d : α} (h : j ≠ k) : (l.set k x).getD j d = l.getD j d := by simp [List.getD, List.getElem?_set, Ne.symm h]

theorem getD_round {α : Type} {S : List α} {d : α} {f i : Nat} (hf : f < S.length) (hi : i < S.length) (X : List α) : ((S.drop f ++ S.take f) ++ X).getD i d = S.getD ((f + i) % S.length) d := by
  rw [md_eq hf hi]
  simp only [List.getD]
  congr 1
  rw [List.getElem?_append_left (by simp; omega)]
  split
  · rw [List.getElem?_append_left (by simp; omega), List.getElem?_drop]
  · rw [List.getElem?_append_right (by simp; omega), List.length_drop, List.getElem?_take_of_lt (by omega)]
    congr 1
    omega

end Go.Proofs.Ytboeodcjcbgeaaa
