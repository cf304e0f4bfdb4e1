/-
  What is proved here: a relation on memory (it has only grown), numbers of 64 bits, values, times and commands as data, and when a slice or a struct in memory reads as such data.
-/
import Derived.Test.YtgalmkhgbokidaaChecked
import Derived.Test.YtgalmkhgbokidaaTxt
import Derived.WalkKit
import Derived.BigQuiet
import Derived.Deep.Draws
import Derived.Deep.LoopGhost
import Derived.WalkSmall
namespace Go.Proofs.Ytgalmkhgbokidaa
open Go.RowKit
set_option maxRecDepth 20000
set_option linter.unusedVariables false
set_option linter.unusedSimpArgs false

theorem hid' {p : Prop} (h : p) : Hid p := h

/-- Memory has only grown; what was drawn stays drawn. -/
structure Gr (w w' : World) : Prop where
  below : Below w.heap.size w w'
  drawn : w.drawn ≤ w'.drawn

theorem Gr.refl (w : World) : Gr w w := ⟨Below.refl _ _, Nat.le_refl _⟩
theorem Gr.trans {a b c : World} (h : Gr a b) (k : Gr b c) : Gr a c := ⟨h.below.trans (k.below.mono h.below.size), Nat.le_trans h.drawn k.drawn⟩
theorem Gr.alloc {a w : World} (h : Gr a w) (o : Obj) : Gr a (w.alloc o) := ⟨h.below.alloc h.below.size o, h.drawn⟩

theorem bel_trans' {a b c : World} (h : Below a.heap.size a b) (k : Below b.heap.size b c) : Below a.heap.size a c := h.trans (k.mono h.size)
theorem bel_alloc {a b : World} (h : Below a.heap.size a b) (o : Obj) : Below a.heap.size a (b.alloc o) := h.alloc h.size o

/-- A number of 64 bits. -/
def R64 (z : Int) : Prop := -9223372036854775808 ≤ z ∧ z ≤ 9223372036854775807

/-- A value: its kind, its number, its text. A time: its epoch, its round. -/
abbrev V := Int × Int × ByteArray
abbrev T := Int × Int

def d0 : V := (0, 0, ⟨#[]⟩)
def t0 : T := (0, 0)

def RT (t : T) : Prop := R64 t.1 ∧ R64 t.2

def cV (x : V) : List Value := [.int .i64 x.1, .int .i64 x.2.1, .string x.2.2]
def cT (x : T) : List Value := [.int .i64 x.1, .int .i64 x.2]
def cB (z : Int) : List Value := [.int .u8 z]

/-- What shape a slice has. -/
def Sh (a : Option Addr) (n c : Nat) : Prop := (a = none → n = 0 ∧ c = 0) ∧ n ≤ c

theorem Sh.nil : Sh none 0 0 := ⟨fun _ => ⟨rfl, rfl⟩, Nat.le_refl _⟩
theorem Sh.at (ad : Addr) (n c : Nat) (h : n ≤ c) : Sh (some ad) n c := ⟨fun h => (by cases h), h⟩

/-- Blocks that were made since there were B. -/
def Since (B : Nat) : Nat → Prop := fun k => B ≤ k

/-- A slice of elements of k cells each reads as l; it lies in a block of the kind P. -/
structure SP {α : Type} (k : Nat) (cs : α → List Value) (d : α) (P : Nat → Prop) (w : World) (a : Option Addr) (l : List α) : Prop where
  cells : l ≠ [] → ∃ b off, a = some ⟨b, off, none⟩ ∧ P b ∧ b < w.heap.size ∧ ∀ i j, i < l.length → j < k → w.cell? ⟨b, off + (i * k + j), none⟩ = (cs (l.getD i d))[j]?

def VP := SP 3 cV d0
def TP := SP 2 cT t0
def BP := SP 1 cB 0

section
variable {α : Type} {k : Nat} {cs : α → List Value} {d : α} {P Q : Nat → Prop} {w w' : World} {a : Option Addr} {l : List α}

theorem SP.nil (P : Nat → Prop) (w : World) (a : Option Addr) : SP k cs d P w a [] := ⟨fun h => absurd rfl h⟩

theorem SP.keep (h : SP k cs d P w a l) (hk : ∀ k, P k → k < w.heap.size → w'.heap[k]? = w.heap[k]? ∧ Q k) (hs : w.heap.size ≤ w'.heap.size) : SP k cs d Q w' a l := by
  refine ⟨fun hl => ?_⟩
  obtain ⟨b, off, e, hP, hlt, hc⟩ := h.cells hl
  have hb : ∀ p : Addr, p.block = b → w'.cell? p = w.cell? p := fun p hp => World.cell?_of_block (by rw [hp]; exact (hk b hP hlt).1)
  exact ⟨b, off, e, (hk b hP hlt).2, by omega, fun i j hi hj => (hb _ rfl).trans (hc i j hi hj)⟩

theorem SP.mono (h : SP k cs d P w a l) (hk : ∀ k, P k → Q k) : SP k cs d Q w a l := h.keep (fun k hp _ => ⟨rfl, hk k hp⟩) (Nat.le_refl _)
theorem SP.on (h : SP k cs d P w a l) (hb : Below w.heap.size w w') : SP k cs d P w' a l := h.keep (fun k hp hk => ⟨hb.block k hk, hp⟩) hb.size

theorem flat_len (hcs : ∀ x, (cs x).length = k) (l : List α) : (l.flatMap cs).length = l.length * k := by
  induction l with
  | nil => simp
  | cons x l ih => rw [List.flatMap_cons, List.length_append, hcs, ih, List.length_cons, Nat.add_mul]; omega

theorem flat_get (hcs : ∀ x, (cs x).length = k) (l : List α) : ∀ i j, i < l.length → j < k → (l.flatMap cs)[i * k + j]? = (cs (l.getD i d))[j]? := by
  induction l with
  | nil => intro i j h; simp at h
  | cons x l ih =>
    intro i j hi hj
    rw [List.flatMap_cons]
    cases i with
    | zero => rw [Nat.zero_mul, Nat.zero_add, List.getElem?_append_left (by rw [hcs]; exact hj)]; rfl
    | succ i =>
      rw [List.getElem?_append_right (by rw [hcs, Nat.add_mul]; omega), hcs, show (i + 1) * k + j - k = i * k + j by rw [Nat.add_mul]; omega]
      exact ih i j (by simpa using hi) hj

theorem div_lt {j n k : Nat} (h : j < n * k) : j / k < n ∧ j % k < k ∧ j = j / k * k + j % k := by
  have hk : 0 < k := by rcases Nat.eq_zero_or_pos k with rfl | h'; simp at h; exact h'
  refine ⟨Nat.div_lt_of_lt_mul (by rw [Nat.mul_comm]; exact h), Nat.mod_lt _ hk, ?_⟩
  rw [Nat.mul_comm]; exact (Nat.div_add_mod j k).symm

/-- What a call owns reads so. -/
theorem SP.of_owns {base e : Nat} {v : Value} (hcs : ∀ x, (cs x).length = k) (h : w.ownsRow base e k v l.length (l.flatMap cs)) : ∃ a c, v = .slice a l.length c ∧ SP k cs d (Since base) w a l ∧ Sh a l.length c := by
  have hh := h
  obtain ⟨h1, ⟨rfl, h0⟩ | ⟨g, cap, cur, rfl, hg, hcur, hle, hm, hs, ht⟩⟩ := h
  · exact ⟨none, 0, by rw [h0], ⟨fun hl => absurd (List.length_eq_zero_iff.1 h0) hl⟩, by rw [h0]; exact Sh.nil⟩
  · refine ⟨_, _, rfl, ⟨fun hl => ⟨g, 0, rfl, hg, (hh.lt g rfl).2, fun i j hi hj => ?_⟩⟩, Sh.at _ _ _ hle⟩
    rw [Nat.zero_add, hh.cellAt (i * k + j) (by
      have : (i + 1) * k ≤ l.length * k := Nat.mul_le_mul_right _ hi
      rw [Nat.add_mul] at this
      omega)]
    exact flat_get hcs l i j hi hj

theorem SP.src {b off : Nat} (hcs : ∀ x, (cs x).length = k) (h : SP k cs d P w (some ⟨b, off, none⟩) l) : ∀ j u, (l.flatMap cs)[j]? = some u → w.cell? ((⟨b, off, none⟩ : Addr).add j) = some u := by
  intro j u hj
  have hlt : j < (l.flatMap cs).length := by
    rcases Nat.lt_or_ge j (l.flatMap cs).length with h' | h'
    · exact h'
    · rw [List.getElem?_eq_none h'] at hj; cases hj
  rw [flat_len hcs] at hlt
  obtain ⟨h1, h2, h3⟩ := div_lt hlt
  have hne : l ≠ [] := by rintro rfl; simp at h1
  obtain ⟨b', off', e, _, _, hc⟩ := h.cells hne
  cases e
  rw [addr_add, h3, hc _ _ h1 h2, ← flat_get hcs l _ _ h1 h2, ← h3]
  exact hj

theorem SP.lt (h : SP k cs d P w a l) (hl : l ≠ []) : ∃ b off, a = some ⟨b, off, none⟩ := by
  obtain ⟨b, off, e, _⟩ := h.cells hl
  exact ⟨b, off, e⟩
end

theorem cV_len (x : V) : (cV x).length = 3 := rfl
theorem cT_len (x : T) : (cT x).length = 2 := rfl
theorem cB_len (x : Int) : (cB x).length = 1 := rfl
theorem flat_B8 (l : List Int) : l.flatMap cB = B8 l := by
  induction l with
  | nil => rfl
  | cons x l ih => rw [List.flatMap_cons, ih]; rfl
theorem flat_onesV (l : List V) : ∀ u ∈ l.flatMap cV, u.oneCell' = true := by
  intro u hu
  simp only [List.mem_flatMap] at hu
  obtain ⟨x, _, hx⟩ := hu
  simp [cV] at hx
  rcases hx with rfl | rfl | rfl <;> rfl
theorem flat_onesT (l : List T) : ∀ u ∈ l.flatMap cT, u.oneCell' = true := by
  intro u hu
  simp only [List.mem_flatMap] at hu
  obtain ⟨x, _, hx⟩ := hu
  simp [cT] at hx
  rcases hx with rfl | rfl <;> rfl

section
variable {P : Nat → Prop} {w : World} {b off : Nat} {i : Nat}
theorem VP.at {l : List V} (h : VP P w (some ⟨b, off, none⟩) l) (hi : i < l.length) : w.cell? ⟨b, off + i * 3, none⟩ = some (.int .i64 (l.getD i d0).1) ∧ w.cell? ⟨b, off + i * 3 + 1, none⟩ = some (.int .i64 (l.getD i d0).2.1) ∧ w.cell? ⟨b, off + i * 3 + 2, none⟩ = some (.string (l.getD i d0).2.2) := by
  obtain ⟨b', off', e, _, _, hc⟩ := h.cells (by rintro rfl; simp at hi)
  cases e
  exact ⟨hc i 0 hi (by omega), hc i 1 hi (by omega), hc i 2 hi (by omega)⟩
theorem TP.at {l : List T} (h : TP P w (some ⟨b, off, none⟩) l) (hi : i < l.length) : w.cell? ⟨b, off + i * 2, none⟩ = some (.int .i64 (l.getD i t0).1) ∧ w.cell? ⟨b, off + i * 2 + 1, none⟩ = some (.int .i64 (l.getD i t0).2) := by
  obtain ⟨b', off', e, _, _, hc⟩ := h.cells (by rintro rfl; simp at hi)
  cases e
  exact ⟨hc i 0 hi (by omega), hc i 1 hi (by omega)⟩
theorem BP.bts {a : Option Addr} {l : List Int} (h : BP P w a l) (hr : ∀ z ∈ l, 0 ≤ z ∧ z < 256) : Bts w.heap.size w a l := by
  refine ⟨hr, fun hl => ?_⟩
  obtain ⟨b, off, e, _, hlt, hc⟩ := h.cells hl
  exact ⟨b, off, e, hlt, fun i hi => by have := hc i 0 hi (by omega); simpa [cB] using this⟩
end

theorem BP.of_bts {w : World} {a : Option Addr} {l : List Int} (h : Bts w.heap.size w a l) : BP (fun _ => True) w a l := by
  refine ⟨fun hl => ?_⟩
  obtain ⟨b, off, e, hlt, hc⟩ := h.cells hl
  refine ⟨b, off, e, trivial, hlt, fun i j hi hj => ?_⟩
  have : j = 0 := by omega
  subst this
  have := hc i hi
  simpa [cB] using this

/-- A command. -/
structure Cm where
  op : Int
  node : Int
  row : List V
  time : T
  diff : Int
  front : List T
  fuel : Int
  sheet : List Int

def c0 : Cm := ⟨0, 0, [], (0, 0), 0, [], 0, []⟩

/-- Where its lists lie, and their room. -/
structure CmS where
  ra : Option Addr
  rc : Nat
  fa : Option Addr
  fc : Nat
  sa : Option Addr
  sc : Nat

def s0 : CmS := ⟨none, 0, none, 0, none, 0⟩

def cmA (c : Cm) (s : CmS) : Array Value := #[.int .i64 c.op, .int .i64 c.node, .slice s.ra c.row.length s.rc, .int .i64 c.time.1, .int .i64 c.time.2, .int .i64 c.diff, .slice s.fa c.front.length s.fc, .int .i64 c.fuel, .slice s.sa c.sheet.length s.sc]
def cmV (c : Cm) (s : CmS) : Value := .agg (cmA c s)

/-- They read as the command's lists. -/
structure CmR (P : Nat → Prop) (w : World) (c : Cm) (s : CmS) : Prop where
  row : VP P w s.ra c.row
  front : TP P w s.fa c.front
  sheet : BP P w s.sa c.sheet
  byt : ∀ z ∈ c.sheet, 0 ≤ z ∧ z < 256
  hr : Sh s.ra c.row.length s.rc
  hf : Sh s.fa c.front.length s.fc
  hs : Sh s.sa c.sheet.length s.sc

theorem CmR.keep {P Q : Nat → Prop} {w w' : World} {c : Cm} {s : CmS} (h : CmR P w c s) (hk : ∀ k, P k → k < w.heap.size → w'.heap[k]? = w.heap[k]? ∧ Q k) (hs : w.heap.size ≤ w'.heap.size) : CmR Q w' c s :=
  ⟨SP.keep h.row hk hs, SP.keep h.front hk hs, SP.keep h.sheet hk hs, h.byt, h.hr, h.hf, h.hs⟩
theorem CmR.on {P : Nat → Prop} {w w' : World} {c : Cm} {s : CmS} (h : CmR P w c s) (hb : Below w.heap.size w w') : CmR P w' c s := h.keep (fun k hp hk => ⟨hb.block k hk, hp⟩) hb.size
theorem CmR.mono {P Q : Nat → Prop} {w : World} {c : Cm} {s : CmS} (h : CmR P w c s) (hk : ∀ k, P k → Q k) : CmR Q w c s := h.keep (fun k hp _ => ⟨rfl, hk k hp⟩) (Nat.le_refl _)

/-- Its numbers are such. -/
structure CmN (c : Cm) : Prop where
  op : R64 c.op
  node : R64 c.node
  diff : R64 c.diff
  fuel : R64 c.fuel
  time : RT c.time
  front : ∀ t ∈ c.front, RT t
  row : ∀ v ∈ c.row, R64 v.1 ∧ R64 v.2.1

/-- Block b holds just these cells. -/
def Bx (w : World) (b : Nat) (cs : Array Value) (t : TypeId) : Prop := w.heap[b]? = some (.cells cs t (0, 0))

theorem Bx.lt {w : World} {b : Nat} {cs : Array Value} {t : TypeId} (h : Bx w b cs t) : b < w.heap.size := (Array.getElem?_eq_some_iff.1 h).1
theorem Bx.new (w : World) (cs : Array Value) (t : TypeId) : Bx (w.alloc (.cells cs t)) w.heap.size cs t := heap_alloc_new _ _
theorem Bx.cell {w : World} {b : Nat} {cs : Array Value} {t : TypeId} (h : Bx w b cs t) (i : Nat) : w.cell? ⟨b, i, none⟩ = cs[i]? := cell_of_row w b i cs t (0, 0) h
theorem Bx.keep {w w' : World} {g : Nat} {c : Array Value} {t : TypeId} (h : Bx w g c t) (hb : Below w.heap.size w w') : Bx w' g c t := (hb.block g h.lt).trans h
theorem Bx.set {w : World} {g : Nat} {c c' : Array Value} {t : TypeId} (h : Bx w g c t) : Bx (w.setRow g c') g c' t := by
  unfold Bx at *
  unfold World.setRow
  simp [Array.getElem?_modify, h]
theorem Bx.other {w : World} {g g' : Nat} {c c' : Array Value} {t : TypeId} (h : Bx w g c t) (hne : g ≠ g') : Bx (w.setRow g' c') g c t := by
  unfold Bx at *
  rw [setRow_other _ _ _ _ hne]
  exact h
theorem Bx.setCell {w : World} {g i : Nat} {cs : Array Value} {t : TypeId} {v : Value} (h : Bx w g cs t) : Bx (w.setCell ⟨g, i, none⟩ v) g (cs.setIfInBounds i v) t := by
  rw [setCell_eq_setRow w g i cs t (0, 0) v h]
  exact h.set
theorem Bx.frozen {w : World} {g : Nat} {cs : Array Value} {t : TypeId} (h : Bx w g cs t) (i : Nat) : w.frozen? ⟨g, i, none⟩ = false := by
  unfold Bx at h
  simp [World.frozen?, h]

def ptr (g : Nat) : Value := .pointer (some ⟨g, 0, none⟩)

theorem ptr_inj {g g' : Nat} (h : ptr g = ptr g') : g = g' := by simpa [ptr] using h

theorem getD_mem {α : Type} {l : List α} {i : Nat} {d : α} (h : i < l.length) : l.getD i d ∈ l := by
  have : l.getD i d = l[i] := by simp [List.getD, List.getElem?_eq_getElem h]
  rw [this]; exact List.getElem_mem h

theorem mem_getD {α : Type} {l : List α} {d x : α} (h : x ∈ l) : ∃ i, i < l.length ∧ l.getD i d = x := by
  obtain ⟨i, hi, e⟩ := List.mem_iff_getElem.1 h
  exact ⟨i, hi, by rw [List.getD, List.getElem?_eq_getElem hi]; exact e⟩

end Go.Proofs.Ytgalmkhgbokidaa
