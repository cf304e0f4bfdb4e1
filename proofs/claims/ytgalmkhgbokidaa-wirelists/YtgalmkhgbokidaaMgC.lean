/-
  What is proved here: a relation on memory (it has only grown), numbers of 64 bits, values, times and commands as data, and when a slice or a struct in memory reads as such data.
  What is proved here: plain facts (no Go text is named): the bytes of rows, frontiers and commands; which may be told; that bytes tell the thing and what comes behind.
  What is proved here: a law for a statement whose order is left open: if each operation, whatever of the others has come before, leaves a value with a property that lasts while memory only grows, then in the end all values have their properties.
  What is proved here: a law for a statement whose order is left open: the first k operations may come in any order (each leaves a value with a property that lasts while memory only grows, or is passed over), each of the others waits for all of these and for the one ahead of it, so they come in the text's order.
  What is proved here: a law for a statement whose order is left open, by one invariant over what has come up: each operation that may come next keeps it; in the end all have come.
-/
import Derived.Test.YtgalmkhgbokidaaChecked
import Derived.Test.YtgalmkhgbokidaaMgB
import Derived.WalkKit
import Derived.BigQuiet
import Derived.Deep.Draws
import Derived.Deep.LoopGhost
import Derived.WalkSmall
import Derived.Orders
import Derived.Below
import Derived.BigCall
import Derived.Tactics

namespace Go.Proofs.Ytgalmkhgbokidaa
open Go.RowKit
set_option maxRecDepth 20000
set_option linter.unusedVariables false
set_option linter.unusedSimpArgs false

theorem hid' {p : Prop} (h : p) : Hid p := h

/-- Memory has only grown; what was drawn stays drawn. -/
structure Gr (w w' : World) : Prop where
  below : Below w.heap.size w w'
  drawn : w.drawn ≤ w'.drawn

theorem Gr.refl (w : World) : Gr w w := ⟨Below.refl _ _, Nat.le_refl _⟩
theorem Gr.trans {a b c : World} (h : Gr a b) (k : Gr b c) : Gr a c := ⟨h.below.trans (k.below.mono h.below.size), Nat.le_trans h.drawn k.drawn⟩
theorem Gr.alloc {a w : World} (h : Gr a w) (o : Obj) : Gr a (w.alloc o) := ⟨h.below.alloc h.below.size o, h.drawn⟩

theorem bel_trans' {a b c : World} (h : Below a.heap.size a b) (k : Below b.heap.size b c) : Below a.heap.size a c := h.trans (k.mono h.size)
theorem bel_alloc {a b : World} (h : Below a.heap.size a b) (o : Obj) : Below a.heap.size a (b.alloc o) := h.alloc h.size o

/-- A number of 64 bits. -/
def R64 (z : Int) : Prop := -9223372036854775808 ≤ z ∧ z ≤ 9223372036854775807

/-- A value: its kind, its number, its text. A time: its epoch, its round. -/
abbrev V := Int × Int × ByteArray
abbrev T := Int × Int

def d0 : V := (0, 0, ⟨#[]⟩)
def t0 : T := (0, 0)

def RT (t : T) : Prop := R64 t.1 ∧ R64 t.2

def cV (x : V) : List Value := [.int .i64 x.1, .int .i64 x.2.1, .string x.2.2]
def cT (x : T) : List Value := [.int .i64 x.1, .int .i64 x.2]
def cB (z : Int) : List Value := [.int .u8 z]

/-- What shape a slice has. -/
def Sh (a : Option Addr) (n c : Nat) : Prop := (a = none → n = 0 ∧ c = 0) ∧ n ≤ c

theorem Sh.nil : Sh none 0 0 := ⟨fun _ => ⟨rfl, rfl⟩, Nat.le_refl _⟩
theorem Sh.at (ad : Addr) (n c : Nat) (h : n ≤ c) : Sh (some ad) n c := ⟨fun h => (by cases h), h⟩

/-- Blocks that were made since there were B. -/
def Since (B : Nat) : Nat → Prop := fun k => B ≤ k

/-- A slice of elements of k cells each reads as l; it lies in a block of the kind P. -/
structure SP {α : Type} (k : Nat) (cs : α → List Value) (d : α) (P : Nat → Prop) (w : World) (a : Option Addr) (l : List α) : Prop where
  cells : l ≠ [] → ∃ b off, a = some ⟨b, off, none⟩ ∧ P b ∧ b < w.heap.size ∧ ∀ i j, i < l.length → j < k → w.cell? ⟨b, off + (i * k + j), none⟩ = (cs (l.getD i d))[j]?

def VP := SP 3 cV d0
def TP := SP 2 cT t0
def BP := SP 1 cB 0

section
variable {α : Type} {k : Nat} {cs : α → List Value} {d : α} {P Q : Nat → Prop} {w w' : World} {a : Option Addr} {l : List α}

theorem SP.nil (P : Nat → Prop) (w : World) (a : Option Addr) : SP k cs d P w a [] := ⟨fun h => absurd rfl h⟩

theorem SP.keep (h : SP k cs d P w a l) (hk : ∀ k, P k → k < w.heap.size → w'.heap[k]? = w.heap[k]? ∧ Q k) (hs : w.heap.size ≤ w'.heap.size) : SP k cs d Q w' a l := by
  refine ⟨fun hl => ?_⟩
  obtain ⟨b, off, e, hP, hlt, hc⟩ := h.cells hl
  have hb : ∀ p : Addr, p.block = b → w'.cell? p = w.cell? p := fun p hp => World.cell?_of_block (by rw [hp]; exact (hk b hP hlt).1)
  exact ⟨b, off, e, (hk b hP hlt).2, by omega, fun i j hi hj => (hb _ rfl).trans (hc i j hi hj)⟩

theorem SP.mono (h : SP k cs d P w a l) (hk : ∀ k, P k → Q k) : SP k cs d Q w a l := h.keep (fun k hp _ => ⟨rfl, hk k hp⟩) (Nat.le_refl _)
theorem SP.on (h : SP k cs d P w a l) (hb : Below w.heap.size w w') : SP k cs d P w' a l := h.keep (fun k hp hk => ⟨hb.block k hk, hp⟩) hb.size

theorem flat_len (hcs : ∀ x, (cs x).length = k) (l : List α) : (l.flatMap cs).length = l.length * k := by
  induction l with
  | nil => simp
  | cons x l ih => rw [List.flatMap_cons, List.length_append, hcs, ih, List.length_cons, Nat.add_mul]; omega

theorem flat_get (hcs : ∀ x, (cs x).length = k) (l : List α) : ∀ i j, i < l.length → j < k → (l.flatMap cs)[i * k + j]? = (cs (l.getD i d))[j]? := by
  induction l with
  | nil => intro i j h; simp at h
  | cons x l ih =>
    intro i j hi hj
    rw [List.flatMap_cons]
    cases i with
    | zero => rw [Nat.zero_mul, Nat.zero_add, List.getElem?_append_left (by rw [hcs]; exact hj)]; rfl
    | succ i =>
      rw [List.getElem?_append_right (by rw [hcs, Nat.add_mul]; omega), hcs, show (i + 1) * k + j - k = i * k + j by rw [Nat.add_mul]; omega]
      exact ih i j (by simpa using hi) hj

theorem div_lt {j n k : Nat} (h : j < n * k) : j / k < n ∧ j % k < k ∧ j = j / k * k + j % k := by
  have hk : 0 < k := by rcases Nat.eq_zero_or_pos k with rfl | h'; simp at h; exact h'
  refine ⟨Nat.div_lt_of_lt_mul (by rw [Nat.mul_comm]; exact h), Nat.mod_lt _ hk, ?_⟩
  rw [Nat.mul_comm]; exact (Nat.div_add_mod j k).symm

/-- What a call owns reads so. -/
theorem SP.of_owns {base e : Nat} {v : Value} (hcs : ∀ x, (cs x).length = k) (h : w.ownsRow base e k v l.length (l.flatMap cs)) : ∃ a c, v = .slice a l.length c ∧ SP k cs d (Since base) w a l ∧ Sh a l.length c := by
  have hh := h
  obtain ⟨h1, ⟨rfl, h0⟩ | ⟨g, cap, cur, rfl, hg, hcur, hle, hm, hs, ht⟩⟩ := h
  · exact ⟨none, 0, by rw [h0], ⟨fun hl => absurd (List.length_eq_zero_iff.1 h0) hl⟩, by rw [h0]; exact Sh.nil⟩
  · refine ⟨_, _, rfl, ⟨fun hl => ⟨g, 0, rfl, hg, (hh.lt g rfl).2, fun i j hi hj => ?_⟩⟩, Sh.at _ _ _ hle⟩
    rw [Nat.zero_add, hh.cellAt (i * k + j) (by
      have : (i + 1) * k ≤ l.length * k := Nat.mul_le_mul_right _ hi
      rw [Nat.add_mul] at this
      omega)]
    exact flat_get hcs l i j hi hj

theorem SP.src {b off : Nat} (hcs : ∀ x, (cs x).length = k) (h : SP k cs d P w (some ⟨b, off, none⟩) l) : ∀ j u, (l.flatMap cs)[j]? = some u → w.cell? ((⟨b, off, none⟩ : Addr).add j) = some u := by
  intro j u hj
  have hlt : j < (l.flatMap cs).length := by
    rcases Nat.lt_or_ge j (l.flatMap cs).length with h' | h'
    · exact h'
    · rw [List.getElem?_eq_none h'] at hj; cases hj
  rw [flat_len hcs] at hlt
  obtain ⟨h1, h2, h3⟩ := div_lt hlt
  have hne : l ≠ [] := by rintro rfl; simp at h1
  obtain ⟨b', off', e, _, _, hc⟩ := h.cells hne
  cases e
  rw [addr_add, h3, hc _ _ h1 h2, ← flat_get hcs l _ _ h1 h2, ← h3]
  exact hj

theorem SP.lt (h : SP k cs d P w a l) (hl : l ≠ []) : ∃ b off, a = some ⟨b, off, none⟩ := by
  obtain ⟨b, off, e, _⟩ := h.cells hl
  exact ⟨b, off, e⟩
end

theorem cV_len (x : V) : (cV x).length = 3 := rfl
theorem cT_len (x : T) : (cT x).length = 2 := rfl
theorem cB_len (x : Int) : (cB x).length = 1 := rfl
theorem flat_B8 (l : List Int) : l.flatMap cB = B8 l := by
  induction l with
  | nil => rfl
  | cons x l ih => rw [List.flatMap_cons, ih]; rfl
theorem flat_onesV (l : List V) : ∀ u ∈ l.flatMap cV, u.oneCell' = true := by
  intro u hu
  simp only [List.mem_flatMap] at hu
  obtain ⟨x, _, hx⟩ := hu
  simp [cV] at hx
  rcases hx with rfl | rfl | rfl <;> rfl
theorem flat_onesT (l : List T) : ∀ u ∈ l.flatMap cT, u.oneCell' = true := by
  intro u hu
  simp only [List.mem_flatMap] at hu
  obtain ⟨x, _, hx⟩ := hu
  simp [cT] at hx
  rcases hx with rfl | rfl <;> rfl

section
variable {P : Nat → Prop} {w : World} {b off : Nat} {i : Nat}
theorem VP.at {l : List V} (h : VP P w (some ⟨b, off, none⟩) l) (hi : i < l.length) : w.cell? ⟨b, off + i * 3, none⟩ = some (.int .i64 (l.getD i d0).1) ∧ w.cell? ⟨b, off + i * 3 + 1, none⟩ = some (.int .i64 (l.getD i d0).2.1) ∧ w.cell? ⟨b, off + i * 3 + 2, none⟩ = some (.string (l.getD i d0).2.2) := by
  obtain ⟨b', off', e, _, _, hc⟩ := h.cells (by rintro rfl; simp at hi)
  cases e
  exact ⟨hc i 0 hi (by omega), hc i 1 hi (by omega), hc i 2 hi (by omega)⟩
theorem TP.at {l : List T} (h : TP P w (some ⟨b, off, none⟩) l) (hi : i < l.length) : w.cell? ⟨b, off + i * 2, none⟩ = some (.int .i64 (l.getD i t0).1) ∧ w.cell? ⟨b, off + i * 2 + 1, none⟩ = some (.int .i64 (l.getD i t0).2) := by
  obtain ⟨b', off', e, _, _, hc⟩ := h.cells (by rintro rfl; simp at hi)
  cases e
  exact ⟨hc i 0 hi (by omega), hc i 1 hi (by omega)⟩
theorem BP.bts {a : Option Addr} {l : List Int} (h : BP P w a l) (hr : ∀ z ∈ l, 0 ≤ z ∧ z < 256) : Bts w.heap.size w a l := by
  refine ⟨hr, fun hl => ?_⟩
  obtain ⟨b, off, e, _, hlt, hc⟩ := h.cells hl
  exact ⟨b, off, e, hlt, fun i hi => by have := hc i 0 hi (by omega); simpa [cB] using this⟩
end

theorem BP.of_bts {w : World} {a : Option Addr} {l : List Int} (h : Bts w.heap.size w a l) : BP (fun _ => True) w a l := by
  refine ⟨fun hl => ?_⟩
  obtain ⟨b, off, e, hlt, hc⟩ := h.cells hl
  refine ⟨b, off, e, trivial, hlt, fun i j hi hj => ?_⟩
  have : j = 0 := by omega
  subst this
  have := hc i hi
  simpa [cB] using this

/-- A command. -/
structure Cm where
  op : Int
  node : Int
  row : List V
  time : T
  diff : Int
  front : List T
  fuel : Int
  sheet : List Int

def c0 : Cm := ⟨0, 0, [], (0, 0), 0, [], 0, []⟩

/-- Where its lists lie, and their room. -/
structure CmS where
  ra : Option Addr
  rc : Nat
  fa : Option Addr
  fc : Nat
  sa : Option Addr
  sc : Nat

def s0 : CmS := ⟨none, 0, none, 0, none, 0⟩

def cmA (c : Cm) (s : CmS) : Array Value := #[.int .i64 c.op, .int .i64 c.node, .slice s.ra c.row.length s.rc, .int .i64 c.time.1, .int .i64 c.time.2, .int .i64 c.diff, .slice s.fa c.front.length s.fc, .int .i64 c.fuel, .slice s.sa c.sheet.length s.sc]
def cmV (c : Cm) (s : CmS) : Value := .agg (cmA c s)

/-- They read as the command's lists. -/
structure CmR (P : Nat → Prop) (w : World) (c : Cm) (s : CmS) : Prop where
  row : VP P w s.ra c.row
  front : TP P w s.fa c.front
  sheet : BP P w s.sa c.sheet
  byt : ∀ z ∈ c.sheet, 0 ≤ z ∧ z < 256
  hr : Sh s.ra c.row.length s.rc
  hf : Sh s.fa c.front.length s.fc
  hs : Sh s.sa c.sheet.length s.sc

theorem CmR.keep {P Q : Nat → Prop} {w w' : World} {c : Cm} {s : CmS} (h : CmR P w c s) (hk : ∀ k, P k → k < w.heap.size → w'.heap[k]? = w.heap[k]? ∧ Q k) (hs : w.heap.size ≤ w'.heap.size) : CmR Q w' c s :=
  ⟨SP.keep h.row hk hs, SP.keep h.front hk hs, SP.keep h.sheet hk hs, h.byt, h.hr, h.hf, h.hs⟩
theorem CmR.on {P : Nat → Prop} {w w' : World} {c : Cm} {s : CmS} (h : CmR P w c s) (hb : Below w.heap.size w w') : CmR P w' c s := h.keep (fun k hp hk => ⟨hb.block k hk, hp⟩) hb.size
theorem CmR.mono {P Q : Nat → Prop} {w : World} {c : Cm} {s : CmS} (h : CmR P w c s) (hk : ∀ k, P k → Q k) : CmR Q w c s := h.keep (fun k hp _ => ⟨rfl, hk k hp⟩) (Nat.le_refl _)

/-- Its numbers are such. -/
structure CmN (c : Cm) : Prop where
  op : R64 c.op
  node : R64 c.node
  diff : R64 c.diff
  fuel : R64 c.fuel
  time : RT c.time
  front : ∀ t ∈ c.front, RT t
  row : ∀ v ∈ c.row, R64 v.1 ∧ R64 v.2.1

/-- Block b holds just these cells. -/
def Bx (w : World) (b : Nat) (cs : Array Value) (t : TypeId) : Prop := w.heap[b]? = some (.cells cs t (0, 0))

theorem Bx.lt {w : World} {b : Nat} {cs : Array Value} {t : TypeId} (h : Bx w b cs t) : b < w.heap.size := (Array.getElem?_eq_some_iff.1 h).1
theorem Bx.new (w : World) (cs : Array Value) (t : TypeId) : Bx (w.alloc (.cells cs t)) w.heap.size cs t := heap_alloc_new _ _
theorem Bx.cell {w : World} {b : Nat} {cs : Array Value} {t : TypeId} (h : Bx w b cs t) (i : Nat) : w.cell? ⟨b, i, none⟩ = cs[i]? := cell_of_row w b i cs t (0, 0) h
theorem Bx.keep {w w' : World} {g : Nat} {c : Array Value} {t : TypeId} (h : Bx w g c t) (hb : Below w.heap.size w w') : Bx w' g c t := (hb.block g h.lt).trans h
theorem Bx.set {w : World} {g : Nat} {c c' : Array Value} {t : TypeId} (h : Bx w g c t) : Bx (w.setRow g c') g c' t := by
  unfold Bx at *
  unfold World.setRow
  simp [Array.getElem?_modify, h]
theorem Bx.other {w : World} {g g' : Nat} {c c' : Array Value} {t : TypeId} (h : Bx w g c t) (hne : g ≠ g') : Bx (w.setRow g' c') g c t := by
  unfold Bx at *
  rw [setRow_other _ _ _ _ hne]
  exact h
theorem Bx.setCell {w : World} {g i : Nat} {cs : Array Value} {t : TypeId} {v : Value} (h : Bx w g cs t) : Bx (w.setCell ⟨g, i, none⟩ v) g (cs.setIfInBounds i v) t := by
  rw [setCell_eq_setRow w g i cs t (0, 0) v h]
  exact h.set
theorem Bx.frozen {w : World} {g : Nat} {cs : Array Value} {t : TypeId} (h : Bx w g cs t) (i : Nat) : w.frozen? ⟨g, i, none⟩ = false := by
  unfold Bx at h
  simp [World.frozen?, h]

def ptr (g : Nat) : Value := .pointer (some ⟨g, 0, none⟩)

theorem ptr_inj {g g' : Nat} (h : ptr g = ptr g') : g = g' := by simpa [ptr] using h

theorem getD_mem {α : Type} {l : List α} {i : Nat} {d : α} (h : i < l.length) : l.getD i d ∈ l := by
  have : l.getD i d = l[i] := by simp [List.getD, List.getElem?_eq_getElem h]
  rw [this]; exact List.getElem_mem h

theorem mem_getD {α : Type} {l : List α} {d x : α} (h : x ∈ l) : ∃ i, i < l.length ∧ l.getD i d = x := by
  obtain ⟨i, hi, e⟩ := List.mem_iff_getElem.1 h
  exact ⟨i, hi, by rw [List.getD, List.getElem?_eq_getElem hi]; exact e⟩

end Go.Proofs.Ytgalmkhgbokidaa

namespace Go.Proofs.Ytgalmkhgbokidaa
set_option linter.unusedVariables false
set_option linter.unusedSimpArgs false

/-- A number's bytes. -/
def oneB (z : Int) : List Int := bytesOf (zig z).toNat

/-- How many there are, and each. -/
def listB {α : Type} (f : α → List Int) (l : List α) : List Int := bytesOf l.length ++ l.flatMap f

def strB (s : ByteArray) : List Int := bytesOf s.size ++ nums s
def shB (l : List Int) : List Int := bytesOf l.length ++ l
def valB (v : V) : List Int := v.1 :: (if v.1 = 1 then strB v.2.2 else oneB v.2.1)
def rowB (l : List V) : List Int := listB valB l
def timeB (t : T) : List Int := oneB t.1 ++ oneB t.2
def frontB (l : List T) : List Int := listB timeB l
def tailB (c : Cm) : List Int := if c.op = 1 then rowB c.row ++ (timeB c.time ++ oneB c.diff) else if c.op = 2 ∨ c.op = 4 then frontB c.front else if c.op = 3 then oneB c.fuel else if c.op = 5 then timeB c.time else []
def cmdB (c : Cm) : List Int := c.op :: (if c.op = 0 then shB c.sheet else oneB c.node ++ tailB c)

/-- Which fields a command uses. -/
def mask (d : Int) : Int := if d = 0 then 4 else if d = 1 then 57 else if d = 2 ∨ d = 4 then 65 else if d = 3 then 3 else if d = 5 then 17 else if d = 6 then 1 else 0

/-- What a command uses. -/
def plain (c : Cm) : Cm :=
  ⟨c.op, if 1 ≤ c.op ∧ c.op ≤ 6 then c.node else 0, if c.op = 1 then c.row else [], if c.op = 1 ∨ c.op = 5 then c.time else (0, 0), if c.op = 1 then c.diff else 0, if c.op = 2 ∨ c.op = 4 then c.front else [], if c.op = 3 then c.fuel else 0, if c.op = 0 then c.sheet else []⟩

/-- row.Check. -/
def chkV (v : V) : Int := if v.1 = 1 then (if 4096 < v.2.2.size then 2 else 0) else if v.1 = 0 then 0 else 8
def chkL : List V → Int
  | [] => 0
  | v :: l => if chkV v = 0 then chkL l else chkV v
def chkR (l : List V) : Int := if 16 < l.length then 3 else chkL l

/-- May it be told? -/
def chk (c : Cm) : Int :=
  if c.op < 0 ∨ 6 < c.op then 8 else if c.op = 0 then (if 65536 < c.sheet.length then 2 else 0) else if c.op = 2 ∨ c.op = 4 then (if 16 < c.front.length then 3 else 0) else if c.op = 1 then chkR c.row else 0

/-- A value as bytes tell it: the field that plays no part is nothing. -/
def norm (v : V) : V := if v.1 = 1 then (1, 0, v.2.2) else (v.1, v.2.1, ⟨#[]⟩)
def normC (c : Cm) : Cm := { plain c with row := (plain c).row.map norm }

/-- Values that bytes tell. -/
def VN (v : V) : Prop := (v.1 = 0 ∧ R64 v.2.1 ∧ v.2.2 = ⟨#[]⟩) ∨ (v.1 = 1 ∧ v.2.1 = 0 ∧ v.2.2.size ≤ 4096)

/-- All of a list are bytes. -/
def Byt (l : List Int) : Prop := ∀ z ∈ l, 0 ≤ z ∧ z < 256

/-- A list of at most k things of D. -/
def LD {α : Type} (k : Nat) (D : α → Prop) (l : List α) : Prop := l.length ≤ k ∧ ∀ x ∈ l, D x

def SN (l : List Int) : Prop := l.length ≤ 65536 ∧ Byt l

/-- Commands that bytes tell. -/
structure Nice (c : Cm) : Prop where
  lo : 0 ≤ c.op
  hi : c.op ≤ 6
  pl : plain c = c
  node : R64 c.node
  diff : R64 c.diff
  fuel : R64 c.fuel
  time : RT c.time
  front : LD 16 RT c.front
  row : LD 16 VN c.row
  sheet : SN c.sheet

theorem r64_0 : R64 0 := by unfold R64; omega

theorem Nice.num {c : Cm} (h : Nice c) : CmN c := by
  refine ⟨?_, h.node, h.diff, h.fuel, h.time, h.front.2, fun v hv => ?_⟩
  · have := h.lo; have := h.hi; unfold R64; omega
  · rcases h.row.2 v hv with ⟨h1, h2, _⟩ | ⟨h1, h2, _⟩
    · exact ⟨by rw [h1]; exact r64_0, h2⟩
    · exact ⟨by rw [h1]; unfold R64; omega, by rw [h2]; exact r64_0⟩

theorem Byt.app {l r : List Int} (h : Byt l) (k : Byt r) : Byt (l ++ r) := fun z hz => by
  rcases List.mem_append.1 hz with hz | hz
  · exact h z hz
  · exact k z hz
theorem Byt.cons {x : Int} {r : List Int} (h : 0 ≤ x ∧ x < 256) (k : Byt r) : Byt (x :: r) := fun z hz => by
  rcases List.mem_cons.1 hz with rfl | hz
  · exact h
  · exact k z hz
theorem Byt.nil : Byt [] := fun z hz => by simp at hz
theorem byt_num (n : Nat) : Byt (bytesOf n) := bytesOf_range _
theorem byt_one (z : Int) : Byt (oneB z) := bytesOf_range _
theorem byt_list {α : Type} (f : α → List Int) (l : List α) (h : ∀ x ∈ l, Byt (f x)) : Byt (listB f l) := (byt_num _).app fun z hz => by
  obtain ⟨x, h1, hx⟩ := List.mem_flatMap.1 hz
  exact h x h1 z hx
theorem byt_time (t : T) : Byt (timeB t) := (byt_one _).app (byt_one _)
theorem byt_front (l : List T) : Byt (frontB l) := byt_list _ _ fun t _ => byt_time t
theorem byt_str (s : ByteArray) : Byt (strB s) := (byt_num _).app (nums_range _)
theorem byt_val (v : V) (h : chkV v = 0) : Byt (valB v) := by
  unfold valB chkV at *
  by_cases h1 : v.1 = 1
  · rw [if_pos h1, h1]
    exact Byt.cons (by omega) (byt_str _)
  · rw [if_neg h1] at h ⊢
    by_cases h0 : v.1 = 0
    · rw [h0]; exact Byt.cons (by omega) (byt_one _)
    · rw [if_neg h0] at h; omega

theorem chkL_all {l : List V} (h : chkL l = 0) : ∀ v ∈ l, chkV v = 0 := by
  induction l with
  | nil => intro v hv; simp at hv
  | cons x l ih =>
    intro v hv
    unfold chkL at h
    by_cases hx : chkV x = 0
    · rw [if_pos hx] at h
      rcases List.mem_cons.1 hv with rfl | hv
      · exact hx
      · exact ih h v hv
    · rw [if_neg hx] at h; exact absurd h hx

theorem chkL_of {l : List V} (h : ∀ v ∈ l, chkV v = 0) : chkL l = 0 := by
  induction l with
  | nil => rfl
  | cons x l ih => unfold chkL; rw [if_pos (h x (by simp))]; exact ih fun v hv => h v (List.mem_cons_of_mem _ hv)

theorem chkR_ok {l : List V} (h : chkR l = 0) : l.length ≤ 16 ∧ ∀ v ∈ l, chkV v = 0 := by
  unfold chkR at h
  by_cases h1 : 16 < l.length
  · rw [if_pos h1] at h; omega
  · rw [if_neg h1] at h; exact ⟨by omega, chkL_all h⟩

theorem byt_row (l : List V) (h : chkR l = 0) : Byt (rowB l) := byt_list _ _ fun v hv => byt_val v ((chkR_ok h).2 v hv)

/-! What may be told is told by bytes. -/
theorem chkV_norm {v : V} (h : chkV v = 0) (hr : R64 v.2.1) : VN (norm v) := by
  unfold chkV at h
  unfold VN norm
  by_cases h1 : v.1 = 1
  · rw [if_pos h1] at h ⊢
    right
    refine ⟨rfl, rfl, ?_⟩
    show v.2.2.size ≤ 4096
    split at h <;> omega
  · rw [if_neg h1] at h ⊢
    by_cases h0 : v.1 = 0
    · exact .inl ⟨h0, hr, rfl⟩
    · rw [if_neg h0] at h; omega

theorem valB_norm (v : V) : valB (norm v) = valB v := by
  unfold valB norm
  by_cases h1 : v.1 = 1
  · simp [h1]
  · simp [h1]

theorem rowB_norm (l : List V) : rowB (l.map norm) = rowB l := by
  unfold rowB listB
  rw [List.length_map, List.flatMap_map]
  congr 1
  congr 1
  funext v
  exact valB_norm v

theorem op_cases {d : Int} (h0 : 0 ≤ d) (h1 : d ≤ 6) : d = 0 ∨ d = 1 ∨ d = 2 ∨ d = 3 ∨ d = 4 ∨ d = 5 ∨ d = 6 := by omega

theorem chk_lo {c : Cm} (h : chk c = 0) : 0 ≤ c.op ∧ c.op ≤ 6 := by
  unfold chk at h
  by_cases h1 : c.op < 0 ∨ 6 < c.op
  · rw [if_pos h1] at h; omega
  · omega

theorem plain_plain (c : Cm) : plain (plain c) = plain c := by
  unfold plain
  simp only [Cm.mk.injEq, true_and]
  refine ⟨?_, ?_, ?_, ?_, ?_, ?_, ?_⟩ <;> split <;> simp_all

theorem chk_sheet {c : Cm} (h : chk c = 0) (h0 : c.op = 0) : c.sheet.length ≤ 65536 := by
  unfold chk at h; rw [h0] at h; simp at h; omega
theorem chk_front {c : Cm} (h : chk c = 0) (h0 : c.op = 2 ∨ c.op = 4) : c.front.length ≤ 16 := by
  unfold chk at h; rcases h0 with h0 | h0 <;> rw [h0] at h <;> simp at h <;> omega
theorem chk_row {c : Cm} (h : chk c = 0) (h0 : c.op = 1) : chkR c.row = 0 := by
  unfold chk at h; rw [h0] at h; simpa using h

theorem normC_nice {c : Cm} (h : chk c = 0) (hn : CmN c) (hb : Byt c.sheet) : Nice (normC c) := by
  obtain ⟨l0, l1⟩ := chk_lo h
  refine ⟨l0, l1, ?_, ?_, ?_, ?_, ?_, ?_, ?_, ?_⟩
  · unfold normC plain
    simp only [Cm.mk.injEq, true_and]
    refine ⟨?_, ?_, ?_, ?_, ?_, ?_, ?_⟩ <;> split <;> simp_all
  · show R64 (if _ then _ else _); split; exact hn.node; exact r64_0
  · show R64 (if _ then _ else _); split; exact hn.diff; exact r64_0
  · show R64 (if _ then _ else _); split; exact hn.fuel; exact r64_0
  · show RT (if _ then _ else _); split; exact hn.time; exact ⟨r64_0, r64_0⟩
  · show LD 16 RT (if _ then _ else _)
    split
    · rename_i h0; exact ⟨chk_front h h0, hn.front⟩
    · exact ⟨by simp, by simp⟩
  · show LD 16 VN (List.map norm (if _ then _ else _))
    split
    · rename_i h0
      obtain ⟨a1, a2⟩ := chkR_ok (chk_row h h0)
      refine ⟨by rw [List.length_map]; exact a1, fun v hv => ?_⟩
      obtain ⟨u, hu, rfl⟩ := List.mem_map.1 hv
      exact chkV_norm (a2 u hu) (hn.row u hu).2
    · exact ⟨by simp, by simp⟩
  · show SN (if _ then _ else _)
    split
    · rename_i h0; exact ⟨chk_sheet h h0, hb⟩
    · exact ⟨by simp, Byt.nil⟩

theorem cmdB_norm {c : Cm} (h : chk c = 0) : cmdB (normC c) = cmdB c := by
  obtain ⟨l0, l1⟩ := chk_lo h
  obtain ⟨op, node, row, time, diff, front, fuel, sheet⟩ := c
  simp only at l0 l1
  rcases op_cases l0 l1 with rfl | rfl | rfl | rfl | rfl | rfl | rfl <;> simp [cmdB, tailB, normC, plain, rowB_norm]

theorem byt_cmd {c : Cm} (h : chk c = 0) (hb : Byt c.sheet) : Byt (cmdB c) := by
  obtain ⟨l0, l1⟩ := chk_lo h
  unfold cmdB
  refine Byt.cons (by omega) ?_
  split
  · exact (byt_num _).app hb
  · refine (byt_one _).app ?_
    unfold tailB
    split
    · rename_i h0; exact (byt_row _ (chk_row h h0)).app ((byt_time _).app (byt_one _))
    · split
      · exact byt_front _
      · split
        · exact byt_one _
        · split
          · exact byt_time _
          · exact Byt.nil

/-! Lengths. -/
theorem zig_small {z : Int} (h : R64 z) : (zig z).toNat < 18446744073709551616 := by
  have := zig_range z h.1 h.2
  omega

theorem len_one {z : Int} (h : R64 z) : (oneB z).length ≤ 10 := by
  unfold oneB
  rw [length_bytesOf]
  exact sz_le_ten _ (zig_small h)

theorem len_flat {α : Type} (f : α → List Int) (m : Nat) : ∀ l : List α, (∀ x ∈ l, (f x).length ≤ m) → (l.flatMap f).length ≤ l.length * m
  | [], _ => by simp
  | x :: l, h => by
    rw [List.flatMap_cons, List.length_append, List.length_cons, Nat.add_mul]
    have h1 := h x (by simp)
    have h2 := len_flat f m l fun y hy => h y (List.mem_cons_of_mem _ hy)
    omega

theorem len_list {α : Type} (f : α → List Int) (m k : Nat) (l : List α) (hk : l.length ≤ k) (hk1 : k ≤ 1000000000) (h : ∀ x ∈ l, (f x).length ≤ m) : (listB f l).length ≤ 10 + k * m := by
  unfold listB
  have h1 := len_flat f m l h
  have h2 := sz_le_ten l.length (by omega)
  have h3 : l.length * m ≤ k * m := Nat.mul_le_mul_right _ hk
  rw [List.length_append, length_bytesOf]
  omega

theorem len_time {t : T} (h : RT t) : (timeB t).length ≤ 20 := by
  have h1 := len_one h.1
  have h2 := len_one h.2
  unfold timeB
  rw [List.length_append]; omega

theorem len_str {s : ByteArray} (h : s.size ≤ 1000000) : (strB s).length ≤ s.size + 10 := by
  have := sz_le_ten s.size (by omega)
  unfold strB
  rw [List.length_append, length_bytesOf, nums_length]; omega

theorem len_val {v : V} (h : chkV v = 0) (hr : R64 v.2.1) : (valB v).length ≤ 4107 := by
  unfold valB chkV at *
  by_cases h1 : v.1 = 1
  · rw [if_pos h1] at h ⊢
    have h2 : v.2.2.size ≤ 4096 := by split at h <;> omega
    have := len_str (s := v.2.2) (by omega)
    rw [List.length_cons]; omega
  · rw [if_neg h1]
    have := len_one hr
    rw [List.length_cons]; omega

theorem len_row {l : List V} (h : chkR l = 0) (hr : ∀ v ∈ l, R64 v.1 ∧ R64 v.2.1) : (rowB l).length ≤ 65722 := by
  obtain ⟨h1, h2⟩ := chkR_ok h
  have := len_list valB 4107 16 l h1 (by omega) fun v hv => len_val (h2 v hv) (hr v hv).2
  unfold rowB; omega

theorem len_front {l : List T} {k : Nat} (hk : l.length ≤ k) (hk1 : k ≤ 1000000) (hr : ∀ t ∈ l, RT t) : (frontB l).length ≤ 10 + k * 20 := len_list timeB 20 k l hk (by omega) fun t ht => len_time (hr t ht)

theorem len_cmd {c : Cm} (h : chk c = 0) (hn : CmN c) : (cmdB c).length ≤ 66000 := by
  have hnode := len_one hn.node
  have hdiff := len_one hn.diff
  have hfuel := len_one hn.fuel
  have htime := len_time hn.time
  unfold cmdB
  rw [List.length_cons]
  split
  · rename_i h0
    have := chk_sheet h h0
    have := sz_le_ten c.sheet.length (by omega)
    unfold shB
    rw [List.length_append, length_bytesOf]; omega
  · unfold tailB
    rw [List.length_append]
    split
    · rename_i h0
      have := len_row (chk_row h h0) hn.row
      rw [List.length_append, List.length_append]; omega
    · split
      · rename_i h0
        have := len_front (chk_front h h0) (by omega) hn.front
        omega
      · split
        · omega
        · split
          · omega
          · simp; omega

/-! Bytes tell the thing and what comes behind. -/
def PF {α : Type} (f : α → List Int) (D : α → Prop) : Prop := ∀ x y r s, D x → D y → f x ++ r = f y ++ s → x = y ∧ r = s

theorem take_app {a r : List Int} : (a ++ r).take a.length = a := by simp

theorem bytes_pf {n m : Nat} {r s : List Int} (h : bytesOf n ++ r = bytesOf m ++ s) : n = m ∧ r = s := by
  have e := form_prefix_eq (bytesOf n) (bytesOf m) (bytesOf n ++ r) (bytesOf_form n) (bytesOf_form m) take_app (by rw [h]; exact take_app)
  have e2 := bytesOf_inj e
  subst e2
  exact ⟨rfl, List.append_cancel_left h⟩

theorem pf_cnt : PF bytesOf (fun _ => True) := fun n m r s _ _ h => bytes_pf h

theorem zig_inj {x y : Int} (h : (zig x).toNat = (zig y).toNat) : x = y := by
  have hx : 0 ≤ zig x := by unfold zig; split <;> omega
  have hy : 0 ≤ zig y := by unfold zig; split <;> omega
  have e : zig x = zig y := by omega
  have := congrArg unzig e
  rwa [unzig_zig, unzig_zig] at this

theorem pf_one : PF oneB R64 := fun x y r s _ _ h => by
  obtain ⟨h1, h2⟩ := bytes_pf h
  exact ⟨zig_inj h1, h2⟩

theorem nums_inj {s t : ByteArray} (h : nums s = nums t) : s = t := by
  rw [← str_nums s, h, str_nums]

theorem pf_str : PF strB (fun _ => True) := fun x y r s _ _ h => by
  unfold strB at h
  rw [List.append_assoc, List.append_assoc] at h
  obtain ⟨h1, h2⟩ := bytes_pf h
  have h3 : (nums x).length = (nums y).length := by rw [nums_length, nums_length, h1]
  obtain ⟨h4, h5⟩ := List.append_inj h2 h3
  exact ⟨nums_inj h4, h5⟩

theorem pf_sh : PF shB (fun _ => True) := fun x y r s _ _ h => by
  unfold shB at h
  rw [List.append_assoc, List.append_assoc] at h
  obtain ⟨h1, h2⟩ := bytes_pf h
  exact List.append_inj h2 h1

theorem flat_pf {α : Type} {f : α → List Int} {D : α → Prop} (hf : PF f D) : ∀ (l l' : List α) (r s : List Int), l.length = l'.length → (∀ x ∈ l, D x) → (∀ x ∈ l', D x) → l.flatMap f ++ r = l'.flatMap f ++ s → l = l' ∧ r = s
  | [], [], r, s, _, _, _, h => ⟨rfl, by simpa using h⟩
  | [], _ :: _, r, s, hl, _, _, _ => by simp at hl
  | _ :: _, [], r, s, hl, _, _, _ => by simp at hl
  | x :: l, y :: l', r, s, hl, h1, h2, h => by
    rw [List.flatMap_cons, List.flatMap_cons, List.append_assoc, List.append_assoc] at h
    obtain ⟨rfl, h3⟩ := hf x y _ _ (h1 x (by simp)) (h2 y (by simp)) h
    obtain ⟨rfl, h4⟩ := flat_pf hf l l' r s (by simpa using hl) (fun z hz => h1 z (List.mem_cons_of_mem _ hz)) (fun z hz => h2 z (List.mem_cons_of_mem _ hz)) h3
    exact ⟨rfl, h4⟩

theorem pf_list {α : Type} {f : α → List Int} {D : α → Prop} (hf : PF f D) (k : Nat) : PF (listB f) (LD k D) := fun l l' r s h1 h2 h => by
  unfold listB at h
  rw [List.append_assoc, List.append_assoc] at h
  obtain ⟨h3, h4⟩ := bytes_pf h
  exact flat_pf hf l l' r s h3 h1.2 h2.2 h4

theorem pf_val : PF valB VN := fun x y r s hx hy h => by
  obtain ⟨x1, x2, x3⟩ := x
  obtain ⟨y1, y2, y3⟩ := y
  unfold valB at h
  simp only [List.cons_append, List.cons.injEq] at h
  obtain ⟨e1, h⟩ := h
  subst e1
  unfold VN at hx hy
  simp only at hx hy
  by_cases h1 : x1 = 1
  · subst h1
    simp only [if_pos] at h
    obtain ⟨e3, h3⟩ := pf_str _ _ _ _ trivial trivial h
    refine ⟨?_, h3⟩
    have a : x2 = 0 := by rcases hx with ⟨a, _⟩ | ⟨_, a, _⟩; omega; exact a
    have b : y2 = 0 := by rcases hy with ⟨a, _⟩ | ⟨_, a, _⟩; omega; exact a
    rw [a, b, e3]
  · rw [if_neg h1, if_neg h1] at h
    obtain ⟨_, a1, a2⟩ : x1 = 0 ∧ R64 x2 ∧ x3 = ⟨#[]⟩ := by rcases hx with a | ⟨a, _⟩; exact a; exact absurd a h1
    obtain ⟨_, b1, b2⟩ : x1 = 0 ∧ R64 y2 ∧ y3 = ⟨#[]⟩ := by rcases hy with a | ⟨a, _⟩; exact a; exact absurd a h1
    obtain ⟨e2, h2⟩ := pf_one _ _ _ _ a1 b1 h
    exact ⟨by rw [e2, a2, b2], h2⟩

theorem pf_time : PF timeB RT := fun x y r s hx hy h => by
  obtain ⟨x1, x2⟩ := x
  obtain ⟨y1, y2⟩ := y
  unfold timeB at h
  simp only [List.append_assoc] at h
  obtain ⟨e1, h1⟩ := pf_one _ _ _ _ hx.1 hy.1 h
  obtain ⟨e2, h2⟩ := pf_one _ _ _ _ hx.2 hy.2 h1
  simp only at e1 e2
  exact ⟨by rw [e1, e2], h2⟩

theorem pf_row : PF rowB (LD 16 VN) := pf_list pf_val 16
theorem pf_front : PF frontB (LD 16 RT) := pf_list pf_time 16

theorem pf_cmd : PF cmdB Nice := fun x y r s hx hy h => by
  have px := hx.pl
  have py := hy.pl
  have l0 := hx.lo
  have l1 := hx.hi
  obtain ⟨xo, xn, xr, xt, xd, xf, xu, xs⟩ := x
  obtain ⟨yo, yn, yr, yt, yd, yf, yu, ys⟩ := y
  unfold cmdB tailB at h
  simp only [List.cons_append, List.cons.injEq] at h
  obtain ⟨e1, h⟩ := h
  simp only at e1 h l0 l1
  subst e1
  rw [← px, ← py]
  unfold plain
  simp only
  have nn := pf_one xn yn
  rcases op_cases l0 l1 with rfl | rfl | rfl | rfl | rfl | rfl | rfl
  · simp only [if_true] at h
    obtain ⟨e, h⟩ := pf_sh _ _ _ _ trivial trivial h
    exact ⟨by simp [e], h⟩
  · simp [List.append_assoc] at h
    obtain ⟨e2, h⟩ := pf_one _ _ _ _ hx.node hy.node h
    obtain ⟨e3, h⟩ := pf_row _ _ _ _ hx.row hy.row h
    obtain ⟨e4, h⟩ := pf_time _ _ _ _ hx.time hy.time h
    obtain ⟨e5, h⟩ := pf_one _ _ _ _ hx.diff hy.diff h
    simp only at e2 e3 e4 e5
    exact ⟨by simp [e2, e3, e4, e5], h⟩
  · simp [List.append_assoc] at h
    obtain ⟨e2, h⟩ := pf_one _ _ _ _ hx.node hy.node h
    obtain ⟨e3, h⟩ := pf_front _ _ _ _ hx.front hy.front h
    simp only at e2 e3
    exact ⟨by simp [e2, e3], h⟩
  · simp [List.append_assoc] at h
    obtain ⟨e2, h⟩ := pf_one _ _ _ _ hx.node hy.node h
    obtain ⟨e3, h⟩ := pf_one _ _ _ _ hx.fuel hy.fuel h
    simp only at e2 e3
    exact ⟨by simp [e2, e3], h⟩
  · simp [List.append_assoc] at h
    obtain ⟨e2, h⟩ := pf_one _ _ _ _ hx.node hy.node h
    obtain ⟨e3, h⟩ := pf_front _ _ _ _ hx.front hy.front h
    simp only at e2 e3
    exact ⟨by simp [e2, e3], h⟩
  · simp [List.append_assoc] at h
    obtain ⟨e2, h⟩ := pf_one _ _ _ _ hx.node hy.node h
    obtain ⟨e3, h⟩ := pf_time _ _ _ _ hx.time hy.time h
    simp only at e2 e3
    exact ⟨by simp [e2, e3], h⟩
  · simp [List.append_assoc] at h
    obtain ⟨e2, h⟩ := pf_one _ _ _ _ hx.node hy.node h
    simp only at e2
    exact ⟨by simp [e2], h⟩

/-! Readers. -/

/-- What a reader makes of the bytes that are left (none: something was wrong): it reads x, and leaves the rest; or nothing of D stands there. -/
def Rd {α : Type} (f : α → List Int) (D : α → Prop) (s : Option (List Int)) (x : α) (s' : Option (List Int)) : Prop :=
  match s, s' with
  | none, none => True
  | none, some _ => False
  | some r, some r' => D x ∧ r = f x ++ r'
  | some r, none => ∀ y r', D y → r ≠ f y ++ r'

theorem Rd.bad {α : Type} {f : α → List Int} {D : α → Prop} {x : α} {s' : Option (List Int)} (h : Rd f D none x s') : s' = none := by
  cases s' with
  | none => rfl
  | some _ => exact h.elim

/-- One behind the other. -/
theorem Rd.seq {α β γ : Type} {f : α → List Int} {g : β → List Int} {h : γ → List Int} {D : α → Prop} {E : β → Prop} {F : γ → Prop} (hf : PF f D) {s s1 s2 : Option (List Int)} {x : α} {y : β} {z : γ} (p1 : γ → α) (p2 : γ → β) (hD : ∀ c, F c → D (p1 c)) (hE : ∀ c, F c → E (p2 c)) (hh : ∀ c, F c → h c = f (p1 c) ++ g (p2 c))
    (hz1 : p1 z = x) (hz2 : p2 z = y) (hF : D x → E y → F z) (h1 : Rd f D s x s1) (h2 : Rd g E s1 y s2) : Rd h F s z s2 := by
  cases s with
  | none =>
    have e := h1.bad
    subst e
    have e := h2.bad
    subst e
    trivial
  | some r =>
    cases s1 with
    | none =>
      have e := h2.bad
      subst e
      intro c r' hc e
      rw [hh c hc, List.append_assoc] at e
      exact h1 (p1 c) _ (hD c hc) e
    | some r1 =>
      obtain ⟨d1, e1⟩ := h1
      cases s2 with
      | none =>
        intro c r' hc e
        rw [hh c hc, List.append_assoc, e1] at e
        obtain ⟨_, e3⟩ := hf _ _ _ _ d1 (hD c hc) e
        exact h2 (p2 c) _ (hE c hc) e3
      | some r2 =>
        obtain ⟨d2, e2⟩ := h2
        have hz := hF d1 d2
        refine ⟨hz, ?_⟩
        rw [hh z hz, hz1, hz2, List.append_assoc, e1, e2]

/-- The same thing under another name. -/
theorem Rd.as {α β : Type} {f : α → List Int} {g : β → List Int} {D : α → Prop} {E : β → Prop} {s s1 : Option (List Int)} {x : α} {y : β} (p : β → α) (hD : ∀ c, E c → D (p c) ∧ g c = f (p c)) (hz : p y = x) (hE : D x → E y) (h : Rd f D s x s1) : Rd g E s y s1 := by
  cases s with
  | none => rw [h.bad]; trivial
  | some r =>
    cases s1 with
    | none =>
      intro c r' hc e
      rw [(hD c hc).2] at e
      exact h (p c) r' (hD c hc).1 e
    | some r1 =>
      have hy := hE h.1
      refine ⟨hy, ?_⟩
      rw [(hD y hy).2, hz]
      exact h.2

/-- Some of a list of n things have been read. -/
def RdL {α : Type} (f : α → List Int) (D : α → Prop) (k n : Nat) (s : Option (List Int)) (xs : List α) (s' : Option (List Int)) : Prop :=
  match s, s' with
  | none, none => True
  | none, some _ => False
  | some r, some r' => n ≤ k ∧ (∀ x ∈ xs, D x) ∧ r = bytesOf n ++ (xs.flatMap f ++ r')
  | some r, none => ∀ l r', LD k D l → r ≠ listB f l ++ r'

theorem RdL.start {α : Type} {f : α → List Int} {D : α → Prop} {k n : Nat} {s s1 : Option (List Int)} (h : Rd bytesOf (fun m => m ≤ k) s n s1) : RdL f D k n s [] s1 := by
  cases s with
  | none => rw [h.bad]; trivial
  | some r =>
    cases s1 with
    | none =>
      intro l r' hl e
      unfold listB at e
      rw [List.append_assoc] at e
      exact h _ _ hl.1 e
    | some r1 => exact ⟨h.1, by simp, by simpa using h.2⟩

theorem RdL.push {α : Type} {f : α → List Int} {D : α → Prop} (hf : PF f D) {k n : Nat} {s s1 s2 : Option (List Int)} {xs : List α} {x : α} (hx : xs.length < n) (h : RdL f D k n s xs s1) (h2 : Rd f D s1 x s2) : RdL f D k n s (xs ++ [x]) s2 := by
  cases s with
  | none =>
    cases s1 with
    | none => rw [h2.bad]; trivial
    | some _ => exact h.elim
  | some r =>
    cases s1 with
    | none => rw [h2.bad]; exact h
    | some r1 =>
      obtain ⟨a1, a2, a3⟩ := h
      cases s2 with
      | none =>
        intro l r' hl e
        rw [a3] at e
        unfold listB at e
        rw [List.append_assoc] at e
        obtain ⟨e1, e2⟩ := bytes_pf e
        have el : l = l.take xs.length ++ l.drop xs.length := (List.take_append_drop _ _).symm
        have hlt : xs.length < l.length := by omega
        rw [List.drop_eq_getElem_cons hlt] at el
        rw [el, List.flatMap_append, List.flatMap_cons, List.append_assoc, List.append_assoc] at e2
        obtain ⟨_, e4⟩ := flat_pf hf xs (l.take xs.length) _ _ (by rw [List.length_take]; omega) a2 (fun y hy => hl.2 y (List.mem_of_mem_take hy)) e2
        exact h2 _ _ (hl.2 _ (List.getElem_mem hlt)) e4
      | some r2 =>
        obtain ⟨b1, b2⟩ := h2
        refine ⟨a1, fun y hy => ?_, ?_⟩
        · rcases List.mem_append.1 hy with hy | hy
          · exact a2 y hy
          · simp at hy; subst hy; exact b1
        · rw [a3, b2]; simp

theorem RdL.done {α : Type} {f : α → List Int} {D : α → Prop} {k n : Nat} {s s1 : Option (List Int)} {xs : List α} (h : RdL f D k n s xs s1) (hn : s1 = none ∨ xs.length = n) : Rd (listB f) (LD k D) s xs s1 := by
  cases s with
  | none =>
    cases s1 with
    | none => trivial
    | some _ => exact h.elim
  | some r =>
    cases s1 with
    | none => exact h
    | some r1 =>
      obtain ⟨a1, a2, a3⟩ := h
      rcases hn with hn | hn
      · cases hn
      · subst hn
        refine ⟨⟨a1, a2⟩, ?_⟩
        unfold listB
        rw [List.append_assoc]
        exact a3

end Go.Proofs.Ytgalmkhgbokidaa

namespace Go.Proofs.Ytgalmkhgbokidaa.PB
open Go.RowKit
set_option linter.unusedVariables false

/-- What a slot holds. -/
def slot (a : Act) (t : Nat) : Value := a.tmps.getD t undef

/-- No operation writes the slot t. -/
def outer (ops : Array Oper) (t : Nat) : Bool := ops.toList.all fun o => o.dst != some t

/-- Operation o waits for operation number j. -/
def waits (o : Oper) (j : Nat) : Bool := o.after.toList.any fun e => e.on == j && Region.binds .any e

/-- Each operation waits for earlier ones alone; each writes a slot of its own, below n. -/
def planOK (ops : Array Oper) (n : Nat) : Bool :=
  (List.range ops.size).all fun i => match ops[i]? with
    | none => false
    | some o => (o.after.all fun e => !Region.binds .any e || decide (e.on < i)) &&
      match o.dst with
      | none => false
      | some d => decide (d < n) && (List.range ops.size).all fun j => (j == i) || match ops[j]? with
        | none => false
        | some o' => o'.dst != some d

/-- The property of what operation number j has left. -/
def Left' (ops : Array Oper) (φ : Nat → Value → World → Prop) (a : Act) (w : World) (j : Nat) : Prop :=
  match ops[j]? with
  | none => False
  | some o => match o.dst with
    | none => False
    | some d => φ j (slot a d) w

/-- What is known of the frame. -/
structure Same (ops : Array Oper) (a0 a : Act) : Prop where
  defers : a.defers = a0.defers
  size : a.tmps.size = a0.tmps.size
  slots : ∀ t, outer ops t = true → slot a t = slot a0 t

/-- What is owed at each operation. -/
def Owed (P : Program) (ops : Array Oper) (Q : Exit → Act → World → Prop) (φ : Nat → Value → World → Prop) (a0 : Act) (w0 : World) (i : Nat) (o : Oper) : Prop :=
  ∀ a w, Below w0.heap.size w0 w → Same ops a0 a → (∀ j, waits o j = true → Left' ops φ a w j) →
    (∀ (j : Nat) (o' : Oper) (d : Nat), ops[j]? = some o' → waits o' i = true → o'.dst = some d → slot a d = slot a0 d) →
    Region.wanted o (yielded ops a.tmps) = true ∧ o.wp P a w (fun a' w' => ∃ v, a' = a.put o.dst v ∧ Below w.heap.size w w' ∧ φ i v w') Q

def OwedAll (P : Program) (ops : Array Oper) (Q : Exit → Act → World → Prop) (φ : Nat → Value → World → Prop) (a0 : Act) (w0 : World) : Nat → List Oper → Prop
  | _, [] => True
  | i, o :: r => Owed P ops Q φ a0 w0 i o ∧ OwedAll P ops Q φ a0 w0 (i + 1) r

theorem OwedAll.get {P : Program} {ops : Array Oper} {Q : Exit → Act → World → Prop} {φ : Nat → Value → World → Prop} {a0 : Act} {w0 : World} :
    ∀ (l : List Oper) (k : Nat), OwedAll P ops Q φ a0 w0 k l → ∀ i o, l[i]? = some o → Owed P ops Q φ a0 w0 (k + i) o
  | [], _, _, i, o, h => by simp at h
  | x :: l, k, hl, 0, o, h => by
    simp at h; subst h; exact hl.1
  | x :: l, k, hl, i + 1, o, h => by
    have := OwedAll.get l (k + 1) hl.2 i o (by simpa using h)
    rw [show k + (i + 1) = k + 1 + i by omega]
    exact this

theorem slot_put_same (a : Act) (d : Nat) (v : Value) (h : d < a.tmps.size) : slot (a.put (some d) v) d = v := by
  simp [slot, Act.put, Array.getD, h]

theorem slot_put_other (a : Act) (d t : Nat) (v : Value) (h : t ≠ d) : slot (a.put (some d) v) t = slot a t := by
  simp only [slot, Act.put, Array.getD_eq_getD_getElem?]
  rw [Array.getElem?_setIfInBounds_ne (by omega)]

/-- What holds while the operations come up. -/
structure PlanInv (ops : Array Oper) (φ : Nat → Value → World → Prop) (a0 : Act) (w0 : World) (listed : Array Bool) (a : Act) (w : World) : Prop where
  below : Below w0.heap.size w0 w
  same : Same ops a0 a
  size : listed.size = ops.size
  left : ∀ j, listed.getD j false = true → Left' ops φ a w j
  fresh : ∀ (j : Nat) (o' : Oper) (d : Nat), ops[j]? = some o' → listed.getD j false = false → o'.dst = some d → slot a d = slot a0 d
  closed : ∀ (j : Nat) (o' : Oper), ops[j]? = some o' → listed.getD j false = true → ∀ x ∈ o'.after, Region.binds .any x = true → listed.getD x.on false = true

theorem planOK_spec {ops : Array Oper} {n i : Nat} (h : planOK ops n = true) (hi : i < ops.size) :
    ∃ o d, ops[i]? = some o ∧ o.dst = some d ∧ d < n ∧ (∀ e ∈ o.after, Region.binds .any e = true → e.on < i) ∧ ∀ j o', ops[j]? = some o' → j ≠ i → o'.dst ≠ some d := by
  unfold planOK at h
  rw [List.all_eq_true] at h
  have hh := h i (List.mem_range.2 hi)
  have ho : ops[i]? = some ops[i] := Array.getElem?_eq_getElem hi
  rw [ho] at hh
  simp only [Bool.and_eq_true] at hh
  obtain ⟨h1, h2⟩ := hh
  cases hd : ops[i].dst with
  | none => rw [hd] at h2; simp at h2
  | some d =>
    rw [hd] at h2
    simp only [Bool.and_eq_true, decide_eq_true_eq, List.all_eq_true, List.mem_range, Bool.or_eq_true, beq_iff_eq] at h2
    refine ⟨_, d, ho, hd, h2.1, fun e he hb => ?_, fun j o' hj hne hd' => ?_⟩
    · rw [Array.all_eq_true_iff_forall_mem] at h1
      have := h1 e he
      simp [hb] at this
      exact this
    · have hjlt : j < ops.size := by
        rcases Nat.lt_or_ge j ops.size with hh | hh
        · exact hh
        · rw [Array.getElem?_eq_none hh] at hj; cases hj
      rcases h2.2 j hjlt with h3 | h3
      · exact hne h3
      · rw [hj] at h3
        simp only at h3
        rw [hd'] at h3
        simp at h3

theorem count_less {p q : Nat → Bool} {i : Nat} : ∀ (l : List Nat), (∀ x, q x = true → p x = true) → i ∈ l → p i = true → q i = false → l.countP q < l.countP p
  | [], _, h, _, _ => by simp at h
  | x :: l, hle, h, hp, hq => by
    have hmono : l.countP q ≤ l.countP p := List.countP_mono_left fun x _ => hle x
    rw [List.countP_cons, List.countP_cons]
    rcases List.mem_cons.1 h with rfl | h
    · simp only [hp, hq]; simp; omega
    · have ih := count_less l hle h hp hq
      have : (if q x = true then 1 else 0) ≤ (if p x = true then 1 else 0) := by
        by_cases hqx : q x = true
        · simp [hqx, hle x hqx]
        · simp [hqx]
      omega

/-- How many have not come up. -/
def openCount (ops : Array Oper) (listed : Array Bool) : Nat := (List.range ops.size).countP fun i => !listed.getD i true

theorem getD_dflt {listed : Array Bool} {i : Nat} (h : i < listed.size) : listed.getD i true = listed.getD i false := by
  simp [Array.getD, h]

theorem open_less {ops : Array Oper} {listed : Array Bool} {i : Nat} (hs : listed.size = ops.size) (hi : i < ops.size) (h : listed.getD i true = false) : openCount ops (listed.setIfInBounds i true) < openCount ops listed := by
  refine count_less (i := i) _ (fun x hx => ?_) (List.mem_range.2 hi) (by simp [h]) ?_
  · by_cases hxi : x = i
    · subst hxi; simp [h]
    · rw [getD_set_ne true (by omega)] at hx; exact hx
  · simp [Array.getD, hs, hi]

theorem all_listed {ops : Array Oper} {n : Nat} {listed : Array Bool} (hok : planOK ops n = true) (hs : listed.size = ops.size) (hr : Region.ready .any ops listed = []) :
    ∀ k, k < ops.size → listed.getD k false = true := by
  intro k
  induction k using Nat.strongRecOn with
  | ind k ih =>
    intro hk
    rcases Bool.eq_false_or_eq_true (listed.getD k false) with h | h
    · exact h
    · exfalso
      obtain ⟨o, d, ho, _, _, hbefore, _⟩ := planOK_spec hok hk
      have : k ∈ Region.ready .any ops listed := mem_ready.2 ⟨by rw [getD_dflt (by omega)]; exact h, o, ho, fun e he hb => by
        have hlt := hbefore e he hb
        exact ih e.on hlt (by omega)⟩
      rw [hr] at this
      simp at this

theorem wpAny_plan {P : Program} {ops : Array Oper} {Q : Exit → Act → World → Prop} {φ : Nat → Value → World → Prop} {a0 : Act} {w0 : World} (hok : planOK ops a0.tmps.size = true)
    (hst : ∀ i v w w', φ i v w → Below w.heap.size w w' → φ i v w') (hsteps : OwedAll P ops Q φ a0 w0 0 ops.toList)
    (hend : ∀ a w, Below w0.heap.size w0 w → Same ops a0 a → (∀ j, j < ops.size → Left' ops φ a w j) → Q .normal a w) :
    ∀ (fuel : Nat) (listed : Array Bool) (a : Act) (w : World), openCount ops listed ≤ fuel → PlanInv ops φ a0 w0 listed a w → wpAny P .any ops Q fuel listed a w := by
  intro fuel
  have fin : ∀ (listed : Array Bool) (a : Act) (w : World), PlanInv ops φ a0 w0 listed a w → Region.ready .any ops listed = [] → Q .normal a w := fun listed a w hinv hr =>
    hend a w hinv.below hinv.same fun j hj => hinv.left j (all_listed hok hinv.size hr j hj)
  induction fuel with
  | zero =>
    intro listed a w hc hinv
    have hr : Region.ready .any ops listed = [] := by
      rw [List.eq_nil_iff_forall_not_mem]
      intro i hi
      obtain ⟨h1, o, ho, _⟩ := mem_ready.1 hi
      have hlt : i < ops.size := (Array.getElem?_eq_some_iff.1 ho).1
      have := open_less hinv.size hlt h1
      omega
    exact ⟨hr, fin _ _ _ hinv hr⟩
  | succ fuel ih =>
    intro listed a w hc hinv
    refine ⟨fin _ _ _ hinv, fun i hi => ?_⟩
    obtain ⟨h1, o, ho, hdeps⟩ := mem_ready.1 hi
    have hlt : i < ops.size := (Array.getElem?_eq_some_iff.1 ho).1
    obtain ⟨o', d, ho', hd, hdn, hbefore, hapart⟩ := planOK_spec hok hlt
    rw [ho] at ho'; cases ho'
    have howed := OwedAll.get ops.toList 0 hsteps i o (by simpa using ho)
    rw [Nat.zero_add] at howed
    obtain ⟨hw, hwp⟩ := howed a w hinv.below hinv.same (fun j hj => by
      unfold waits at hj
      rw [List.any_eq_true] at hj
      obtain ⟨x, hx, hj⟩ := hj
      simp only [Bool.and_eq_true, beq_iff_eq] at hj
      obtain ⟨rfl, hb⟩ := hj
      exact hinv.left _ (hdeps _ (Array.mem_toList_iff.1 hx) hb)) (fun j o' dj hoj hwj hdj => by
      refine hinv.fresh j o' dj hoj ?_ hdj
      rcases Bool.eq_false_or_eq_true (listed.getD j false) with hlj | hlj
      · exfalso
        unfold waits at hwj
        rw [List.any_eq_true] at hwj
        obtain ⟨x, hx, hj⟩ := hwj
        simp only [Bool.and_eq_true, beq_iff_eq] at hj
        obtain ⟨hxi, hb⟩ := hj
        have := hinv.closed j o' hoj hlj x (Array.mem_toList_iff.1 hx) hb
        rw [hxi, ← getD_dflt (by rw [hinv.size]; exact hlt), h1] at this
        cases this
      · exact hlj)
    unfold wpOp
    simp only [ho, hw, if_true]
    refine Or.inl (Oper.wp_mono (fun a' w' h' => ?_) hwp)
    obtain ⟨v, rfl, hbel, hphi⟩ := h'
    have hcnt := open_less hinv.size hlt h1
    refine ih _ _ _ (by omega) ⟨hinv.below.trans (hbel.mono hinv.below.size), ?_, by simp [hinv.size], fun j hj => ?_, fun j o' dj hoj hlj hdj => ?_, fun j o' hoj hlj x hx hb => ?_⟩
    · rw [hd]
      refine ⟨hinv.same.defers, by simp [Act.put, hinv.same.size], fun t ht => ?_⟩
      have htd : t ≠ d := by
        rintro rfl
        unfold outer at ht
        rw [List.all_eq_true] at ht
        have := ht o (by rw [Array.mem_toList_iff]; exact Array.mem_of_getElem? ho)
        rw [hd] at this
        simp at this
      rw [slot_put_other _ _ _ _ htd]
      exact hinv.same.slots t ht
    · by_cases hji : j = i
      · subst hji
        unfold Left'
        rw [ho]
        simp only [hd]
        rw [slot_put_same _ _ _ (by rw [hinv.same.size]; exact hdn)]
        exact hphi
      · rw [getD_set_ne false (by omega)] at hj
        have hleft := hinv.left j hj
        unfold Left' at hleft ⊢
        cases hoj : ops[j]? with
        | none => rw [hoj] at hleft; exact hleft
        | some oj =>
          rw [hoj] at hleft
          simp only at hleft ⊢
          cases hdj : oj.dst with
          | none => rw [hdj] at hleft; exact hleft
          | some dj =>
            rw [hdj] at hleft
            simp only at hleft ⊢
            rw [hd, slot_put_other _ _ _ _ (by rintro rfl; exact hapart j oj hoj hji hdj)]
            exact hst _ _ _ _ hleft hbel
    · by_cases hji : j = i
      · subst hji
        exfalso
        simp [Array.getD, hinv.size, hlt] at hlj
      · rw [getD_set_ne false (by omega)] at hlj
        rw [hd, slot_put_other _ _ _ _ (by rintro rfl; exact hapart j o' hoj hji hdj)]
        exact hinv.fresh j o' dj hoj hlj hdj
    · have hxl : listed.getD x.on false = true := by
        by_cases hji : j = i
        · subst hji
          rw [ho] at hoj; cases hoj
          exact hdeps x hx hb
        · rw [getD_set_ne false (by omega)] at hlj
          exact hinv.closed j o' hoj hlj x hx hb
      by_cases hxi : x.on = i
      · rw [hxi]; simp [Array.getD, hinv.size, hlt]
      · rw [getD_set_ne false (by omega)]; exact hxl

theorem wp_region_plan {P : Program} {id : Nat} {ops : Array Oper} {Q : Exit → Act → World → Prop} {a0 : Act} {w0 : World} (φ : Nat → Value → World → Prop) (hm : P.follows .mixedOrders = true) (hok : planOK ops a0.tmps.size = true)
    (hst : ∀ i v w w', φ i v w → Below w.heap.size w w' → φ i v w') (hsteps : OwedAll P ops Q φ a0 w0 0 ops.toList)
    (hend : ∀ a w, Below w0.heap.size w0 w → Same ops a0 a → (∀ j, j < ops.size → Left' ops φ a w j) → Q .normal a w) : (Code.region id ops true).wp P Q a0 w0 := by
  refine wp_region_any hm (wpAny_plan hok hst hsteps hend _ _ _ _ ?_ ⟨(Below.refl _ _).drew, ⟨rfl, rfl, fun _ _ => rfl⟩, by simp, fun j hj => ?_, fun _ _ _ _ _ _ => rfl, fun j o' _ hj => ?_⟩)
  · exact Nat.le_trans (List.countP_le_length) (by simp)
  · exfalso
    simp [Array.getD] at hj
  · exfalso
    simp [Array.getD] at hj

/-! The properties as a list. -/

/-- Just this value. -/
def E (x : Value) : Value → World → Prop := fun v _ => v = x

def Lasts (p : Value → World → Prop) : Prop := ∀ v w w', p v w → Below w.heap.size w w' → p v w'

theorem E_lasts (x : Value) : Lasts (E x) := fun _ _ _ h _ => h

def LastAll : List (Value → World → Prop) → Prop
  | [] => True
  | p :: r => Lasts p ∧ LastAll r

def phi (l : List (Value → World → Prop)) (i : Nat) : Value → World → Prop := l.getD i (fun _ _ => True)

theorem phi_lasts : ∀ (l : List (Value → World → Prop)), LastAll l → ∀ i v w w', phi l i v w → Below w.heap.size w w' → phi l i v w'
  | [], _, _, _, _, _, _, _ => trivial
  | p :: r, h, 0, v, w, w', hp, hb => h.1 v w w' hp hb
  | p :: r, h, i + 1, v, w, w', hp, hb => phi_lasts r h.2 i v w w' hp hb

section
variable {P : Program} {ops : Array Oper} {Q : Exit → Act → World → Prop} {o : Oper} {a : Act} {w : World}

/-- What an operation owes, in the state a, w. -/
def Does (P : Program) (ops : Array Oper) (Q : Exit → Act → World → Prop) (p : Value → World → Prop) (o : Oper) (a : Act) (w : World) : Prop :=
  Region.wanted o (yielded ops a.tmps) = true ∧ o.wp P a w (fun a' w' => ∃ v, a' = a.put o.dst v ∧ Below w.heap.size w w' ∧ p v w') Q

theorem wanted_free (h : o.guard = none) : Region.wanted o (yielded ops a.tmps) = true := by simp [Region.wanted, h]

theorem wanted_by {j d : Nat} {b : Bool} (h : o.guard = some (j, b)) (hd : (ops[j]?).bind (·.dst) = some d) (hs : slot a d = .bool b) : Region.wanted o (yielded ops a.tmps) = true := by
  have hx : a.tmps[d]? = some (.bool b) := by
    unfold slot at hs
    rw [Array.getD_eq_getD_getElem?] at hs
    cases hh : a.tmps[d]? with
    | none => rw [hh] at hs; simp [undef] at hs
    | some x => rw [hh] at hs; simp at hs; rw [hs]
  simp [Region.wanted, h, yielded, hd, hx]

theorem does_run {p : Value → World → Prop} {v : Value} (hw : Region.wanted o (yielded ops a.tmps) = true) (hrun : (execOp a.eval o).run P w = .ok (.value v) w) (hp : p v w) : Does P ops Q p o a w := by
  refine ⟨hw, ?_⟩
  unfold Oper.wp
  rw [hrun]
  exact ⟨v, rfl, Below.refl _ _, hp⟩

theorem does_move {p : Value → World → Prop} {t : Nat} (hw : Region.wanted o (yielded ops a.tmps) = true) (ho : o.op = .move (.tmp t)) (hp : p (slot a t) w) : Does P ops Q p o a w :=
  does_run hw (by simp only [execOp, ho]; rfl) hp

theorem does_assign {p : Value → World → Prop} {t : Nat} (hw : Region.wanted o (yielded ops a.tmps) = true) (ho : o.op = .assign (.tmp t)) (hp : p (slot a t) w) : Does P ops Q p o a w :=
  does_run hw (by simp only [execOp, ho]; rfl) hp

theorem does_pick {p : Value → World → Prop} {c x : Nat} {y : Operand} (hw : Region.wanted o (yielded ops a.tmps) = true) (ho : o.op = .pick (.tmp c) (.tmp x) y) (hc : slot a c = .bool true) (hp : p (slot a x) w) : Does P ops Q p o a w := by
  refine does_run hw ?_ hp
  have hc' : a.eval (.tmp c) = .bool true := hc
  simp only [execOp, ho, hc']
  rfl

theorem does_convert {p : Value → World → Prop} {s d t : Nat} {v : Value} (hw : Region.wanted o (yielded ops a.tmps) = true) (ho : o.op = .convert s d (.tmp t)) (hrun : (convert s d (slot a t)).run P w = .ok v w) (hp : p v w) : Does P ops Q p o a w := by
  refine does_run hw ?_ hp
  have hs : a.eval (.tmp t) = slot a t := rfl
  simp only [execOp, ho, hs, Sem.run_bind, hrun, Result.andThen]
  rfl

theorem does_convertOf {p : Value → World → Prop} {s d t : Nat} {v X : Value} (hw : Region.wanted o (yielded ops a.tmps) = true) (ho : o.op = .convert s d (.tmp t)) (hx : slot a t = X) (hrun : (convert s d X).run P w = .ok v w) (hp : p v w) : Does P ops Q p o a w :=
  does_convert hw ho (by rw [hx]; exact hrun) hp

theorem does_bin {p : Value → World → Prop} {op : BinOp} {s t x y : Nat} {v X Y : Value} (hw : Region.wanted o (yielded ops a.tmps) = true) (ho : o.op = .binOp op s (.tmp x) (.tmp y) t) (hx : slot a x = X) (hy : slot a y = Y)
    (hrun : ((do eqGuard op s (.tmp x) (.tmp y) X Y; binOp op s X Y : Sem Value)).run P w = .ok v w) (hp : p v w) : Does P ops Q p o a w := by
  refine does_run hw ?_ hp
  have h1 : a.eval (.tmp x) = X := hx
  have h2 : a.eval (.tmp y) = Y := hy
  simp only [execOp, ho, h1, h2]
  rw [Sem.run_bind, hrun]
  rfl

theorem does_bin2 {p : Value → World → Prop} {op : BinOp} {s t : Nat} {x y : Operand} {v X Y : Value} (hw : Region.wanted o (yielded ops a.tmps) = true) (ho : o.op = .binOp op s x y t) (hx : a.eval x = X) (hy : a.eval y = Y)
    (hrun : ((do eqGuard op s x y X Y; binOp op s X Y : Sem Value)).run P w = .ok v w) (hp : p v w) : Does P ops Q p o a w := by
  refine does_run hw ?_ hp
  simp only [execOp, ho, hx, hy]
  rw [Sem.run_bind, hrun]
  rfl

theorem does_call {p : Value → World → Prop} {f : FuncId} {fn : Func} {args : Array Operand} {ats : Array TypeId} (vs : Array Value) (hw : Region.wanted o (yielded ops a.tmps) = true)
    (ho : o.op = .call { callee := .value (.func f), args := args, argTypes := ats }) (hf : P.funcs[f]? = some fn) (hname : (fn.name == "runtime.NumGoroutine") = false) (hbody : fn.body.isNone = false)
    (hvs : args.toList.map a.eval = vs.toList) (hc : Calls P f vs w fun e w' => ∃ v, e = .returned v ∧ Below w.heap.size w w' ∧ p v w') : Does P ops Q p o a w := by
  refine ⟨hw, ?_⟩
  have hrun : (execOp a.eval o).run P w = .ok (.enter f vs) w := by
    obtain ⟨dst, op, ty, pos, aft, guard⟩ := o
    simp only at ho
    subst ho
    have hname' : ¬ fn.name = "runtime.NumGoroutine" := by simpa using hname
    have hbody' : ¬ fn.body = none := by
      intro h; rw [h] at hbody; cases hbody
    have hvs' : args.map a.eval = vs := by apply Array.ext'; rw [Array.toList_map]; exact hvs
    rw [execOp_call_go]
    simp [callFunc, hf, hname', hbody', hvs']
  unfold Oper.wp
  rw [hrun]
  simp only [Oper.upon]
  refine hc.mono ?_
  rintro e w' ⟨v, rfl, hb, hp⟩
  exact ⟨v, rfl, hb, hp⟩
end
end Go.Proofs.Ytgalmkhgbokidaa.PB

namespace Go.Proofs.Ytgalmkhgbokidaa.PT
open Go.RowKit PB
set_option linter.unusedVariables false

/-- None of the first k operations writes the slot t. -/
def outerK (ops : Array Oper) (k t : Nat) : Bool := (ops.toList.take k).all fun o => o.dst != some t

/-- Operation i waits for j, at once or through others. -/
def needs (ops : Array Oper) : Nat → Nat → Nat → Bool
  | 0, _, _ => false
  | f + 1, i, j => match ops[i]? with
    | none => false
    | some o => o.after.toList.any fun e => Region.binds .any e && (e.on == j || needs ops f e.on j)

def planOK (ops : Array Oper) (n k : Nat) : Bool :=
  decide (k ≤ ops.size) &&
  ((List.range ops.size).all fun i => match ops[i]? with
    | none => false
    | some o => (o.after.all fun e => !Region.binds .any e || decide (e.on < i)) &&
      (if i < k then match o.dst with
        | none => false
        | some d => decide (d < n) && (List.range k).all fun j => (j == i) || match ops[j]? with
          | none => false
          | some o' => o'.dst != some d
       else ((List.range k).all fun j => needs ops ops.size i j) && (decide (i = k) || waits o (i - 1))))

theorem ok_le {ops : Array Oper} {n k : Nat} (h : planOK ops n k = true) : k ≤ ops.size := by
  unfold planOK at h
  simp only [Bool.and_eq_true, decide_eq_true_eq] at h
  exact h.1

theorem ok_at {ops : Array Oper} {n k i : Nat} {o : Oper} (h : planOK ops n k = true) (ho : ops[i]? = some o) :
    (∀ e ∈ o.after, Region.binds .any e = true → e.on < i) ∧
    (i < k → ∃ d, o.dst = some d ∧ d < n ∧ ∀ j o', ops[j]? = some o' → j < k → j ≠ i → o'.dst ≠ some d) ∧
    (¬ i < k → (∀ j, j < k → needs ops ops.size i j = true) ∧ (i = k ∨ waits o (i - 1) = true)) := by
  unfold planOK at h
  rw [Bool.and_eq_true, List.all_eq_true] at h
  have hlt : i < ops.size := (Array.getElem?_eq_some_iff.1 ho).1
  have hh := h.2 i (List.mem_range.2 hlt)
  rw [ho] at hh
  simp only [Bool.and_eq_true] at hh
  obtain ⟨h1, h2⟩ := hh
  refine ⟨fun e he hb => ?_, fun hik => ?_, fun hik => ?_⟩
  · rw [Array.all_eq_true_iff_forall_mem] at h1
    have := h1 e he
    simp [hb] at this
    exact this
  · rw [if_pos hik] at h2
    cases hd : o.dst with
    | none => rw [hd] at h2; simp at h2
    | some d =>
      rw [hd] at h2
      simp only [Bool.and_eq_true, decide_eq_true_eq, List.all_eq_true, List.mem_range, Bool.or_eq_true, beq_iff_eq] at h2
      refine ⟨d, rfl, h2.1, fun j o' hj hjk hne hd' => ?_⟩
      rcases h2.2 j hjk with h3 | h3
      · exact hne h3
      · rw [hj] at h3
        simp only at h3
        rw [hd'] at h3
        simp at h3
  · rw [if_neg hik] at h2
    simp only [Bool.and_eq_true, List.all_eq_true, List.mem_range, Bool.or_eq_true, decide_eq_true_eq] at h2
    exact h2

def Closed (ops : Array Oper) (listed : Array Bool) : Prop := ∀ (j : Nat) (o' : Oper), ops[j]? = some o' → listed.getD j false = true → ∀ x ∈ o'.after, Region.binds .any x = true → listed.getD x.on false = true

theorem needs_listed {ops : Array Oper} {listed : Array Bool} (hc : Closed ops listed) : ∀ (f i j : Nat), listed.getD i false = true → needs ops f i j = true → listed.getD j false = true
  | 0, _, _, _, h => by simp [needs] at h
  | f + 1, i, j, hi, h => by
    unfold needs at h
    cases ho : ops[i]? with
    | none => rw [ho] at h; simp at h
    | some o =>
      rw [ho] at h
      simp only [List.any_eq_true, Bool.and_eq_true, Bool.or_eq_true, beq_iff_eq] at h
      obtain ⟨e, he, hb, h | h⟩ := h
      · rw [← h]; exact hc i o ho hi e (Array.mem_toList_iff.1 he) hb
      · exact needs_listed hc f e.on j (hc i o ho hi e (Array.mem_toList_iff.1 he) hb) h

/-- What is known of the frame. -/
structure SameK (ops : Array Oper) (k : Nat) (a0 a : Act) : Prop where
  defers : a.defers = a0.defers
  size : a.tmps.size = a0.tmps.size
  slots : ∀ t, outerK ops k t = true → slot a t = slot a0 t

structure Inv (ops : Array Oper) (φ : Nat → Value → World → Prop) (a0 : Act) (w0 : World) (k : Nat) (listed : Array Bool) (a : Act) (w : World) : Prop where
  below : Below w0.heap.size w0 w
  same : SameK ops k a0 a
  size : listed.size = ops.size
  left : ∀ j, j < k → listed.getD j false = true → Left' ops φ a w j
  rest : ∀ i, k ≤ i → listed.getD i false = false
  closed : Closed ops listed
  fresh : ∀ (j : Nat) (o' : Oper) (d : Nat), ops[j]? = some o' → j < k → listed.getD j false = false → o'.dst = some d → slot a d = slot a0 d

/-- What is owed at each of the first k. -/
def Owed (P : Program) (ops : Array Oper) (Q : Exit → Act → World → Prop) (φ : Nat → Value → World → Prop) (k : Nat) (a0 : Act) (w0 : World) : Nat → List Oper → Prop
  | _, [] => True
  | i, o :: r => (∀ a w, Below w0.heap.size w0 w → SameK ops k a0 a → (∀ j, waits o j = true → Left' ops φ a w j) →
      (∀ (j : Nat) (o' : Oper) (d : Nat), ops[j]? = some o' → j < k → waits o' i = true → o'.dst = some d → slot a d = slot a0 d) →
      Does P ops Q (φ i) o a w ∨ (Region.wanted o (yielded ops a.tmps) = false ∧ φ i undef w)) ∧ Owed P ops Q φ k a0 w0 (i + 1) r

theorem Owed.get {P : Program} {ops : Array Oper} {Q : Exit → Act → World → Prop} {φ : Nat → Value → World → Prop} {m : Nat} {a0 : Act} {w0 : World} :
    ∀ (l : List Oper) (k : Nat), Owed P ops Q φ m a0 w0 k l → ∀ i o, l[i]? = some o → ∀ a w, Below w0.heap.size w0 w → SameK ops m a0 a → (∀ j, waits o j = true → Left' ops φ a w j) →
      (∀ (j : Nat) (o' : Oper) (d : Nat), ops[j]? = some o' → j < m → waits o' (k + i) = true → o'.dst = some d → slot a d = slot a0 d) →
      Does P ops Q (φ (k + i)) o a w ∨ (Region.wanted o (yielded ops a.tmps) = false ∧ φ (k + i) undef w)
  | [], _, _, i, o, h => by simp at h
  | x :: l, k, hl, 0, o, h => by
    simp at h; subst h; exact hl.1
  | x :: l, k, hl, i + 1, o, h => by
    have := Owed.get l (k + 1) hl.2 i o (by simpa using h)
    rw [show k + (i + 1) = k + 1 + i by omega]
    exact this

/-- The rest comes in the text's order. -/
theorem wpAny_rest {P : Program} {ops : Array Oper} {Q : Exit → Act → World → Prop} {n k : Nat} (hok : planOK ops n k = true) :
    ∀ (c m fuel : Nat) (listed : Array Bool) (a : Act) (w : World), ops.size - m ≤ c → c ≤ fuel → k ≤ m → m ≤ ops.size → listed.size = ops.size → (∀ i, i < ops.size → listed.getD i false = decide (i < m)) →
      wpList P ops Q (ops.toList.drop m) a w → wpAny P .any ops Q fuel listed a w := by
  intro c
  induction c with
  | zero =>
    intro m fuel listed a w h1 h2 h3 h4 hs hl hq
    have hm : m = ops.size := by omega
    subst hm
    rw [List.drop_of_length_le (by simp)] at hq
    have hr : Region.ready .any ops listed = [] := by
      rw [List.eq_nil_iff_forall_not_mem]
      intro i hi
      obtain ⟨h1, o, ho, _⟩ := mem_ready.1 hi
      have hlt : i < ops.size := (Array.getElem?_eq_some_iff.1 ho).1
      rw [getD_dflt (by rw [hs]; exact hlt), hl i hlt] at h1
      simp [hlt] at h1
    cases fuel with
    | zero => exact ⟨hr, hq⟩
    | succ f => exact ⟨fun _ => hq, fun i hi => by rw [hr] at hi; cases hi⟩
  | succ c ih =>
    intro m fuel listed a w h1 h2 h3 h4 hs hl hq
    by_cases hm : m = ops.size
    · exact ih m fuel listed a w (by omega) (by omega) h3 h4 hs hl hq
    · obtain ⟨f, rfl⟩ : ∃ f, fuel = f + 1 := ⟨fuel - 1, by omega⟩
      have hmlt : m < ops.size := by omega
      have ho : ops[m]? = some ops[m] := Array.getElem?_eq_getElem hmlt
      have hk := ok_at hok ho
      refine ⟨fun hr => ?_, fun i hi => ?_⟩
      · exfalso
        have : m ∈ Region.ready .any ops listed := mem_ready.2 ⟨by rw [getD_dflt (by rw [hs]; exact hmlt), hl m hmlt]; simp, _, ho, fun e he hb => by
          have hlt := hk.1 e he hb
          rw [hl e.on (by omega)]; simp [hlt]⟩
        rw [hr] at this
        simp at this
      · obtain ⟨g1, o, hio, hdeps⟩ := mem_ready.1 hi
        have hilt : i < ops.size := (Array.getElem?_eq_some_iff.1 hio).1
        rw [getD_dflt (by rw [hs]; exact hilt), hl i hilt] at g1
        simp at g1
        have him : i = m := by
          rcases Nat.lt_or_ge m i with h | h
          · exfalso
            rcases ((ok_at hok hio).2.2 (by omega)).2 with e | e
            · omega
            · unfold waits at e
              rw [List.any_eq_true] at e
              obtain ⟨x, hx, hj⟩ := e
              simp only [Bool.and_eq_true, beq_iff_eq] at hj
              have := hdeps x (Array.mem_toList_iff.1 hx) hj.2
              rw [hj.1, hl (i - 1) (by omega)] at this
              simp at this
              omega
          · omega
        subst him
        rw [ho] at hio; cases hio
        rw [← List.getElem_cons_drop (by simpa using hmlt)] at hq
        unfold wpList at hq
        unfold wpOp
        simp only [ho]
        have go : ∀ a w, wpList P ops Q (ops.toList.drop (i + 1)) a w → wpAny P .any ops Q f (listed.setIfInBounds i true) a w := fun a w h => by
          refine ih (i + 1) f _ a w (by omega) (by omega) (by omega) (by omega) (by simp [hs]) (fun j hj => ?_) h
          by_cases hji : j = i
          · subst hji; simp [Array.getD, hs, hj]
          · rw [getD_set_ne false (by omega), hl j hj]
            have : (j < i) ↔ (j < i + 1) := by omega
            simp [this]
        have e : (ops.toList[i]'(by simpa using hmlt)) = ops[i] := by simp
        rw [e] at hq
        split
        · rename_i hw
          rw [if_pos hw] at hq
          rcases hq with hq | hq
          · exact Or.inl (Oper.wp_mono go hq)
          · exact Or.inr hq
        · rename_i hw
          rw [if_neg hw] at hq
          exact go _ _ hq

theorem wpAny_tail {P : Program} {ops : Array Oper} {Q : Exit → Act → World → Prop} {φ : Nat → Value → World → Prop} {a0 : Act} {w0 : World} {k : Nat} (hok : planOK ops a0.tmps.size k = true)
    (hst : ∀ i v w w', φ i v w → Below w.heap.size w w' → φ i v w') (hsteps : Owed P ops Q φ k a0 w0 0 (ops.toList.take k))
    (hend : ∀ a w, Below w0.heap.size w0 w → SameK ops k a0 a → (∀ j, j < k → Left' ops φ a w j) → wpList P ops Q (ops.toList.drop k) a w) :
    ∀ (fuel : Nat) (listed : Array Bool) (a : Act) (w : World), openCount ops listed ≤ fuel → Inv ops φ a0 w0 k listed a w → wpAny P .any ops Q fuel listed a w := by
  intro fuel
  have hk := ok_le hok
  have count : ∀ (listed : Array Bool), listed.size = ops.size → (∀ i, i < ops.size → listed.getD i false = decide (i < k)) → openCount ops listed = ops.size - k := by
    intro listed hs hl
    unfold openCount
    have : ∀ n, n ≤ ops.size → (List.range n).countP (fun i => !listed.getD i true) = n - k := by
      intro n
      induction n with
      | zero => intro _; simp
      | succ n ih =>
        intro hn
        rw [List.range_succ, List.countP_append, ih (by omega), List.countP_singleton, getD_dflt (by rw [hs]; omega), hl n (by omega)]
        by_cases h : n < k
        · simp [h]; omega
        · simp [h]; omega
    exact this _ (Nat.le_refl _)
  have fin : ∀ (fuel : Nat) (listed : Array Bool) (a : Act) (w : World), openCount ops listed ≤ fuel → Inv ops φ a0 w0 k listed a w → (∀ j, j < k → listed.getD j false = true) → wpAny P .any ops Q fuel listed a w := by
    intro fuel listed a w hc hinv hall
    have hl : ∀ i, i < ops.size → listed.getD i false = decide (i < k) := fun i hi => by
      by_cases hik : i < k
      · rw [hall i hik]; simp [hik]
      · rw [hinv.rest i (by omega)]; simp [hik]
    refine wpAny_rest hok (ops.size - k) k fuel listed a w (Nat.le_refl _) (by rw [← count listed hinv.size hl]; exact hc) (Nat.le_refl _) hk hinv.size hl (hend a w hinv.below hinv.same fun j hj => hinv.left j hj (hall j hj))
  induction fuel with
  | zero =>
    intro listed a w hc hinv
    refine fin 0 listed a w hc hinv fun j hj => ?_
    rcases Bool.eq_false_or_eq_true (listed.getD j false) with h | h
    · exact h
    · exfalso
      have := open_less hinv.size (show j < ops.size by omega) (by rw [getD_dflt (by rw [hinv.size]; omega)]; exact h)
      omega
  | succ fuel ih =>
    intro listed a w hc hinv
    by_cases hall : ∀ j, j < k → listed.getD j false = true
    · exact fin _ listed a w hc hinv hall
    · refine ⟨fun hr => ?_, fun i hi => ?_⟩
      · exfalso
        apply hall
        intro j
        induction j using Nat.strongRecOn with
        | ind j ihj =>
          intro hj
          rcases Bool.eq_false_or_eq_true (listed.getD j false) with h | h
          · exact h
          · exfalso
            have ho : ops[j]? = some ops[j] := Array.getElem?_eq_getElem (by omega)
            have : j ∈ Region.ready .any ops listed := mem_ready.2 ⟨by rw [getD_dflt (by rw [hinv.size]; omega)]; exact h, _, ho, fun e he hb => by
              have hlt := (ok_at hok ho).1 e he hb
              exact ihj e.on hlt (by omega)⟩
            rw [hr] at this
            simp at this
      · obtain ⟨h1, o, ho, hdeps⟩ := mem_ready.1 hi
        have hlt : i < ops.size := (Array.getElem?_eq_some_iff.1 ho).1
        have waited : ∀ j, waits o j = true → listed.getD j false = true := fun j hj => by
          unfold waits at hj
          rw [List.any_eq_true] at hj
          obtain ⟨x, hx, hj⟩ := hj
          simp only [Bool.and_eq_true, beq_iff_eq] at hj
          obtain ⟨rfl, hb⟩ := hj
          exact hdeps _ (Array.mem_toList_iff.1 hx) hb
        have hik : i < k := by
          rcases Nat.lt_or_ge i k with h | h
          · exact h
          · refine absurd (fun j hj => ?_) hall
            have hn := ((ok_at hok ho).2.2 (by omega)).1 j hj
            obtain ⟨s, hs⟩ : ∃ s, ops.size = s + 1 := ⟨ops.size - 1, by omega⟩
            rw [hs] at hn
            unfold needs at hn
            rw [ho] at hn
            simp only [List.any_eq_true, Bool.and_eq_true, Bool.or_eq_true, beq_iff_eq] at hn
            obtain ⟨e, he, hb, h' | h'⟩ := hn
            · rw [← h']; exact hdeps e (Array.mem_toList_iff.1 he) hb
            · exact needs_listed hinv.closed s e.on j (hdeps e (Array.mem_toList_iff.1 he) hb) h'
        obtain ⟨d, hd, hdn, hapart⟩ := (ok_at hok ho).2.1 hik
        have hbefore := (ok_at hok ho).1
        have howed := Owed.get _ 0 hsteps i o (by rw [List.getElem?_take_of_lt hik]; simpa using ho)
        rw [Nat.zero_add] at howed
        have goOn : ∀ v w', Below w.heap.size w w' → φ i v w' → wpAny P .any ops Q fuel (listed.setIfInBounds i true) (a.put o.dst v) w' := by
          intro v w' hbel hphi
          have hcnt := open_less hinv.size hlt h1
          refine ih _ _ _ (by omega) ⟨hinv.below.trans (hbel.mono hinv.below.size), ?_, by simp [hinv.size], fun j hjk hj => ?_, fun j hj => by rw [getD_set_ne false (by omega)]; exact hinv.rest j hj, fun j o' hoj hlj x hx hb => ?_, fun j o' dj hoj hjk hlj hdj => ?_⟩
          · rw [hd]
            refine ⟨hinv.same.defers, by simp [Act.put, hinv.same.size], fun t ht => ?_⟩
            have htd : t ≠ d := by
              rintro rfl
              unfold outerK at ht
              rw [List.all_eq_true] at ht
              have hmem : o ∈ ops.toList.take k := List.mem_of_getElem? (i := i) (by rw [List.getElem?_take_of_lt hik]; simpa using ho)
              have := ht o hmem
              rw [hd] at this
              simp at this
            rw [slot_put_other _ _ _ _ htd]
            exact hinv.same.slots t ht
          · by_cases hji : j = i
            · subst hji
              unfold Left'
              rw [ho]
              simp only [hd]
              rw [slot_put_same _ _ _ (by rw [hinv.same.size]; exact hdn)]
              exact hphi
            · rw [getD_set_ne false (by omega)] at hj
              have hleft := hinv.left j hjk hj
              unfold Left' at hleft ⊢
              cases hoj : ops[j]? with
              | none => rw [hoj] at hleft; exact hleft
              | some oj =>
                rw [hoj] at hleft
                simp only at hleft ⊢
                cases hdj : oj.dst with
                | none => rw [hdj] at hleft; exact hleft
                | some dj =>
                  rw [hdj] at hleft
                  simp only at hleft ⊢
                  rw [hd, slot_put_other _ _ _ _ (by rintro rfl; exact hapart j oj hoj hjk hji hdj)]
                  exact hst _ _ _ _ hleft hbel
          · have hxl : listed.getD x.on false = true := by
              by_cases hji : j = i
              · subst hji
                rw [ho] at hoj; cases hoj
                exact hdeps x hx hb
              · rw [getD_set_ne false (by omega)] at hlj
                exact hinv.closed j o' hoj hlj x hx hb
            by_cases hxi : x.on = i
            · rw [hxi]; simp [Array.getD, hinv.size, hlt]
            · rw [getD_set_ne false (by omega)]; exact hxl
          · by_cases hji : j = i
            · subst hji
              exfalso
              simp [Array.getD, hinv.size, hlt] at hlj
            · rw [getD_set_ne false (by omega)] at hlj
              rw [hd, slot_put_other _ _ _ _ (by rintro rfl; exact hapart j o' hoj hjk hji hdj)]
              exact hinv.fresh j o' dj hoj hjk hlj hdj
        unfold wpOp
        rcases howed a w hinv.below hinv.same (fun j hj => by
          have hl := waited j hj
          rcases Nat.lt_or_ge j k with h | h
          · exact hinv.left j h hl
          · rw [hinv.rest j h] at hl; cases hl) (fun j o' dj hoj hjk hwj hdj => by
          refine hinv.fresh j o' dj hoj hjk ?_ hdj
          rcases Bool.eq_false_or_eq_true (listed.getD j false) with hlj | hlj
          · exfalso
            unfold waits at hwj
            rw [List.any_eq_true] at hwj
            obtain ⟨x, hx, hj⟩ := hwj
            simp only [Bool.and_eq_true, beq_iff_eq] at hj
            obtain ⟨hxi, hb⟩ := hj
            have := hinv.closed j o' hoj hlj x (Array.mem_toList_iff.1 hx) hb
            rw [hxi, ← getD_dflt (by rw [hinv.size]; exact hlt), h1] at this
            cases this
          · exact hlj) with ⟨hw, hwp⟩ | ⟨hw, hphi⟩
        · simp only [ho, hw, if_true]
          refine Or.inl (Oper.wp_mono (fun a' w' h' => ?_) hwp)
          obtain ⟨v, rfl, hbel, hphi⟩ := h'
          exact goOn v w' hbel hphi
        · simp only [ho, hw, Bool.false_eq_true, if_false]
          exact goOn undef w (Below.refl _ _) hphi

/-- THE LAW. -/
theorem wp_region_tail {P : Program} {id : Nat} {ops : Array Oper} {Q : Exit → Act → World → Prop} {a0 : Act} {w0 : World} (k : Nat) (φ : Nat → Value → World → Prop) (hm : P.follows .mixedOrders = true) (hok : planOK ops a0.tmps.size k = true)
    (hst : ∀ i v w w', φ i v w → Below w.heap.size w w' → φ i v w') (hsteps : Owed P ops Q φ k a0 w0 0 (ops.toList.take k))
    (hend : ∀ a w, Below w0.heap.size w0 w → SameK ops k a0 a → (∀ j, j < k → Left' ops φ a w j) → wpList P ops Q (ops.toList.drop k) a w) : (Code.region id ops true).wp P Q a0 w0 := by
  refine wp_region_any hm (wpAny_tail hok hst hsteps hend _ _ _ _ ?_ ⟨(Below.refl _ _).drew, ⟨rfl, rfl, fun _ _ => rfl⟩, by simp, fun j _ hj => ?_, fun i hi => ?_, fun j o' _ hj => ?_, fun _ _ _ _ _ _ _ => rfl⟩)
  · exact Nat.le_trans (List.countP_le_length) (by simp)
  · exfalso
    simp [Array.getD] at hj
  · simp [Array.getD]
  · exfalso
    simp [Array.getD] at hj

section
variable {P : Program} {ops : Array Oper} {Q : Exit → Act → World → Prop} {o : Oper} {a : Act} {w : World}

/-- An operation that is passed over. -/
theorem pass_by {j d : Nat} {b c : Bool} (h : o.guard = some (j, b)) (hd : (ops[j]?).bind (·.dst) = some d) (hs : slot a d = .bool c) (hne : c ≠ b) : Region.wanted o (yielded ops a.tmps) = false := by
  have hx : a.tmps[d]? = some (.bool c) := by
    unfold slot at hs
    rw [Array.getD_eq_getD_getElem?] at hs
    cases hh : a.tmps[d]? with
    | none => rw [hh] at hs; simp [undef] at hs
    | some x => rw [hh] at hs; simp at hs; rw [hs]
  simp [Region.wanted, h, yielded, hd, hx]
  exact hne

/-- An operation that runs to a value in a world that has grown. -/
theorem does_grown {w' : World} {p : Value → World → Prop} {v : Value} (hw : Region.wanted o (yielded ops a.tmps) = true) (hrun : (execOp a.eval o).run P w = .ok (.value v) w') (hg : Below w.heap.size w w') (hp : p v w') : Does P ops Q p o a w := by
  refine ⟨hw, ?_⟩
  unfold Oper.wp
  rw [hrun]
  exact ⟨v, rfl, hg, hp⟩
end

theorem slot_get (A : Act) (t : Nat) : slot A t = A.tmps[t]?.getD undef := by unfold slot; rw [Array.getD_eq_getD_getElem?]

/-- The frame by its slots. -/
theorem frame_of {A : Act} {n : Nat} (h : A.tmps.size = n) : A = { tmps := ((List.range n).map (slot A)).toArray, defers := A.defers } := by
  obtain ⟨⟨tl⟩, d⟩ := A
  have hl : tl.length = n := h
  have e : tl = (List.range n).map (slot ⟨⟨tl⟩, d⟩) := by
    apply List.ext_getElem (by simp [hl])
    intro i h1 h2
    simp [slot, Array.getD, h1]
  conv => lhs; rw [e]

end Go.Proofs.Ytgalmkhgbokidaa.PT

namespace Go.Proofs.Ytgalmkhgbokidaa.PB
open Go.RowKit
set_option linter.unusedVariables false

/-- Each operation waits for earlier ones alone. -/
def orderOK (ops : Array Oper) : Bool :=
  (List.range ops.size).all fun i => match ops[i]? with
    | none => false
    | some o => o.after.all fun e => !Region.binds .any e || decide (e.on < i)

theorem orderOK_spec {ops : Array Oper} {i : Nat} (h : orderOK ops = true) (hi : i < ops.size) : ∃ o, ops[i]? = some o ∧ ∀ e ∈ o.after, Region.binds .any e = true → e.on < i := by
  unfold orderOK at h
  rw [List.all_eq_true] at h
  have hh := h i (List.mem_range.2 hi)
  have ho : ops[i]? = some ops[i] := Array.getElem?_eq_getElem hi
  rw [ho] at hh
  refine ⟨_, ho, fun e he hb => ?_⟩
  rw [Array.all_eq_true_iff_forall_mem] at hh
  have := hh e he
  simp [hb] at this
  exact this

theorem inv_all {ops : Array Oper} {listed : Array Bool} (hok : orderOK ops = true) (hs : listed.size = ops.size) (hr : Region.ready .any ops listed = []) : ∀ k, k < ops.size → listed.getD k false = true := by
  intro k
  induction k using Nat.strongRecOn with
  | ind k ih =>
    intro hk
    rcases Bool.eq_false_or_eq_true (listed.getD k false) with h | h
    · exact h
    · exfalso
      obtain ⟨o, ho, hbefore⟩ := orderOK_spec hok hk
      have : k ∈ Region.ready .any ops listed := mem_ready.2 ⟨by rw [getD_dflt (by omega)]; exact h, o, ho, fun e he hb => by
        have hlt := hbefore e he hb
        exact ih e.on hlt (by omega)⟩
      rw [hr] at this
      simp at this

theorem wpAny_inv {P : Program} {ops : Array Oper} {Q : Exit → Act → World → Prop} (I : (Nat → Bool) → Act → World → Prop) (hok : orderOK ops = true)
    (hstep : ∀ i o L a w, ops[i]? = some o → L i = false → (∀ j, waits o j = true → L j = true) → I L a w → Region.wanted o (yielded ops a.tmps) = true ∧ o.wp P a w (fun a' w' => I (fun j => j == i || L j) a' w') Q)
    (hend : ∀ L a w, (∀ j, j < ops.size → L j = true) → I L a w → Q .normal a w) :
    ∀ (fuel : Nat) (listed : Array Bool) (a : Act) (w : World), openCount ops listed ≤ fuel → listed.size = ops.size → I (fun j => listed.getD j false) a w → wpAny P .any ops Q fuel listed a w := by
  intro fuel
  induction fuel with
  | zero =>
    intro listed a w hc hs hi
    have hr : Region.ready .any ops listed = [] := by
      rw [List.eq_nil_iff_forall_not_mem]
      intro i hi
      obtain ⟨h1, o, ho, _⟩ := mem_ready.1 hi
      have hlt : i < ops.size := (Array.getElem?_eq_some_iff.1 ho).1
      have := open_less hs hlt h1
      omega
    exact ⟨hr, hend _ _ _ (inv_all hok hs hr) hi⟩
  | succ fuel ih =>
    intro listed a w hc hs hi
    refine ⟨fun hr => hend _ _ _ (inv_all hok hs hr) hi, fun i hir => ?_⟩
    obtain ⟨h1, o, ho, hdeps⟩ := mem_ready.1 hir
    have hlt : i < ops.size := (Array.getElem?_eq_some_iff.1 ho).1
    obtain ⟨hw, hwp⟩ := hstep i o (fun j => listed.getD j false) a w ho (by rw [← getD_dflt (by omega)]; exact h1) (fun j hj => by
      unfold waits at hj
      rw [List.any_eq_true] at hj
      obtain ⟨x, hx, hj⟩ := hj
      simp only [Bool.and_eq_true, beq_iff_eq] at hj
      obtain ⟨rfl, hb⟩ := hj
      exact hdeps _ (Array.mem_toList_iff.1 hx) hb) hi
    unfold wpOp
    simp only [ho, hw, if_true]
    refine Or.inl (Oper.wp_mono (fun a' w' h' => ?_) hwp)
    have hcnt := open_less hs hlt h1
    refine ih _ _ _ (by omega) (by simp [hs]) ?_
    have e : (fun j => (listed.setIfInBounds i true).getD j false) = fun j => j == i || listed.getD j false := by
      funext j
      by_cases hji : j = i
      · subst hji; simp [Array.getD, hs, hlt]
      · rw [getD_set_ne false (by omega)]; simp [hji]
    rw [e]
    exact h'

theorem wp_region_inv {P : Program} {id : Nat} {ops : Array Oper} {Q : Exit → Act → World → Prop} {a0 : Act} {w0 : World} (I : (Nat → Bool) → Act → World → Prop) (hm : P.follows .mixedOrders = true) (hok : orderOK ops = true)
    (h0 : I (fun _ => false) a0 w0.drew)
    (hstep : ∀ i o L a w, ops[i]? = some o → L i = false → (∀ j, waits o j = true → L j = true) → I L a w → Region.wanted o (yielded ops a.tmps) = true ∧ o.wp P a w (fun a' w' => I (fun j => j == i || L j) a' w') Q)
    (hend : ∀ L a w, (∀ j, j < ops.size → L j = true) → I L a w → Q .normal a w) : (Code.region id ops true).wp P Q a0 w0 := by
  refine wp_region_any hm (wpAny_inv I hok hstep hend _ _ _ _ ?_ (by simp) ?_)
  · exact Nat.le_trans (List.countP_le_length) (by simp)
  · have e : (fun j => (Array.replicate ops.size false).getD j false) = fun _ => false := by
      funext j
      simp [Array.getD]
    rw [e]
    exact h0

/-- What is owed at each operation, as a list. -/
def InvT (P : Program) (ops : Array Oper) (Q : Exit → Act → World → Prop) (I : (Nat → Bool) → Act → World → Prop) : Nat → List Oper → Prop
  | _, [] => True
  | i, o :: r => (∀ L a w, L i = false → (∀ j, waits o j = true → L j = true) → I L a w → Region.wanted o (yielded ops a.tmps) = true ∧ o.wp P a w (fun a' w' => I (fun j => j == i || L j) a' w') Q) ∧ InvT P ops Q I (i + 1) r

theorem InvT.get {P : Program} {ops : Array Oper} {Q : Exit → Act → World → Prop} {I : (Nat → Bool) → Act → World → Prop} :
    ∀ (l : List Oper) (k : Nat), InvT P ops Q I k l → ∀ i o, l[i]? = some o → ∀ L a w, L (k + i) = false → (∀ j, waits o j = true → L j = true) → I L a w → Region.wanted o (yielded ops a.tmps) = true ∧ o.wp P a w (fun a' w' => I (fun j => j == (k + i) || L j) a' w') Q
  | [], _, _, i, o, h => by simp at h
  | x :: l, k, hl, 0, o, h => by
    simp at h; subst h; exact hl.1
  | x :: l, k, hl, i + 1, o, h => by
    have := InvT.get l (k + 1) hl.2 i o (by simpa using h)
    rw [show k + (i + 1) = k + 1 + i by omega]
    exact this

theorem wp_region_invT {P : Program} {id : Nat} {ops : Array Oper} {Q : Exit → Act → World → Prop} {a0 : Act} {w0 : World} (I : (Nat → Bool) → Act → World → Prop) (hm : P.follows .mixedOrders = true) (hok : orderOK ops = true)
    (h0 : I (fun _ => false) a0 w0.drew) (hsteps : InvT P ops Q I 0 ops.toList) (hend : ∀ L a w, (∀ j, j < ops.size → L j = true) → I L a w → Q .normal a w) : (Code.region id ops true).wp P Q a0 w0 :=
  wp_region_inv I hm hok h0 (fun i o L a w ho hl hw hi => by
    have := InvT.get ops.toList 0 hsteps i o (by simpa using ho) L a w (by simpa using hl) hw hi
    simpa using this) hend

theorem inv_does {P : Program} {ops : Array Oper} {Q : Exit → Act → World → Prop} {o : Oper} {a : Act} {w : World} {v : Value} {J : Act → World → Prop} (h : Does P ops Q (E v) o a w) (hk : ∀ w', Below w.heap.size w w' → J (a.put o.dst v) w') :
    Region.wanted o (yielded ops a.tmps) = true ∧ o.wp P a w (fun a' w' => J a' w') Q := by
  refine ⟨h.1, Oper.wp_mono (fun a' w' h' => ?_) h.2⟩
  obtain ⟨u, rfl, hb, hp⟩ := h'
  obtain rfl : u = v := hp
  exact hk w' hb

theorem inv_value {P : Program} {ops : Array Oper} {Q : Exit → Act → World → Prop} {o : Oper} {a : Act} {w w' : World} {v : Value} {J : Act → World → Prop} (hw : Region.wanted o (yielded ops a.tmps) = true) (hrun : (execOp a.eval o).run P w = .ok (.value v) w') (hk : J (a.put o.dst v) w') :
    Region.wanted o (yielded ops a.tmps) = true ∧ o.wp P a w (fun a' w' => J a' w') Q := by
  refine ⟨hw, ?_⟩
  unfold Oper.wp
  rw [hrun]
  exact hk

theorem inv_skip {P : Program} {ops : Array Oper} {Q : Exit → Act → World → Prop} {o : Oper} {a : Act} {w w' : World} {J : Act → World → Prop} (hw : Region.wanted o (yielded ops a.tmps) = true) (hd : o.dst = none) (hrun : (execOp a.eval o).run P w = .ok .skip w') (hk : J a w') :
    Region.wanted o (yielded ops a.tmps) = true ∧ o.wp P a w (fun a' w' => J a' w') Q := by
  refine ⟨hw, ?_⟩
  unfold Oper.wp
  rw [hrun]
  simp only [Oper.upon, hd, Act.put]
  exact hk

end Go.Proofs.Ytgalmkhgbokidaa.PB
