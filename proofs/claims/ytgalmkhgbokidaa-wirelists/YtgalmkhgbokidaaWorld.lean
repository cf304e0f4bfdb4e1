/-
  What is proved here: small laws on bytes that lie in memory: what a slice of bytes reads as, that it stays so while nothing old is written, its string.
-/
import Derived.Test.YtgalmkhgbokidaaChecked
import Derived.Test.YtgalmkhgbokidaaMath
import Derived.WalkKit
import Derived.Laws.BytesArg
import Derived.Laws.CopyOwn
namespace Go.Proofs.Ytgalmkhgbokidaa
open Go.RowKit
set_option maxRecDepth 20000

/-- The bytes l as cells. -/
def B8 (l : List Int) : List Value := l.map (Value.int .u8)

/-- A slice with the address a and l.length elements reads as the bytes l; it lies below block number B. -/
structure Bts (B : Nat) (w : World) (a : Option Addr) (l : List Int) : Prop where
  range : ∀ z ∈ l, 0 ≤ z ∧ z < 256
  cells : l ≠ [] → ∃ b off, a = some ⟨b, off, none⟩ ∧ b < B ∧ ∀ i, i < l.length → w.cell? ⟨b, off + i, none⟩ = some (.int .u8 (l.getD i 0))

theorem Bts.nil (B : Nat) (w : World) (a : Option Addr) : Bts B w a [] := ⟨fun z h => (by simp at h), fun h => absurd rfl h⟩

theorem Bts.keep {B : Nat} {w w' : World} {a : Option Addr} {l : List Int} (h : Bts B w a l) (hb : Below B w w') : Bts B w' a l := by
  refine ⟨h.range, fun hl => ?_⟩
  obtain ⟨b, off, e, hlt, hc⟩ := h.cells hl
  exact ⟨b, off, e, hlt, fun i hi => (hb.cell (p := ⟨b, off + i, none⟩) hlt).trans (hc i hi)⟩

theorem Bts.mono {B B' : Nat} {w : World} {a : Option Addr} {l : List Int} (h : Bts B w a l) (hB : B ≤ B') : Bts B' w a l := by
  refine ⟨h.range, fun hl => ?_⟩
  obtain ⟨b, off, e, hlt, hc⟩ := h.cells hl
  exact ⟨b, off, e, by omega, hc⟩

theorem addr_add (b off i : Nat) : (⟨b, off, none⟩ : Addr).add i = ⟨b, off + i, none⟩ := by unfold Addr.add; split <;> simp_all

theorem Bts.string {B : Nat} {w : World} {a : Option Addr} {l : List Int} (h : Bts B w a l) (cap : Nat) :
    (convert 22 9 (.slice a l.length cap)).run Try.prog w = .ok (.string (strOfNums l)) w := by
  by_cases hl : l = []
  · subst hl
    rw [run_convert_bytes_string w 22 9 5 _ _ cap Try.underlying22 Try.underlying5 Try.underlying9]
    cases a with
    | none => simp [Conv.bytesToString, strOfNums]; rfl
    | some a =>
      have h0 := run_loadCells_list (P := Try.prog) w a [] (fun j v hj => by simp at hj)
      rw [run_bytesToString w a _ cap [] (by simpa using h0)]
      simp [strOfNums]; rfl
  · obtain ⟨b, off, rfl, _, hc⟩ := h.cells hl
    exact run_convert_bytes_arg w 22 5 Try.underlying22 Try.underlying5 b off l.length cap l rfl hc 9 Try.underlying9

theorem length_B8 (l : List Int) : (B8 l).length = l.length := by simp [B8]
theorem B8_append (l r : List Int) : B8 (l ++ r) = B8 l ++ B8 r := by simp [B8]
theorem B8_one (l : List Int) : ∀ u ∈ B8 l, u.oneCell' = true := by
  intro u hu
  simp only [B8, List.mem_map] at hu
  obtain ⟨z, _, rfl⟩ := hu
  rfl
theorem B8_get (l : List Int) (j : Nat) (u : Value) (h : (B8 l)[j]? = some u) : j < l.length ∧ u = .int .u8 (l.getD j 0) := by
  simp only [B8, List.getElem?_map, Option.map_eq_some_iff] at h
  obtain ⟨z, hz, rfl⟩ := h
  have hj : j < l.length := by
    rcases Nat.lt_or_ge j l.length with h | h
    · exact h
    · rw [List.getElem?_eq_none h] at hz; cases hz
  exact ⟨hj, by simp [List.getD, hz]⟩

/-- What a call owns reads as bytes. -/
theorem Bts.of_owns {base : Nat} {w : World} {g n cap : Nat} {l : List Int} (h : w.ownsRow base 5 1 (.slice (some ⟨g, 0, none⟩) n cap) n (B8 l)) (hr : ∀ z ∈ l, 0 ≤ z ∧ z < 256) : Bts w.heap.size w (some ⟨g, 0, none⟩) l := by
  refine ⟨hr, fun hl => ⟨g, 0, rfl, (h.lt g rfl).2, fun i hi => ?_⟩⟩
  have hn : l.length = n := by have := h.1; simp [B8] at this; exact this
  rw [Nat.zero_add, h.cellAt i (by omega)]
  simp [B8, List.getElem?_eq_getElem hi, List.getD]

theorem owns_len {base : Nat} {w : World} {g n cap : Nat} {l : List Int} (h : w.ownsRow base 5 1 (.slice (some ⟨g, 0, none⟩) n cap) n (B8 l)) : l.length = n := by
  have := h.1; simp [B8] at this; exact this

theorem Try.info5 : (Try.prog.info? 5).map (fun i => (i.zero, i.size, i.bytes)) = some (some (.int .u8 0), 1, 1) := by kernel_rfl

/-- make([]byte, n, c). -/
theorem wpList_make_len {P : Program} (w : World) {ops : Array Oper} {rest : List Oper} {o : Oper} {a : Act} {Q : Exit → Act → World → Prop}
    (hg : o.guard = none) (l c : Operand) (t : TypeId) (hop : o.op = Op.makeSlice t l c)
    (e : TypeId) (i : TypeInfo) (z : Value) (h1 : P.underlying t = some (.slice e)) (h2 : P.info? e = some i) (h3 : i.zero = some z) (h4 : i.size = 1) (h5 : i.bytes = 1)
    (kl kc : IntKind) (L C : Int) (n m : Nat) (hl : a.eval l = .int kl L) (hc : a.eval c = .int kc C) (hL : L = (n : Int)) (hC : C = ((n + m : Nat) : Int)) (b2 : n + m ≤ 281474976710656)
    (hK : ∀ cur : List Value, cur.length = n + m → wpList P ops Q rest (a.put o.dst (.slice (some ⟨w.heap.size, 0, none⟩) n (n + m))) (w.alloc (.cells cur.toArray e))) :
    wpList P ops Q (o :: rest) a w := by
  refine wpList_plain hg fun K hK' => ?_
  have hrun := run_make (P := P) w t e i z h1 h2 h3 kl kc L C (by omega) (by omega) (by rw [h5]; omega) (by omega)
  rw [show L.toNat = n by omega, show C.toNat = n + m by omega] at hrun
  unfold Oper.wp
  simp [execOp, hop, hl, hc, hrun, Result.andThen, Oper.upon]
  have := hK' _ _ (hK (madeCells z.cells ((n + m) * i.size)).toList (by simp [size_madeCells, h4]))
  simpa using this

/-- Behind make and copy. -/
theorem owns_copied (w' : World) (g n m : Nat) (cur : List Value) (l : List Int) (hl : l.length = n) (hc : cur.length = n + m) (hm : n + m ≤ 281474976710656)
    (h : w'.heap[g]? = some (.cells (splice cur 0 (B8 l)).toArray 5 (0, 0))) : w'.ownsRow g 5 1 (.slice (some ⟨g, 0, none⟩) n (n + m)) n (B8 l) := by
  refine ⟨by simp [B8, hl], Or.inr ⟨g, n + m, _, rfl, Nat.le_refl _, h, by omega, by simp only [maxLen]; omega, ?_, ?_⟩⟩
  · have := length_splice cur 0 (B8 l) (by simp [B8]; omega)
    simp; omega
  · have e : n * 1 = (B8 l).length := by simp [B8, hl]
    rw [e]
    simp [splice]

theorem Bts.src {B : Nat} {w : World} {a : Option Addr} {l : List Int} (h : Bts B w a l) (h0 : 0 < (B8 l).length) : ∃ ad, a = some ad ∧ ∀ j v, (B8 l)[j]? = some v → w.cell? (ad.add j) = some v := by
  obtain ⟨b, off, rfl, _, hc⟩ := h.cells (by rintro rfl; simp [B8] at h0)
  refine ⟨_, rfl, fun j v hj => ?_⟩
  obtain ⟨hlt, rfl⟩ := B8_get l j v hj
  rw [addr_add]
  exact hc j hlt

theorem one_new (w : World) (z : Int) : ∀ j u, [Value.int .u8 z][j]? = some u → (w.alloc (.cells #[.int .u8 z] 5)).cell? ((⟨w.heap.size, 0, none⟩ : Addr).add j) = some u := by
  intro j u hj
  match j, hj with
  | 0, hj => simp at hj; subst hj; simp [Addr.add]
  | j + 1, hj => simp at hj

theorem one_one (z : Int) : ∀ u ∈ [Value.int .u8 z], u.oneCell' = true := by
  intro u hu
  simp at hu
  subst hu
  rfl

theorem Bts.alloc {B : Nat} {w : World} {a : Option Addr} {l : List Int} (h : Bts B w a l) (hB : B ≤ w.heap.size) (o : Obj) : Bts B (w.alloc o) a l :=
  h.keep ((Below.refl _ _).alloc hB o)

theorem Bts.conv {B : Nat} {w : World} {a : Option Addr} {l : List Int} (h : Bts B w a l) (n cap : Nat) (hn : l.length = n) :
    (convert 22 9 (.slice a n cap)).run Try.prog w = .ok (.string (strOfNums l)) w := by
  subst hn; exact h.string cap

/-- A part of bytes. -/
theorem Bts.part {B : Nat} {w : World} {b off : Nat} {l : List Int} (h : Bts B w (some ⟨b, off, none⟩) l) (i n : Nat) : Bts B w (some ⟨b, off + i, none⟩) ((l.drop i).take n) := by
  refine ⟨fun z hz => h.range z (List.mem_of_mem_drop (List.mem_of_mem_take hz)), fun hl => ?_⟩
  have hne : l ≠ [] := by rintro rfl; simp at hl
  obtain ⟨b', off', e, hB, hc⟩ := h.cells hne
  cases e
  refine ⟨b, off + i, rfl, hB, fun j hj => ?_⟩
  rw [List.length_take, List.length_drop] at hj
  rw [Nat.add_assoc, hc (i + j) (by omega)]
  simp [List.getD, List.getElem?_take_of_lt (show j < n by omega)]

theorem hid {p : Prop} (h : p) : Hid p := h

end Go.Proofs.Ytgalmkhgbokidaa
