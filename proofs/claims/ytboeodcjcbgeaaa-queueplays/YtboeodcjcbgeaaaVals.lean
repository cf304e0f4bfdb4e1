/-
  What is proved here: rows of values in memory; the document's Cmp, Order and Same at two rows that read alike; Long.
-/
import Derived.Test.YtboeodcjcbgeaaaBase
import Derived.Test.YtboeodcjcbgeaaaTail
namespace Go.Proofs.Ytboeodcjcbgeaaa
open Go.RowKit Go.Proofs
set_option linter.unusedVariables false
set_option linter.unusedSimpArgs false

/-- A value: its kind, its number, its text. -/
abbrev V := Int × Int × ByteArray

def d0 : V := (0, 0, ⟨#[]⟩)

def aggV (x : V) : Value := .agg #[.int .i64 x.1, .int .i64 x.2.1, .string x.2.2]

/-- The cells of values. -/
def flatV (l : List V) : List Value := l.flatMap fun x => [.int .i64 x.1, .int .i64 x.2.1, .string x.2.2]

theorem flat_appendV (l r : List V) : flatV (l ++ r) = flatV l ++ flatV r := by simp [flatV]
theorem flat_oneV (x : V) : flatV [x] = [.int .i64 x.1, .int .i64 x.2.1, .string x.2.2] := by simp [flatV]
theorem length_flatV (l : List V) : (flatV l).length = l.length * 3 := by
  induction l with
  | nil => rfl
  | cons x l ih => simp [flatV] at ih ⊢; omega
theorem flat_onesV (l : List V) : ∀ u ∈ flatV l, u.oneCell' = true := by
  intro u hu
  simp only [flatV, List.mem_flatMap] at hu
  obtain ⟨x, _, hx⟩ := hu
  simp at hx
  rcases hx with rfl | rfl | rfl <;> rfl

theorem flat_getV (l : List V) : ∀ i, i < l.length → (flatV l)[i * 3]? = some (.int .i64 (l.getD i d0).1) ∧ (flatV l)[i * 3 + 1]? = some (.int .i64 (l.getD i d0).2.1) ∧ (flatV l)[i * 3 + 2]? = some (.string (l.getD i d0).2.2) := by
  induction l with
  | nil => intro i h; simp at h
  | cons x l ih =>
    intro i hi
    cases i with
    | zero => simp [flatV]
    | succ i =>
      have := ih i (by simpa using hi)
      simp only [flatV, List.flatMap_cons] at this ⊢
      rw [show (i + 1) * 3 = i * 3 + 1 + 1 + 1 by omega]
      simpa using this

/-- A slice with the address a and l.length elements reads as the values l; it lies below block number B. -/
structure Vs (B : Nat) (w : World) (a : Option Addr) (l : List V) : Prop where
  cells : l ≠ [] → ∃ b off, a = some ⟨b, off, none⟩ ∧ b < B ∧ ∀ i, i < l.length → w.cell? ⟨b, off + i * 3, none⟩ = some (.int .i64 (l.getD i d0).1) ∧ w.cell? ⟨b, off + i * 3 + 1, none⟩ = some (.int .i64 (l.getD i d0).2.1) ∧ w.cell? ⟨b, off + i * 3 + 2, none⟩ = some (.string (l.getD i d0).2.2)

theorem Vs.nil (B : Nat) (w : World) (a : Option Addr) : Vs B w a [] := ⟨fun h => absurd rfl h⟩

theorem Vs.keep {B : Nat} {w w' : World} {a : Option Addr} {l : List V} (h : Vs B w a l) (hb : Below B w w') : Vs B w' a l := by
  refine ⟨fun hl => ?_⟩
  obtain ⟨b, off, e, hlt, hc⟩ := h.cells hl
  exact ⟨b, off, e, hlt, fun i hi => ⟨(hb.cell (p := ⟨b, off + i * 3, none⟩) hlt).trans (hc i hi).1, (hb.cell (p := ⟨b, off + i * 3 + 1, none⟩) hlt).trans (hc i hi).2.1, (hb.cell (p := ⟨b, off + i * 3 + 2, none⟩) hlt).trans (hc i hi).2.2⟩⟩

theorem Vs.mono {B B' : Nat} {w : World} {a : Option Addr} {l : List V} (h : Vs B w a l) (hB : B ≤ B') : Vs B' w a l := by
  refine ⟨fun hl => ?_⟩
  obtain ⟨b, off, e, hlt, hc⟩ := h.cells hl
  exact ⟨b, off, e, by omega, hc⟩

theorem Vs.on {w w' : World} {a : Option Addr} {l : List V} (h : Vs w.heap.size w a l) (hb : Below w.heap.size w w') : Vs w'.heap.size w' a l := (h.keep hb).mono hb.size

/-- What a call owns reads as values. -/
theorem Vs.of_owns {base e : Nat} {w : World} {v : Value} {l : List V} (h : w.ownsRow base e 3 v l.length (flatV l)) : ∃ a c, v = .slice a l.length c ∧ l.length ≤ c ∧ Vs w.heap.size w a l := by
  have hh := h
  obtain ⟨h1, ⟨rfl, h0⟩ | ⟨g, cap, cur, rfl, hg, hcur, hle, hm, hs, ht⟩⟩ := h
  · exact ⟨none, 0, by rw [h0], by omega, ⟨fun hl => absurd (List.length_eq_zero_iff.1 h0) hl⟩⟩
  · refine ⟨_, _, rfl, hle, ⟨fun hl => ⟨g, 0, rfl, (hh.lt g rfl).2, fun i hi => ?_⟩⟩⟩
    have := flat_getV l i hi
    rw [Nat.zero_add, hh.cellAt (i * 3) (by omega), hh.cellAt (i * 3 + 1) (by omega), hh.cellAt (i * 3 + 2) (by omega)]
    exact this

theorem less_self : ∀ l : List UInt8, Op.bytesLess l l = false
  | [] => by unfold Op.bytesLess; rfl
  | a :: l => by
    unfold Op.bytesLess
    rw [less_self l]
    simp

theorem run_gtr (s : ByteArray) (w : World) : (binOp .gtr 9 (.string s) (.string s)).run Try.prog w = .ok (.bool false) w := by
  have h := less_self s.toList
  show (Op.stringOp .gtr s s).run Try.prog w = _
  unfold Op.stringOp
  simp only [h]
  simp

set_option maxRecDepth 10000 in
set_option maxHeartbeats 2000000 in
theorem Cmp_same (x : V) (w : World) : Calls Try.prog 35 #[aggV x, aggV x] w fun e w' => e = .returned (.int .i64 0) ∧ Gr w w' := by
  obtain ⟨k, i, s⟩ := x
  unfold aggV
  simp only
  by_cases h0 : k = 0
  · subst h0
    go_enter Try.func35, Try.ntmps35
    go_wp2
    go_ret
    exact ⟨rfl, ((Gr.refl w).alloc _).alloc _⟩
  · by_cases h1 : k = 1
    · subst h1
      go_enter Try.func35, Try.ntmps35
      have hl := less_self s.toList
      have hg := fun w => run_gtr s w
      go_wp2
      go_ret
      exact ⟨rfl, ((Gr.refl w).alloc _).alloc _⟩
    · have i0 : (k == 0) = false := by simpa using h0
      have i1 : (k == 1) = false := by simpa using h1
      go_enter Try.func35, Try.ntmps35
      go_wp2
      go_ret
      exact ⟨rfl, ((Gr.refl w).alloc _).alloc _⟩

section
variable {a : Act} {t u c : Nat} {dst : Option Tmp} {ty : TypeId} {pos : String} {aft : Array Edge} {guard : Option (Nat × Bool)}

theorem run_indexV {b off n cap i : Nat} (w : World) (h : PB.slot a t = .slice (some ⟨b, off, none⟩) n cap) (h' : PB.slot a u = .int .i64 (i : Int)) (hi : i < n) (hn : n ≤ 1000000000) :
    (execOp a.eval { dst := dst, op := .indexAddr 34 (.tmp t) (.tmp u), type := ty, pos := pos, after := aft, guard := guard }).run Try.prog w = .ok (.value (.pointer (some ⟨b, off + i * 3, none⟩))) w := by
  have h1 : a.tmps[t]?.getD undef = .slice (some ⟨b, off, none⟩) n cap := by rw [← Array.getD_eq_getD_getElem?]; exact h
  have h2 : a.tmps[u]?.getD undef = .int .i64 (i : Int) := by rw [← Array.getD_eq_getD_getElem?]; exact h'
  go_simp

theorem run_loadV {b o : Nat} {k i : Int} {s : ByteArray} (w : World) (h : PB.slot a t = .pointer (some ⟨b, o, none⟩)) (hc : w.cell? ⟨b, o, none⟩ = some (.int .i64 k) ∧ w.cell? ⟨b, o + 1, none⟩ = some (.int .i64 i) ∧ w.cell? ⟨b, o + 2, none⟩ = some (.string s)) :
    (execOp a.eval { dst := dst, op := .load 68 (.tmp t), type := ty, pos := pos, after := aft, guard := guard }).run Try.prog w = .ok (.value (.agg #[.int .i64 k, .int .i64 i, .string s])) w := by
  have h0 : a.tmps[t]?.getD undef = .pointer (some ⟨b, o, none⟩) := by rw [← Array.getD_eq_getD_getElem?]; exact h
  obtain ⟨h1, h2, h3⟩ := hc
  go_simp

end

theorem Cmp_newB (x : V) (w : World) : Calls Try.prog 35 #[.agg #[.int .i64 x.1, .int .i64 x.2.1, .string x.2.2], .agg #[.int .i64 x.1, .int .i64 x.2.1, .string x.2.2]] w fun e w' => ∃ v, e = .returned v ∧ Below w.heap.size w w' ∧ PB.E (.int .i64 0) v w' :=
  (Cmp_same x w).mono fun e w' ⟨he, hg⟩ => ⟨_, he, hg.below, rfl⟩

/-- Long: of a row of more than thirty values it tells true. -/
theorem Long_any (w : World) (a : Option Addr) (cap n : Nat) (l : List V) (hn : l.length = n) (h : Vs w.heap.size w a l) :
    Calls Try.prog 27 #[.slice a n cap] w fun e w' => ∃ b, e = .returned (.bool b) ∧ (b = false → n ≤ 30) ∧ w' = w := by
  by_cases h30 : 30 < n
  · clear h hn
    go_enter Try.func27, Try.ntmps27
    go_wp2
    go_ret
    exact ⟨true, rfl, fun h => by simp at h, rfl⟩
  · have HN := hid' hn
    have HV := hid' h
    clear hn h
    go_enter Try.func27, Try.ntmps27
    go_wp2
    go_loopg [3] n (fun k i wr => ∃ j : Nat, j + k = n ∧ i = .int .i64 (j : Int) ∧ wr = w)
    case atStart => exact ⟨0, by omega, rfl, rfl⟩
    case round =>
      obtain ⟨j, hj, rfl, rfl⟩ := hrel
      cases gk with
      | zero =>
        obtain rfl : j = n := by omega
        go_wp2
        go_ret
        exact ⟨false, rfl, fun _ => by omega, rfl⟩
      | succ k =>
        have hjl : j < l.length := by rw [HN.out]; omega
        obtain ⟨b1, o1, rfl, hB1, hc1⟩ := HV.out.cells (by rintro rfl; simp at hjl)
        have p1 := (hc1 j hjl).2.2
        generalize (l.getD j d0).2.2 = s at p1
        clear hc1 hjl
        go_wp2
        · go_ret
          exact ⟨true, rfl, fun h => by simp at h, rfl⟩
        · go_roundg k
          case measure => omega
          case rel => exact ⟨j + 1, by omega, by simp, rfl⟩

end Go.Proofs.Ytboeodcjcbgeaaa
