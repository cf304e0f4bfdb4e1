/-
  What is proved here: slices of times in memory; the document's Same: are two lists the same?
-/
import Derived.Test.YtboeodcjcbgeaaaColl
import Derived.BigQuiet
namespace Go.Proofs.Ytboeodcjcbgeaaa
open Go.RowKit
set_option linter.unusedVariables false
set_option linter.unusedSimpArgs false

/-- A slice with the address a and l.length elements reads as the times l; it lies below block number B. -/
structure Ts (B : Nat) (w : World) (a : Option Addr) (l : List T) : Prop where
  range : ∀ x ∈ l, RT x
  cells : l ≠ [] → ∃ b off, a = some ⟨b, off, none⟩ ∧ b < B ∧ ∀ i, i < l.length → w.cell? ⟨b, off + i * 2, none⟩ = some (.int .i64 (l.getD i (0, 0)).1) ∧ w.cell? ⟨b, off + i * 2 + 1, none⟩ = some (.int .i64 (l.getD i (0, 0)).2)

set_option maxRecDepth 100000 in
theorem Ts.nil (B : Nat) (w : World) (a : Option Addr) : Ts B w a [] := ⟨fun z h => (by simp at h), fun h => absurd rfl h⟩

set_option maxRecDepth 100000 in
theorem Ts.keep {B : Nat} {w w' : World} {a : Option Addr} {l : List T} (h : Ts B w a l) (hb : Below B w w') : Ts B w' a l := by
  refine ⟨h.range, fun hl => ?_⟩
  obtain ⟨b, off, e, hlt, hc⟩ := h.cells hl
  exact ⟨b, off, e, hlt, fun i hi => ⟨(hb.cell (p := ⟨b, off + i * 2, none⟩) hlt).trans (hc i hi).1, (hb.cell (p := ⟨b, off + i * 2 + 1, none⟩) hlt).trans (hc i hi).2⟩⟩

set_option maxRecDepth 100000 in
theorem Ts.mono {B B' : Nat} {w : World} {a : Option Addr} {l : List T} (h : Ts B w a l) (hB : B ≤ B') : Ts B' w a l := by
  refine ⟨h.range, fun hl => ?_⟩
  obtain ⟨b, off, e, hlt, hc⟩ := h.cells hl
  exact ⟨b, off, e, by omega, hc⟩

set_option maxRecDepth 100000 in
theorem Ts.on {w w' : World} {a : Option Addr} {l : List T} (h : Ts w.heap.size w a l) (hb : Below w.heap.size w w') : Ts w'.heap.size w' a l := (h.keep hb).mono hb.size

set_option maxRecDepth 100000 in
theorem Ts.gr {w w' : World} {a : Option Addr} {l : List T} (h : Ts w.heap.size w a l) (hb : Gr w w') : Ts w'.heap.size w' a l := h.on hb.below

set_option maxRecDepth 100000 in
theorem flat_get (l : List T) : ∀ i, i < l.length → (flat l)[i * 2]? = some (.int .i64 (l.getD i (0, 0)).1) ∧ (flat l)[i * 2 + 1]? = some (.int .i64 (l.getD i (0, 0)).2) := by
  induction l with
  | nil => intro i h; simp at h
  | cons x l ih =>
    intro i hi
    cases i with
    | zero => simp [flat]
    | succ i =>
      have := ih i (by simpa using hi)
      simp only [flat, List.flatMap_cons] at this ⊢
      rw [show (i + 1) * 2 = i * 2 + 1 + 1 by omega]
      simpa using this

set_option maxRecDepth 100000 in
/-- What a call owns reads as times. -/
theorem Ts.of_owns {base e : Nat} {w : World} {v : Value} {l : List T} (h : w.ownsRow base e 2 v l.length (flat l)) (hr : ∀ x ∈ l, RT x) : ∃ a c, v = .slice a l.length c ∧ l.length ≤ c ∧ Ts w.heap.size w a l := by
  have hh := h
  obtain ⟨h1, ⟨rfl, h0⟩ | ⟨g, cap, cur, rfl, hg, hcur, hle, hm, hs, ht⟩⟩ := h
  · exact ⟨none, 0, by rw [h0], by omega, hr, fun hl => absurd (List.length_eq_zero_iff.1 h0) hl⟩
  · refine ⟨_, _, rfl, hle, hr, fun hl => ⟨g, 0, rfl, (hh.lt g rfl).2, fun i hi => ?_⟩⟩
    have := flat_get l i hi
    rw [Nat.zero_add, hh.cellAt (i * 2) (by omega), hh.cellAt (i * 2 + 1) (by omega)]
    exact this

set_option maxRecDepth 100000 in
/-- A part of times. -/
theorem Ts.part {B : Nat} {w : World} {b off : Nat} {l : List T} (h : Ts B w (some ⟨b, off, none⟩) l) (i n : Nat) : Ts B w (some ⟨b, off + i * 2, none⟩) ((l.drop i).take n) := by
  refine ⟨fun z hz => h.range z (List.mem_of_mem_drop (List.mem_of_mem_take hz)), fun hl => ?_⟩
  have hne : l ≠ [] := by rintro rfl; simp at hl
  obtain ⟨b', off', e, hB, hc⟩ := h.cells hne
  cases e
  refine ⟨b, off + i * 2, rfl, hB, fun j hj => ?_⟩
  rw [List.length_take, List.length_drop] at hj
  have := hc (i + j) (by omega)
  rw [show off + i * 2 + j * 2 = off + (i + j) * 2 by omega, this.1, this.2]
  simp [List.getD, List.getElem?_take_of_lt (show j < n by omega)]

set_option maxRecDepth 100000 in
theorem take_step {l r : List T} {j : Nat} (h : l.take j = r.take j) (hl : j < l.length) (hr : j < r.length) (he : l.getD j (0, 0) = r.getD j (0, 0)) : l.take (j + 1) = r.take (j + 1) := by
  simp [List.getD, List.getElem?_eq_getElem hl, List.getElem?_eq_getElem hr] at he
  rw [List.take_add_one, List.take_add_one, h, List.getElem?_eq_getElem hl, List.getElem?_eq_getElem hr, he]

set_option maxRecDepth 100000 in
set_option maxHeartbeats 2000000 in
theorem same_any (w : World) (a b : Option Addr) (ca cb : Nat) (l r : List T) (ha : Ts w.heap.size w a l) (hb : Ts w.heap.size w b r) (hl : l.length < 4611686018427387904) (hr : r.length < 4611686018427387904) :
    Calls Try.prog 16 #[.slice a l.length ca, .slice b r.length cb] w fun e w' => e = .returned (.bool (decide (l = r))) ∧ Gr w w' := by
  by_cases hlen : l.length = r.length
  · generalize hd : decide (l = r) = d
    have HD := hid' hd
    clear hd
    obtain ⟨n, hn⟩ : ∃ n, l.length = n := ⟨_, rfl⟩
    rw [← hlen, hn]
    rw [hn] at hl hlen
    have HL := hid' hn
    have HR := hid' hlen
    clear hn hlen
    go_enter Try.func16, Try.ntmps16
    go_wp2
    go_loopg [5] n (fun k i wr => ∃ j : Nat, j + k = n ∧ i = .int .i64 (j : Int) ∧ l.take j = r.take j ∧ Gr w wr)
    case atStart => exact ⟨0, by omega, rfl, by simp, Gr.refl _⟩
    case round =>
      obtain ⟨j, hj, rfl, ht, hg⟩ := hrel
      have HT := hid' ht
      clear ht
      cases gk with
      | zero =>
        obtain rfl : j = n := by omega
        have hlr : Hid (l = r) := by
          have h := HT.out
          rw [List.take_of_length_le (Nat.le_of_eq HL.out), List.take_of_length_le (Nat.le_of_eq HR.out.symm)] at h
          exact h
        go_wp2
        go_ret
        refine ⟨congrArg (fun z => Ending.returned (Value.bool z)) ?_, hg⟩
        rw [← HD.out, hlr.out]; simp
      | succ k =>
        have hjl : j < l.length := by rw [HL.out]; omega
        have hjr : j < r.length := by rw [← HR.out]; omega
        obtain ⟨b1, o1, rfl, hB1, hc1⟩ := ha.cells (by rintro rfl; simp at hjl)
        obtain ⟨b2, o2, rfl, hB2, hc2⟩ := hb.cells (by rintro rfl; simp at hjr)
        have p1 := (hg.below.cell (p := ⟨b1, o1 + j * 2, none⟩) hB1).trans (hc1 j hjl).1
        have p2 := (hg.below.cell (p := ⟨b1, o1 + j * 2 + 1, none⟩) hB1).trans (hc1 j hjl).2
        have q1 := (hg.below.cell (p := ⟨b2, o2 + j * 2, none⟩) hB2).trans (hc2 j hjr).1
        have q2 := (hg.below.cell (p := ⟨b2, o2 + j * 2 + 1, none⟩) hB2).trans (hc2 j hjr).2
        have HS := hid' (fun he => take_step HT.out hjl hjr he)
        have HE := hid' (show l = r → l.getD j (0, 0) = r.getD j (0, 0) from fun h => by rw [h])
        generalize l.getD j (0, 0) = x at p1 p2 HS HE
        generalize r.getD j (0, 0) = y at q1 q2 HS HE
        obtain ⟨x1, x2⟩ := x
        obtain ⟨y1, y2⟩ := y
        clear hc1 hc2 ha hb hjl hjr
        by_cases e1 : x1 = y1
        · subst e1
          by_cases e2 : x2 = y2
          · subst e2
            go_wp2_with fail
            go_quiet (fail)
            go_wp2
            go_roundg k
            case measure => omega
            case rel => exact ⟨j + 1, by omega, by simp, (by first | exact HS.out rfl | exact HS.out trivial), hg.drewN _⟩
          · go_wp2_with fail
            go_quiet (fail)
            go_wp2
            go_ret
            refine ⟨congrArg (fun z => Ending.returned (Value.bool z)) ?_, hg.drewN _⟩
            rw [← HD.out]; simp; intro h; have := HE.out h; simp at this; exact e2 this
        · go_wp2_with fail
          go_quiet (fail)
          go_wp2
          go_ret
          refine ⟨congrArg (fun z => Ending.returned (Value.bool z)) ?_, hg.drewN _⟩
          rw [← HD.out]; simp; intro h; have := HE.out h; simp at this; exact e1 this.1
  · go_enter Try.func16, Try.ntmps16
    go_wp2
    go_ret
    exact ⟨by simp; intro h; exact hlen (by rw [h]), Gr.refl _⟩

end Go.Proofs.Ytboeodcjcbgeaaa
