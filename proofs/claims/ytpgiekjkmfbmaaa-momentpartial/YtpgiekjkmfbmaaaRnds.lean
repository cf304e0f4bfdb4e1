/-
  What is proved here: rows of numbers that a call owns: sorted and compacted from a place on; slices.BinarySearch of no number; ofOneEpoch.
-/
import Derived.Test.YtpgiekjkmfbmaaaStep
import Derived.Test.YtpgiekjkmfbmaaaUniq
import Derived.Test.YtpgiekjkmfbmaaaShelf
namespace Go.Proofs.Ytpgiekjkmfbmaaa
open Go.RowKit Go.Proofs
set_option linter.unusedVariables false
set_option linter.unusedSimpArgs false

/-- Numbers as cells. -/
def I64 (l : List Int) : List Value := l.map (Value.int .i64)

/-- Block g holds cap numbers, L ahead. -/
structure Rw (w : World) (g cap : Nat) (L : List Int) : Prop where
  row : ∃ cur, w.heap[g]? = some (.cells cur 3 (0, 0)) ∧ cur.size = cap ∧ cur.toList.take L.length = I64 L

theorem Rw.lt {w : World} {g cap : Nat} {L : List Int} (h : Rw w g cap L) : g < w.heap.size := by
  obtain ⟨cur, hc, _⟩ := h.row
  exact (Array.getElem?_eq_some_iff.1 hc).1

theorem Rw.cell {w : World} {g cap : Nat} {L : List Int} (h : Rw w g cap L) (i : Nat) (hi : i < L.length) : w.cell? ⟨g, i, none⟩ = some (.int .i64 (L.getD i 0)) ∧ w.frozen? ⟨g, i, none⟩ = false := by
  obtain ⟨cur, hc, hs, ht⟩ := h.row
  refine ⟨?_, by simp [World.frozen?, hc]⟩
  rw [cell_of_row _ _ _ _ _ _ hc, ← Array.getElem?_toList, ← List.getElem?_take_of_lt hi, ht]
  simp [I64, List.getD, List.getElem?_eq_getElem hi]

theorem Rw.holds {w : World} {g cap : Nat} {A Z : List Int} (h : Rw w g cap (A ++ Z)) : Sort.Holds (Value.int .i64) w g A.length Z.toArray := by
  intro j hj
  have hj' : j < Z.length := by simpa using hj
  have := h.cell (A.length + j) (by simp; omega)
  rw [this.1, this.2]
  refine ⟨?_, rfl⟩
  rw [getElem!_pos _ _ (by simpa using hj)]
  simp [List.getD, List.getElem?_append, hj']

theorem Rw.cut {w : World} {g cap : Nat} {A Z : List Int} (h : Rw w g cap (A ++ Z)) : Rw w g cap A := by
  obtain ⟨cur, hc, hs, ht⟩ := h.row
  refine ⟨cur, hc, hs, ?_⟩
  have := congrArg (List.take A.length) ht
  rw [List.take_take, List.length_append, Nat.min_eq_left (by omega)] at this
  rw [this]
  simp [I64]

theorem Rw.put {w : World} {g cap n : Nat} {A Z ts : List Int} {os : Array Obj} (h : Rw w g cap (A ++ Z)) (hl : ts.length = Z.length) (hcap : (A ++ Z).length ≤ cap) :
    Rw (Sort.grow (Sort.putRow (Value.int .i64) (Sort.ahead w n) g A.length ts.toArray) os) g cap (A ++ ts) := by
  obtain ⟨cur, hc, hs, ht⟩ := h.row
  have hg : g < w.heap.size := (Array.getElem?_eq_some_iff.1 hc).1
  refine ⟨Sort.putCells (Value.int .i64) A.length ts.toArray cur, ?_, by simp [Sort.putCells, hs], ?_⟩
  · rw [Sort.heap_grow_old _ _ (by simpa [Sort.putRow, Sort.mapBlock, Sort.ahead] using hg)]
    simp [Sort.putRow, Sort.mapBlock, Sort.ahead, Array.getElem?_modify, hc, Sort.onCells]
  · apply List.ext_getElem?
    intro j
    simp only [List.length_append] at hcap ⊢
    by_cases hj : j < A.length + ts.length
    · rw [List.getElem?_take_of_lt hj, Array.getElem?_toList]
      have hjc : j < cur.size := by omega
      have hold : cur[j]? = (I64 (A ++ Z))[j]? := by
        rw [← ht, List.getElem?_take_of_lt (by simp; omega), Array.getElem?_toList]
      by_cases hja : A.length ≤ j
      · simp [Sort.putCells, hjc, hja, hj, I64, List.getElem?_append, show ¬ j < A.length by omega, show j - A.length < ts.length by omega]
      · have hj2 : j < A.length := by omega
        rw [Array.getElem?_eq_getElem hjc] at hold
        simp [Sort.putCells, hjc, hja, I64, List.getElem?_append, hj2] at hold ⊢
        exact hold
    · rw [List.getElem?_take_eq_none (by omega), List.getElem?_eq_none (by simp [I64]; omega)]

theorem grownBy_put {w : World} {g n off : Nat} {os : Array Obj} (d : Array Int) : w.grownBy (Sort.grow (Sort.putRow (Value.int .i64) (Sort.ahead w n) g off d) os) (some g) := by
  refine ⟨rfl, rfl, rfl, by simp, fun k hk hne => ?_⟩
  rw [Sort.heap_grow_old _ _ (by simpa using hk)]
  have : g ≠ k := fun e => hne (by rw [e])
  simp [Sort.putRow, Sort.mapBlock, Sort.ahead, Array.getElem?_modify, this]

/-- slices.Sort of the numbers from a place on. -/
theorem sortI_any (w : World) (g cap c : Nat) (A Z : List Int) (h : Rw w g cap (A ++ Z)) (hcap : (A ++ Z).length ≤ cap) (hsz : Z.length < 4611686018427387904) :
    Calls Try.prog 29 #[.slice (some ⟨g, A.length, none⟩) Z.length c] w fun e w' => e = .returned (.tuple #[]) ∧ Rw w' g cap (A ++ srt Z) ∧ w.grownBy w' (some g) := by
  have hc : Calls Try.prog 29 #[.slice (some ⟨g, A.length, none⟩) Z.length c] w _ := AnyG.slices_Sort_int Try.sortI g A.length c Z w h.holds h.lt hsz
  refine hc.mono ?_
  rintro e w' ⟨rfl, n, os, rfl⟩
  exact ⟨rfl, h.put (srt_length Z) hcap, grownBy_put _⟩

/-- slices.Compact of the numbers from a place on. -/
theorem compactI_any (w : World) (g cap c : Nat) (A Z : List Int) (h : Rw w g cap (A ++ Z)) (hcap : (A ++ Z).length ≤ cap) (hsz : Z.length < 4611686018427387904) (hc : Z.length ≤ c) :
    Calls Try.prog 30 #[.slice (some ⟨g, A.length, none⟩) Z.length c] w fun e w' => e = .returned (.slice (some ⟨g, A.length, none⟩) (Lib.compact Z).length c) ∧ (Lib.compact Z).length ≤ Z.length ∧ Rw w' g cap (A ++ Lib.compact Z) ∧ w.grownBy w' (some g) := by
  have hcon : Calls Try.prog 30 #[.slice (some ⟨g, A.length, none⟩) Z.length c] w _ := AnyG.slices_Compact_int Try.compactI g A.length c Z w h.holds (by omega) hc
  refine hcon.mono ?_
  rintro e w' ⟨rfl, q, rfl⟩
  have hle : (Lib.compact Z).length ≤ Z.length := by unfold Lib.compact Lib.compactUpTo; rw [List.length_map]; exact Nat.le_trans (List.length_filter_le _ _) (by simp)
  have h2 := h.put (n := q) (os := #[]) (ts := Lib.compact Z ++ List.replicate (Z.length - (Lib.compact Z).length) 0) (by simp; omega) hcap
  rw [Sort.grow_empty, ← List.append_assoc] at h2
  have hg := grownBy_put (w := w) (g := g) (n := q) (off := A.length) (os := #[]) (Lib.compact Z ++ List.replicate (Z.length - (Lib.compact Z).length) 0).toArray
  rw [Sort.grow_empty] at hg
  exact ⟨rfl, hle, h2.cut, hg⟩

/-- slices.BinarySearch of numbers in strict order. -/
theorem searchI_any (w : World) (base : Nat) (v : Value) (L : List Int) (x : Int) (h : w.ownsRow base 3 1 v L.length (I64 L)) (hs : SI L) (hsz : L.length < 4611686018427387904) :
    Calls Try.prog 28 #[v, .int .i64 x] w fun e w' => ∃ b, e = .returned (.tuple #[.int .i64 (L.countP (· < x) : Nat), .bool b]) ∧ ∃ q, w' = w.drewN q := by
  rcases h.2 with ⟨rfl, h0⟩ | ⟨g, cap, cur, rfl, hg, hcur, hle, hm, hs2, ht⟩
  · have hl : L = [] := List.length_eq_zero_iff.1 h0
    subst hl
    go_enter Try.func28, Try.ntmps28
    go_wp2
    refine wp_loop_rounds 1 ?_
    rw [rounds_succ]
    go_wp2
    go_ret2
    exact ⟨_, rfl, 0, rfl⟩
  · have hrw : Rw w g cap L := ⟨cur, hcur, by omega, by rw [Nat.mul_one] at ht; exact ht⟩
    have hcon : Calls Try.prog 28 #[.slice (some ⟨g, 0, none⟩) L.length cap, .int .i64 x] w _ := AnyG.slices_BinarySearch_int Try.searchI g 0 L.length cap L x w (Nat.le_refl _) hsz (fun j hj => by rw [Nat.zero_add]; exact (hrw.cell j hj).1) (by rw [List.take_length]; exact List.Pairwise.imp (fun {a b} h => Int.le_of_lt h) hs)
    refine hcon.mono ?_
    rintro e w' ⟨rfl, q, rfl⟩
    rw [List.take_length]
    exact ⟨_, rfl, q, rfl⟩

set_option maxHeartbeats 2000000 in
theorem ofOneEpoch_any (w : World) (a : Option Addr) (cap : Nat) (l : List T) (h : Ts w.heap.size w a l) (hne : l ≠ []) (hl : l.length ≤ 1000000000) (hcap : l.length ≤ cap) :
    Calls Try.prog 27 #[.slice a l.length cap] w fun e w' => e = .returned (.slice a (pre l) cap) ∧ Gr w w' := by
  obtain ⟨b, off, rfl, hB, hc⟩ := h.cells hne
  have hpos : 0 < l.length := by cases l with | nil => exact absurd rfl hne | cons x l => simp
  obtain ⟨n, hn⟩ : ∃ n, l.length = n := ⟨_, rfl⟩
  have q0 := (hc 0 hpos).1
  have HP := hid' (fun j hj hp hs => pre_eq l j hj hp hs)
  have HC := hid' hc
  rw [hn] at hl hcap hpos ⊢
  have HN := hid' hn
  rw [hn] at HP HC
  generalize pre l = p at HP ⊢
  generalize hE : (l.getD 0 (0, 0)).1 = E0 at q0 HP
  clear hn h hne hc hE
  rw [Nat.zero_mul, Nat.add_zero] at q0
  go_enter Try.func27, Try.ntmps27
  go_wp2
  go_loopg [7] n (fun k i wr => ∃ j : Nat, j + k = n ∧ i = .int .i64 (j : Int) ∧ (∀ i, i < j → (l.getD i (0, 0)).1 = E0) ∧ Gr w wr)
  case atStart => exact ⟨0, by omega, rfl, fun i hi => by omega, Gr.refl _⟩
  case round =>
    obtain ⟨j, hj, rfl, hall, hg⟩ := hrel
    have HA := hid' hall
    clear hall
    cases gk with
    | zero =>
      obtain rfl : j = n := by omega
      have hp : Hid (p = j) := HP.out j (Nat.le_refl _) HA.out (.inl rfl)
      go_wp2
      go_ret
      rw [hp.out]
      exact ⟨rfl, hg⟩
    | succ k =>
      have hjn : j < n := by omega
      have p1 := (hg.below.cell (p := ⟨b, off + j * 2, none⟩) hB).trans (HC.out j hjn).1
      have p2 := (hg.below.cell (p := ⟨b, off + j * 2 + 1, none⟩) hB).trans (HC.out j hjn).2
      have q1 : (wr.alloc (.cells #[.int .i64 (l.getD j (0, 0)).1, .int .i64 (l.getD j (0, 0)).2] 23)).cell? ⟨b, off, none⟩ = some (.int .i64 E0) := ((hg.alloc _).below.cell (p := ⟨b, off, none⟩) hB).trans q0
      have HS := hid' (fun h => HP.out j (by omega) HA.out (.inr h))
      have HA2 : Hid ((l.getD j (0, 0)).1 = E0 → ∀ i, i < j + 1 → (l.getD i (0, 0)).1 = E0) := fun he i hi => by
        rcases Nat.lt_or_ge i j with h | h
        · exact HA.out i h
        · obtain rfl : i = j := by omega
          exact he
      generalize l.getD j (0, 0) = x at p1 p2 q1 HS HA2
      obtain ⟨x1, x2⟩ := x
      by_cases he : x1 = E0
      · subst he
        go_wp2_with fail
        go_quiet (fail)
        go_wp2
        go_roundg k
        case measure => omega
        case rel => exact ⟨j + 1, by omega, by simp, (by first | exact HA2.out rfl | exact HA2.out trivial), (hg.alloc _).drewN _⟩
      · have hp : Hid (p = j) := HS.out he
        go_wp2_with fail
        go_quiet (fail)
        go_wp2
        go_ret
        rw [hp.out]
        exact ⟨by simp, (hg.alloc _).drewN _⟩

end Go.Proofs.Ytpgiekjkmfbmaaa
