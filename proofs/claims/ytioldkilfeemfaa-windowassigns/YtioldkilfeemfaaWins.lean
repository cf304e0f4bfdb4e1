/-
  What is proved here: slices of numbers in memory; the law's same; which windows there are.
-/
import Derived.Test.YtioldkilfeemfaaBase
namespace Go.Proofs.Ytioldkilfeemfaa
open Go.RowKit
set_option linter.unusedVariables false
set_option linter.unusedSimpArgs false

/-- A slice with the address a and l.length elements reads as the numbers l; it lies below block number B. -/
structure Ns (B : Nat) (w : World) (a : Option Addr) (l : List Int) : Prop where
  cells : l ≠ [] → ∃ b off, a = some ⟨b, off, none⟩ ∧ b < B ∧ ∀ i, i < l.length → w.cell? ⟨b, off + i, none⟩ = some (.int .i64 (l.getD i 0))

theorem Ns.nil (B : Nat) (w : World) (a : Option Addr) : Ns B w a [] := ⟨fun h => absurd rfl h⟩

theorem Ns.keep {B : Nat} {w w' : World} {a : Option Addr} {l : List Int} (h : Ns B w a l) (hb : Below B w w') : Ns B w' a l := by
  refine ⟨fun hl => ?_⟩
  obtain ⟨b, off, e, hlt, hc⟩ := h.cells hl
  exact ⟨b, off, e, hlt, fun i hi => (hb.cell (p := ⟨b, off + i, none⟩) hlt).trans (hc i hi)⟩

theorem Ns.mono {B B' : Nat} {w : World} {a : Option Addr} {l : List Int} (h : Ns B w a l) (hB : B ≤ B') : Ns B' w a l := by
  refine ⟨fun hl => ?_⟩
  obtain ⟨b, off, e, hlt, hc⟩ := h.cells hl
  exact ⟨b, off, e, by omega, hc⟩

theorem Ns.on {w w' : World} {a : Option Addr} {l : List Int} (h : Ns w.heap.size w a l) (hb : Below w.heap.size w w') : Ns w'.heap.size w' a l := (h.keep hb).mono hb.size

theorem Ns.gr {w w' : World} {a : Option Addr} {l : List Int} (h : Ns w.heap.size w a l) (hb : Gr w w') : Ns w'.heap.size w' a l := h.on hb.below

/-- The numbers as cells. -/
def B64 (l : List Int) : List Value := l.map (Value.int .i64)

theorem B64_get (l : List Int) (i : Nat) (h : i < l.length) : (B64 l)[i]? = some (.int .i64 (l.getD i 0)) := by
  simp [B64, List.getD, List.getElem?_eq_getElem h]

/-- What a call owns reads as numbers. -/
theorem Ns.of_owns {base e : Nat} {w : World} {v : Value} {l : List Int} (h : w.ownsRow base e 1 v l.length (B64 l)) : ∃ a c, v = .slice a l.length c ∧ l.length ≤ c ∧ Ns w.heap.size w a l := by
  have hh := h
  obtain ⟨h1, ⟨rfl, h0⟩ | ⟨g, cap, cur, rfl, hg, hcur, hle, hm, hs, ht⟩⟩ := h
  · exact ⟨none, 0, by rw [h0], by omega, ⟨fun hl => absurd (List.length_eq_zero_iff.1 h0) hl⟩⟩
  · refine ⟨_, _, rfl, hle, ⟨fun hl => ⟨g, 0, rfl, (hh.lt g rfl).2, fun i hi => ?_⟩⟩⟩
    rw [Nat.zero_add, hh.cellAt i (by omega)]
    exact B64_get l i hi

theorem take_step {l r : List Int} {j : Nat} (h : l.take j = r.take j) (hl : j < l.length) (hr : j < r.length) (he : l.getD j 0 = r.getD j 0) : l.take (j + 1) = r.take (j + 1) := by
  simp [List.getD, List.getElem?_eq_getElem hl, List.getElem?_eq_getElem hr] at he
  rw [List.take_add_one, List.take_add_one, h, List.getElem?_eq_getElem hl, List.getElem?_eq_getElem hr, he]

set_option maxHeartbeats 2000000 in
theorem same_any (w : World) (a b : Option Addr) (ca cb : Nat) (l r : List Int) (ha : Ns w.heap.size w a l) (hb : Ns w.heap.size w b r) (hl : l.length < 4611686018427387904) (hr : r.length < 4611686018427387904) :
    Calls Try.prog 10 #[.slice a l.length ca, .slice b r.length cb] w fun e w' => e = .returned (.bool (decide (l = r))) ∧ Gr w w' := by
  by_cases hlen : l.length = r.length
  · generalize hd : decide (l = r) = d
    have HD := hid' hd
    clear hd
    obtain ⟨n, hn⟩ : ∃ n, l.length = n := ⟨_, rfl⟩
    rw [← hlen, hn]
    rw [hn] at hl hlen
    have HL := hid' hn
    have HR := hid' hlen
    clear hn hlen
    go_enter Try.func10, Try.ntmps10
    go_wp2
    go_loopg [5] n (fun k i wr => ∃ j : Nat, j + k = n ∧ i = .int .i64 (j : Int) ∧ l.take j = r.take j ∧ Gr w wr)
    case atStart => exact ⟨0, by omega, rfl, by simp, Gr.refl _⟩
    case round =>
      obtain ⟨j, hj, rfl, ht, hg⟩ := hrel
      have HT := hid' ht
      clear ht
      cases gk with
      | zero =>
        obtain rfl : j = n := by omega
        have hlr : Hid (l = r) := by
          have h := HT.out
          rw [List.take_of_length_le (Nat.le_of_eq HL.out), List.take_of_length_le (Nat.le_of_eq HR.out.symm)] at h
          exact h
        go_wp2
        go_ret
        refine ⟨congrArg (fun z => Ending.returned (Value.bool z)) ?_, hg⟩
        rw [← HD.out, hlr.out]; simp
      | succ k =>
        have hjl : j < l.length := by rw [HL.out]; omega
        have hjr : j < r.length := by rw [← HR.out]; omega
        obtain ⟨b1, o1, rfl, hB1, hc1⟩ := ha.cells (by rintro rfl; simp at hjl)
        obtain ⟨b2, o2, rfl, hB2, hc2⟩ := hb.cells (by rintro rfl; simp at hjr)
        have p1 := (hg.below.cell (p := ⟨b1, o1 + j, none⟩) hB1).trans (hc1 j hjl)
        have q1 := (hg.below.cell (p := ⟨b2, o2 + j, none⟩) hB2).trans (hc2 j hjr)
        have HS := hid' (fun he => take_step HT.out hjl hjr he)
        have HE := hid' (show l = r → l.getD j 0 = r.getD j 0 from fun h => by rw [h])
        generalize l.getD j 0 = x at p1 HS HE
        generalize r.getD j 0 = y at q1 HS HE
        clear hc1 hc2 ha hb hjl hjr
        by_cases e1 : x = y
        · subst e1
          go_wp2_with fail
          go_quiet (fail)
          go_wp2
          go_roundg k
          case measure => omega
          case rel => exact ⟨j + 1, by omega, by simp, (by first | exact HS.out rfl | exact HS.out trivial), hg.drewN _⟩
        · go_wp2_with fail
          go_quiet (fail)
          go_wp2
          go_ret
          refine ⟨congrArg (fun z => Ending.returned (Value.bool z)) ?_, hg.drewN _⟩
          rw [← HD.out]; simp; intro h; exact e1 (HE.out h)
  · go_enter Try.func10, Try.ntmps10
    go_wp2
    go_ret
    exact ⟨by simp; intro h; exact hlen (by rw [h]), Gr.refl _⟩

/-- n windows, from the multiple number p on. -/
def wins (p s : Int) (n : Nat) : List Int := (List.range n).map fun (i : Nat) => (p + (i : Int)) * s

theorem wins_length (p s : Int) (n : Nat) : (wins p s n).length = n := by simp [wins]

theorem wins_succ (p s : Int) (n : Nat) : wins p s (n + 1) = wins p s n ++ [(p + (n : Int)) * s] := by
  unfold wins; rw [List.range_succ, List.map_append]; rfl

theorem wins_get (p s : Int) (n i : Nat) (h : i < n) : (wins p s n).getD i 0 = (p + (i : Int)) * s := by
  unfold wins; simp [List.getD, List.getElem?_range h]

/-- The number of the first window. -/
def firstOf (v size s : Int) : Int := (v - size) / s + 1
/-- How many windows there are. -/
def manyOf (v size s : Int) : Nat := (v / s - (v - size) / s).toNat

/-- What Buckets answers. -/
def bkT (v size s : Int) : List Int × Int := if chkT size s = 0 then (if Point v then (wins (firstOf v size s) s (manyOf v size s), 0) else ([], 60)) else ([], chkT size s)

theorem chk_ok {size s : Int} (h : chkT size s = 0) : Span size ∧ Span s ∧ size ≤ 64 * s := by
  unfold chkT at h
  by_cases h1 : Span size ∧ Span s
  · rw [if_pos h1] at h
    by_cases h2 : size ≤ 64 * s
    · exact ⟨h1.1, h1.2, h2⟩
    · rw [if_neg h2] at h; simp at h
  · rw [if_neg h1] at h; simp at h

structure Ways (v size s p q : Int) (n : Nat) : Prop where
  many : n ≤ 64
  sum : p + (n : Int) = q + 1
  holds : ∀ j : Nat, j < n → (p + (j : Int)) * s ≤ v ∧ v ≤ (p + (j : Int)) * s + size - 1
  behind : v < (p + (n : Int)) * s
  range : ∀ j : Nat, j ≤ n → -2305843009213693952 ≤ (p + (j : Int)) * s ∧ (p + (j : Int)) * s ≤ 2305843009213693952
  ahead : (p - 1) * s ≤ v - size

theorem ways {v size s : Int} (hz : Span size) (hs : Span s) (hm : size ≤ 64 * s) (hv : Point v) : Ways v size s (firstOf v size s) (v / s) (manyOf v size s) := by
  unfold firstOf manyOf
  unfold Span Point at *
  have a1 := Int.emod_nonneg v (show s ≠ 0 by omega)
  have a2 := Int.emod_lt_of_pos v (show 0 < s by omega)
  have a3 := floor_eq v s
  have b1 := Int.emod_nonneg (v - size) (show s ≠ 0 by omega)
  have b2 := Int.emod_lt_of_pos (v - size) (show 0 < s by omega)
  have b3 := floor_eq (v - size) s
  have hle : (v - size) / s ≤ v / s := Int.ediv_le_ediv (by omega) (by omega)
  have h64 : v / s - 64 ≤ (v - size) / s := by
    have : v / s - 64 = (v + (-64) * s) / s := by
      rw [Int.add_mul_ediv_right _ _ (by omega)]; omega
    rw [this]
    exact Int.ediv_le_ediv (by omega) (by omega)
  generalize v / s = q at *
  generalize (v - size) / s = p at *
  generalize v % s = r at *
  generalize (v - size) % s = t at *
  obtain ⟨n, hn⟩ : ∃ n : Nat, q - p = (n : Int) := ⟨(q - p).toNat, by omega⟩
  rw [hn, Int.toNat_natCast]
  have up : ∀ j : Nat, j ≤ n → (p + 1) * s ≤ (p + 1 + (j : Int)) * s ∧ (p + 1 + (j : Int)) * s ≤ (q + 1) * s := fun j hj =>
    ⟨Int.mul_le_mul_of_nonneg_right (by omega) (by omega), Int.mul_le_mul_of_nonneg_right (by omega) (by omega)⟩
  have e1 : (p + 1) * s = p * s + s := by rw [Int.add_mul, Int.one_mul]
  have e2 : (q + 1) * s = q * s + s := by rw [Int.add_mul, Int.one_mul]
  refine ⟨by omega, by omega, fun j hj => ?_, ?_, fun j hj => ?_, ?_⟩
  · have h1 := (up j (by omega)).1
    have h2 : (p + 1 + (j : Int)) * s ≤ q * s := Int.mul_le_mul_of_nonneg_right (by omega) (by omega)
    omega
  · rw [show p + 1 + (n : Int) = q + 1 by omega]
    omega
  · have := up j hj
    omega
  · rw [show p + 1 - 1 = p by omega]
    omega

end Go.Proofs.Ytioldkilfeemfaa
