/-
  What is proved here: slices of numbers in memory; Sum, Add, Dot of the program and of the document.
-/
import Derived.Test.YtpmlcpnnfllenaaMul
namespace Go.Proofs.Ytpmlcpnnfllenaa
open Go.RowKit
set_option linter.unusedVariables false
set_option linter.unusedSimpArgs false

/-- A slice with the address a and l.length elements reads as the numbers l; it lies below block number B. -/
structure Ns (B : Nat) (w : World) (a : Option Addr) (l : List Int) : Prop where
  range : ∀ x ∈ l, R64 x
  cells : l ≠ [] → ∃ b off, a = some ⟨b, off, none⟩ ∧ b < B ∧ ∀ i, i < l.length → w.cell? ⟨b, off + i, none⟩ = some (.int .i64 (l.getD i 0))

theorem Ns.nil (B : Nat) (w : World) (a : Option Addr) : Ns B w a [] := ⟨fun z h => (by simp at h), fun h => absurd rfl h⟩

theorem Ns.keep {B : Nat} {w w' : World} {a : Option Addr} {l : List Int} (h : Ns B w a l) (hb : Below B w w') : Ns B w' a l := by
  refine ⟨h.range, fun hl => ?_⟩
  obtain ⟨b, off, e, hlt, hc⟩ := h.cells hl
  exact ⟨b, off, e, hlt, fun i hi => (hb.cell (p := ⟨b, off + i, none⟩) hlt).trans (hc i hi)⟩

theorem Ns.mono {B B' : Nat} {w : World} {a : Option Addr} {l : List Int} (h : Ns B w a l) (hB : B ≤ B') : Ns B' w a l := by
  refine ⟨h.range, fun hl => ?_⟩
  obtain ⟨b, off, e, hlt, hc⟩ := h.cells hl
  exact ⟨b, off, e, by omega, hc⟩

theorem Ns.on {w w' : World} {a : Option Addr} {l : List Int} (h : Ns w.heap.size w a l) (hb : Below w.heap.size w w') : Ns w'.heap.size w' a l := (h.keep hb).mono hb.size

theorem Ns.gr {w w' : World} {a : Option Addr} {l : List Int} (h : Ns w.heap.size w a l) (hb : Gr w w') : Ns w'.heap.size w' a l := h.on hb.below

/-- All of them, added from the left. -/
def sumF : Int → List Int → Int × Int
  | s, [] => (s, 0)
  | s, x :: l => if R64 (s + x) then sumF (s + x) l else (0, 60)

theorem getD_mem {l : List Int} {j : Nat} (h : j < l.length) : l.getD j 0 ∈ l := by
  simp [List.getD, List.getElem?_eq_getElem h]

theorem drop_step {l : List Int} {j : Nat} (h : j < l.length) : l.drop j = l.getD j 0 :: l.drop (j + 1) := by
  rw [← List.getElem_cons_drop h]
  simp [List.getD, List.getElem?_eq_getElem h]

set_option maxHeartbeats 1000000 in
theorem total_any (w : World) (a : Option Addr) (cap : Nat) (l : List Int) (h : Ns w.heap.size w a l) (hl : l.length < 4611686018427387904) :
    Calls Try.prog 20 #[.slice a l.length cap] w fun e w' => e = .returned (pr (sumF 0 l)) ∧ Gr w w' := by
  generalize hR : sumF 0 l = R
  have HR := hid' hR
  obtain ⟨n, hn⟩ : ∃ n, l.length = n := ⟨_, rfl⟩
  have HN := hid' hn
  have HTS := hid' h
  rw [hn] at hl ⊢
  clear hn h hR
  go_enter Try.func20, Try.ntmps20
  go_wp2
  go_loopg [4, 10] n (fun k s i wr => ∃ (j : Nat) (t : Int), j + k = n ∧ i = .int .i64 (j : Int) ∧ s = .int .i64 t ∧ R64 t ∧ Hid (sumF t (l.drop j) = R) ∧ Gr w wr)
  case atStart => exact ⟨0, 0, by omega, rfl, rfl, ⟨by simp, by simp⟩, hid' (by simpa using HR.out), Gr.refl _⟩
  case round =>
    obtain ⟨j, t, hj, rfl, rfl, ht, hs, hg⟩ := hrel
    cases gk with
    | zero =>
      obtain rfl : j = n := by omega
      have HE : Hid ((t, (0 : Int)) = R) := by
        have := hs.out
        rw [List.drop_of_length_le (Nat.le_of_eq HN.out)] at this
        exact this
      clear hs
      go_wp2
      go_ret2
      exact ⟨by rw [← HE.out]; rfl, hg⟩
    | succ k =>
      have hjl : j < l.length := by rw [HN.out]; omega
      have HTR := hid' (HTS.out.gr hg)
      obtain ⟨b, off, rfl, hB, hc⟩ := HTR.out.cells (by rintro rfl; simp at hjl)
      have p1 := hc j hjl
      have hx := HTS.out.range _ (getD_mem hjl)
      have HX := hs
      rw [drop_step hjl] at HX
      generalize l.getD j 0 = x at p1 hx HX
      unfold sumF at HX
      clear hc hjl hs
      by_cases h : R64 (t + x)
      · rw [if_pos h] at HX
        unfold R64 at h ht hx
        by_cases hneg : x < 0
        · have hlt : t + x < t := by omega
          go_wp2
          go_roundg k
          case measure => omega
          case rel => exact ⟨j + 1, t + x, by omega, by simp, rfl, h, HX, hg⟩
        · have hlt : ¬ t + x < t := by omega
          go_wp2
          go_roundg k
          case measure => omega
          case rel => exact ⟨j + 1, t + x, by omega, by simp, rfl, h, HX, hg⟩
      · rw [if_neg h] at HX
        unfold R64 at h ht hx
        by_cases hneg : x < 0
        · have hw : wrap64 (t + x) = t + x + 18446744073709551616 := wrap_under (by omega) (by omega)
          have hlt : ¬ t + x + 18446744073709551616 < t := by omega
          go_wp2
          go_ret2
          exact ⟨by rw [← HX.out]; rfl, hg⟩
        · have hw : wrap64 (t + x) = t + x - 18446744073709551616 := wrap_over (by omega) (by omega)
          have hlt : t + x - 18446744073709551616 < t := by omega
          go_wp2
          go_ret2
          exact ⟨by rw [← HX.out]; rfl, hg⟩

/-- The numbers as cells. -/
def B64 (l : List Int) : List Value := l.map (Value.int .i64)

theorem ns_new (w : World) (l : List Int) (t : TypeId) (hr : ∀ x ∈ l, R64 x) : Ns (w.alloc (.cells (B64 l).toArray t)).heap.size (w.alloc (.cells (B64 l).toArray t)) (some ⟨w.heap.size, 0, none⟩) l := by
  refine ⟨hr, fun _ => ⟨w.heap.size, 0, rfl, by simp, fun i hi => ?_⟩⟩
  rw [cell_of_row _ _ _ _ _ _ (alloc_new w _)]
  simp [B64, List.getD, List.getElem?_eq_getElem hi]

theorem sum_two (a b : Int) (ha : R64 a) : sumF 0 [a, b] = fit (a + b) := by
  unfold sumF
  rw [Int.zero_add, if_pos ha]
  unfold sumF sumF fit
  rfl

set_option maxHeartbeats 1000000 in
theorem Add_any (a b : Int) (w : World) (ha : R64 a) (hb : R64 b) : Calls Try.prog 7 #[.int .i64 a, .int .i64 b] w fun e w' => e = .returned (pr (fit (a + b))) ∧ Gr w w' := by
  have HC := hid' (total_any _ _ 2 _ (ns_new w [a, b] 3 (fun x hx => by simp at hx; rcases hx with rfl | rfl <;> assumption)) (by simp))
  rw [sum_two a b ha] at HC
  generalize fit (a + b) = r at HC ⊢
  simp only [B64, List.map_cons, List.map_nil, List.length_cons, List.length_nil, Nat.zero_add, Nat.reduceAdd] at HC
  unfold pr at HC ⊢
  clear ha hb
  go_enter Try.func7, Try.ntmps7
  go_wp2_with fail
  refine HC.out.mono ?_
  rintro e w' ⟨rfl, g⟩
  go_wp2
  go_ret2
  exact ⟨rfl, ((Gr.refl w).alloc _).trans g⟩

set_option maxHeartbeats 1000000 in
theorem Sum_any (w : World) (a : Option Addr) (cap : Nat) (l : List Int) (h : Ns w.heap.size w a l) (hl : l.length < 4611686018427387904) :
    Calls Try.prog 16 #[.slice a l.length cap] w fun e w' => e = .returned (pr (sumF 0 l)) ∧ Gr w w' := by
  have HC := hid' (total_any w a cap l h hl)
  generalize sumF 0 l = r at HC ⊢
  generalize l.length = n at HC ⊢
  unfold pr at HC ⊢
  clear h hl
  go_enter Try.func16, Try.ntmps16
  go_wp2_with fail
  refine HC.out.mono ?_
  rintro e w' ⟨rfl, g⟩
  go_wp2
  go_ret2
  exact ⟨rfl, g⟩

set_option maxHeartbeats 1000000 in
theorem rSum_any (w : World) (a : Option Addr) (cap : Nat) (l : List Int) (h : Ns w.heap.size w a l) (hl : l.length < 4611686018427387904) :
    Calls Try.prog 17 #[.slice a l.length cap] w fun e w' => e = .returned (pr (sumF 0 l)) ∧ Gr w w' := by
  generalize hR : sumF 0 l = R
  have HR := hid' hR
  obtain ⟨n, hn⟩ : ∃ n, l.length = n := ⟨_, rfl⟩
  have HN := hid' hn
  have HTS := hid' h
  rw [hn] at hl ⊢
  clear hn h hR
  go_enter Try.func17, Try.ntmps17
  go_wp2
  go_loopg [4, 5] n (fun k s i wr => ∃ (j : Nat) (t : Int), j + k = n ∧ i = .int .i64 (j : Int) ∧ s = .int .i64 t ∧ Hid (R64 t) ∧ Hid (sumF t (l.drop j) = R) ∧ Gr w wr)
  case atStart => exact ⟨0, 0, by omega, rfl, rfl, hid' ⟨by simp, by simp⟩, hid' (by simpa using HR.out), Gr.refl _⟩
  case round =>
    obtain ⟨j, t, hj, rfl, rfl, ht, hs, hg⟩ := hrel
    cases gk with
    | zero =>
      obtain rfl : j = n := by omega
      have HE : Hid ((t, (0 : Int)) = R) := by
        have := hs.out
        rw [List.drop_of_length_le (Nat.le_of_eq HN.out)] at this
        exact this
      clear hs
      go_wp2
      go_ret2
      exact ⟨by rw [← HE.out]; rfl, hg⟩
    | succ k =>
      have hjl : j < l.length := by rw [HN.out]; omega
      have HTR := hid' (HTS.out.gr hg)
      obtain ⟨b, off, rfl, hB, hc⟩ := HTR.out.cells (by rintro rfl; simp at hjl)
      have p1 := hc j hjl
      have hx := HTS.out.range _ (getD_mem hjl)
      have HX := hs
      rw [drop_step hjl] at HX
      generalize l.getD j 0 = x at p1 hx HX
      unfold sumF at HX
      have HC := hid' (fun w => rAdd_any t x w ht.out hx)
      clear hc hjl hs hx
      by_cases h : R64 (t + x)
      · rw [if_pos h] at HX
        rw [fit_in h] at HC
        unfold pr at HC
        have HH := hid' h
        clear h
        go_wp2_with fail
        refine (HC.out _).mono ?_
        clear HC
        rintro e w2 ⟨rfl, hg2⟩
        go_wp2
        go_roundg k
        case measure => omega
        case rel => exact ⟨j + 1, t + x, by omega, by simp, rfl, HH, HX, hg.trans hg2⟩
      · rw [if_neg h] at HX
        rw [fit_out h] at HC
        unfold pr at HC
        clear h
        go_wp2_with fail
        refine (HC.out _).mono ?_
        clear HC
        rintro e w2 ⟨rfl, hg2⟩
        go_wp2
        go_ret2
        exact ⟨by rw [← HX.out]; rfl, hg.trans hg2⟩

/-- The sum of products, each reckoned when it is added. -/
def dotF : Int → List (Int × Int) → Int × Int
  | s, [] => (s, 0)
  | s, x :: l => if R64 (x.1 * x.2) then (if R64 (s + x.1 * x.2) then dotF (s + x.1 * x.2) l else (0, 60)) else (0, 60)

/-- What Dot answers. -/
def dotT (l r : List Int) : Int × Int := if l.length = r.length then dotF 0 (l.zip r) else (0, 1)

theorem zip_step {l r : List Int} {j : Nat} (h : j < l.length) (h' : j < r.length) : (l.zip r).drop j = (l.getD j 0, r.getD j 0) :: (l.zip r).drop (j + 1) := by
  have hz : j < (l.zip r).length := by rw [List.length_zip]; omega
  rw [← List.getElem_cons_drop hz]
  simp [List.getD, List.getElem?_eq_getElem h, List.getElem?_eq_getElem h']

set_option maxHeartbeats 1000000 in
theorem Dot_any (w : World) (a b : Option Addr) (ca cb : Nat) (l r : List Int) (h : Ns w.heap.size w a l) (h' : Ns w.heap.size w b r) (hl : l.length < 4611686018427387904) (hr : r.length < 4611686018427387904) :
    Calls Try.prog 18 #[.slice a l.length ca, .slice b r.length cb] w fun e w' => e = .returned (pr (dotT l r)) ∧ Gr w w' := by
  by_cases hlen : l.length = r.length
  · generalize hR : dotT l r = R
    have HR : Hid (dotF 0 (l.zip r) = R) := hid' (by rw [← hR]; unfold dotT; rw [if_pos hlen])
    obtain ⟨n, hn⟩ : ∃ n, l.length = n := ⟨_, rfl⟩
    have HN := hid' hn
    have HM := hid' (hlen.symm.trans hn)
    have HTS := hid' h
    have HTS' := hid' h'
    rw [HM.out, HN.out]
    rw [hn] at hl
    clear hn h hR h' hlen hr
    go_enter Try.func18, Try.ntmps18
    go_wp2
    go_loopg [6, 18] n (fun k s i wr => ∃ (j : Nat) (t : Int), j + k = n ∧ i = .int .i64 (j : Int) ∧ s = .int .i64 t ∧ Hid (R64 t) ∧ Hid (dotF t ((l.zip r).drop j) = R) ∧ Gr w wr)
    case atStart => exact ⟨0, 0, by omega, rfl, rfl, hid' ⟨by simp, by simp⟩, hid' (by simpa using HR.out), Gr.refl _⟩
    case round =>
      obtain ⟨j, t, hj, rfl, rfl, ht, hs, hg⟩ := hrel
      cases gk with
      | zero =>
        obtain rfl : j = n := by omega
        have HE : Hid ((t, (0 : Int)) = R) := by
          have := hs.out
          rw [List.drop_of_length_le (by rw [List.length_zip, HN.out, HM.out]; omega)] at this
          exact this
        clear hs
        go_wp2
        go_ret2
        exact ⟨by rw [← HE.out]; rfl, hg⟩
      | succ k =>
        have hjl : j < l.length := by rw [HN.out]; omega
        have hjr : j < r.length := by rw [HM.out]; omega
        obtain ⟨b1, o1, rfl, hB1, hc1⟩ := (HTS.out.gr hg).cells (by rintro rfl; simp at hjl)
        obtain ⟨b2, o2, rfl, hB2, hc2⟩ := (HTS'.out.gr hg).cells (by rintro rfl; simp at hjr)
        have p1 := hc1 j hjl
        have p2 := hc2 j hjr
        have hx := HTS.out.range _ (getD_mem hjl)
        have hy := HTS'.out.range _ (getD_mem hjr)
        have HX := hs
        rw [zip_step hjl hjr] at HX
        generalize l.getD j 0 = x at p1 hx HX
        generalize r.getD j 0 = y at p2 hy HX
        unfold dotF at HX
        simp only at HX
        have HC := hid' (fun w => Mul_any x y w hx hy)
        clear hc1 hc2 hjl hjr hs hx hy
        generalize x * y = z at HX HC
        by_cases hz : R64 z
        · rw [if_pos hz] at HX
          rw [fit_in hz] at HC
          have HA := hid' (fun w => Add_any t z w ht.out hz)
          clear hz
          unfold pr at HC HA
          by_cases h : R64 (t + z)
          · rw [if_pos h] at HX
            rw [fit_in h] at HA
            have HH := hid' h
            clear h
            go_wp2_with fail
            refine (HC.out _).mono ?_
            clear HC
            rintro e w2 ⟨rfl, rfl⟩
            go_wp2_with fail
            refine (HA.out _).mono ?_
            clear HA
            rintro e w3 ⟨rfl, hg2⟩
            go_wp2
            go_roundg k
            case measure => omega
            case rel => exact ⟨j + 1, t + z, by omega, by simp, rfl, HH, HX, hg.trans hg2⟩
          · rw [if_neg h] at HX
            rw [fit_out h] at HA
            clear h
            go_wp2_with fail
            refine (HC.out _).mono ?_
            clear HC
            rintro e w2 ⟨rfl, rfl⟩
            go_wp2_with fail
            refine (HA.out _).mono ?_
            clear HA
            rintro e w3 ⟨rfl, hg2⟩
            go_wp2
            go_ret2
            exact ⟨by rw [← HX.out]; rfl, hg.trans hg2⟩
        · rw [if_neg hz] at HX
          rw [fit_out hz] at HC
          clear hz
          unfold pr at HC
          go_wp2_with fail
          refine (HC.out _).mono ?_
          clear HC
          rintro e w2 ⟨rfl, rfl⟩
          go_wp2
          go_ret2
          exact ⟨by rw [← HX.out]; rfl, hg⟩
  · have HR : Hid ((0, 1) = dotT l r) := hid' (by unfold dotT; rw [if_neg hlen])
    generalize dotT l r = R at HR
    generalize l.length = n at hl hlen
    generalize r.length = m at hr hlen
    have hne : ((n : Int) == (m : Int)) = false := by simp; omega
    go_enter Try.func18, Try.ntmps18
    go_wp2
    go_ret2
    exact ⟨by rw [← HR.out]; rfl, Gr.refl w⟩

end Go.Proofs.Ytpmlcpnnfllenaa
