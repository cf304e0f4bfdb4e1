/-
  What is proved here: the law MomentCloses answers true at every list of times and every time.
-/
import Derived.Test.YtpgiekjkmfbmaaaSets
import Derived.Test.YtpgiekjkmfbmaaaClosesMath
namespace Go.Proofs.Ytpgiekjkmfbmaaa
open Go.RowKit Go.Proofs
set_option linter.unusedVariables false
set_option linter.unusedSimpArgs false

theorem lessEq_grown (x y : T) (w : World) (n : Nat) (os : Array Obj) : Calls Try.prog 9 #[.agg #[.int .i64 x.1, .int .i64 x.2], .agg #[.int .i64 y.1, .int .i64 y.2]] (Sort.grow (w.drewN n) os) fun e w' => e = .returned (.bool (le2 x y)) ∧ ∃ q os', w' = Sort.grow ((Sort.grow (w.drewN n) os).drewN q) os' :=
  (lessEq_any x y _).mono fun e w' ⟨he, hg⟩ => ⟨he, hg.grow⟩

theorem box_set {w : World} {b : Nat} {x1 x2 y1 y2 : Int} (h : w.heap[b]? = some (.cells #[.int .i64 x1, .int .i64 x2] 23 (0, 0))) :
    ((w.setCell ⟨b, 0, none⟩ (.int .i64 y1)).setCell ⟨b, 1, none⟩ (.int .i64 y2)).heap[b]? = some (.cells #[.int .i64 y1, .int .i64 y2] 23 (0, 0)) := by
  simp [World.setCell, Array.getElem?_modify, h]

set_option maxHeartbeats 1000000 in
theorem closes_walk (w : World) (a : Option Addr) (cap : Nat) (l : List T) (t1 t2 : Int) (h : Ts w.heap.size w a l) :
    Calls Try.prog 6 #[.slice a l.length cap, .agg #[.int .i64 t1, .int .i64 t2]] w fun e w' => e = .returned (.bool true) ∧ Below w.heap.size w w' := by
  have mixed : Try.prog.follows .mixedOrders = true := by kernel_rfl
  obtain ⟨n, hn⟩ : ∃ n, l.length = n := ⟨_, rfl⟩
  have HN := hid' hn
  have HTS := hid' h
  rw [hn]
  clear h hn
  by_cases hlen : 30 < n
  · go_enter Try.func6, Try.ntmps6
    go_wp2_with fail
    refine (live_any _).mono ?_
    rintro e w1 ⟨rfl, hb⟩
    go_wp2
    go_ret
    exact ⟨rfl, ((Below.refl _ w).alloc (Nat.le_refl _) _).trans (hb.mono (by simp))⟩
  · have hb0 : Below w.heap.size w (w.alloc (.cells #[.int .i64 t1, .int .i64 t2] 23)) := (Below.refl _ w).alloc (Nat.le_refl _) _
    have HC := hid' (closure_ts _ a cap l (HTS.out.on hb0) (by rw [HN.out]; omega))
    rw [HN.out] at HC
    go_enter Try.func6, Try.ntmps6
    go_wp2_with fail
    refine HC.out.mono ?_
    clear HC
    rintro e w1 ⟨a1, c1, c, rfl, hcl, hset, hts1, hb1⟩
    have hcl2 : n * n ≤ 30 * 30 := Nat.mul_le_mul (by omega) (by omega)
    have hcn : c.length ≤ 900 := by omega
    obtain ⟨m, hm⟩ : ∃ m, c.length = m := ⟨_, rfl⟩
    have HD := hid' (closure_ts w1 a1 c1 c hts1 (by omega))
    rw [hm] at HD hcn ⊢
    have HM := hid' hm
    have HSET := hid' hset
    have HT1 := hid' hts1
    clear hcl hcl2 hm hset hts1
    go_wp2_with fail
    refine HD.out.mono ?_
    clear HD
    rintro e w2 ⟨a2, c2, c', rfl, hcl', hset', hts2, hb2⟩
    have hmm : m * m ≤ 900 * 900 := Nat.mul_le_mul (by omega) (by omega)
    have HSA := hid' (same_true w2 a2 a1 c2 c1 c' c hts2 (HT1.out.on hb2) (hset'.eq HSET.out (fun x => joins_joins HSET.out.mem x)) (by omega))
    rw [HM.out] at HSA
    clear hcl' hmm hset' hts2
    go_wp2_with fail
    refine HSA.out.mono ?_
    clear HSA
    rintro e w3 ⟨rfl, hb3⟩
    have hb13 : Below w1.heap.size w1 w3 := hb2.trans (hb3.mono hb2.size)
    have hbx : Below (w.alloc (.cells #[.int .i64 t1, .int .i64 t2] 23)).heap.size (w.alloc (.cells #[.int .i64 t1, .int .i64 t2] 23)) w3 := hb1.trans (hb13.mono hb1.size)
    have hbw : Below w.heap.size w w3 := hb0.trans (hbx.mono (by simp))
    have hbs : w.heap.size < w3.heap.size := Nat.lt_of_lt_of_le (by simp) hbx.size
    have HX0 : Hid (w3.cell? ⟨w.heap.size, 0, none⟩ = some (.int .i64 t1)) := (hbx.cell (p := ⟨w.heap.size, 0, none⟩) (by simp)).trans (by rw [cell_of_row _ _ _ _ _ _ (World.alloc_heap_new w _)]; rfl)
    have HX1 : Hid (w3.cell? ⟨w.heap.size, 1, none⟩ = some (.int .i64 t2)) := (hbx.cell (p := ⟨w.heap.size, 1, none⟩) (by simp)).trans (by rw [cell_of_row _ _ _ _ _ _ (World.alloc_heap_new w _)]; rfl)
    have HT3 := hid' (HT1.out.on hb13)
    have HL3 := hid' (HTS.out.keep hbw)
    clear hb0 hb1 hb2 hb3 hb13 hbx HT1
    go_wp2
    go_loopg [7, 8] n (fun k v7 v8 wr => ∃ (i : Nat) (s : Bool) (j1 j2 : Int), i + k = n ∧ v7 = .bool s ∧ v8 = .int .i64 (i : Int) ∧ Some' (l.take i) (t1, t2) s (j1, j2) ∧ wr.heap[w3.heap.size]? = some (.cells #[.int .i64 j1, .int .i64 j2] 23 (0, 0)) ∧ Below w3.heap.size w3 wr)
    case atStart => exact ⟨0, false, 0, 0, by omega, rfl, rfl, by simpa using Some'.start (t1, t2), World.alloc_heap_new _ _, (Below.refl _ _).alloc (Nat.le_refl _) _⟩
    case round =>
      obtain ⟨i, s, j1, j2, hi, rfl, rfl, hsome, hbox, hbel⟩ := hrel
      have HSO := hid' hsome
      have HBX := hid' hbox
      have hbl : w3.heap.size < wr.heap.size := (Array.getElem?_eq_some_iff.1 hbox).1
      have hx0 : wr.cell? ⟨w.heap.size, 0, none⟩ = some (.int .i64 t1) := (hbel.cell (p := ⟨w.heap.size, 0, none⟩) hbs).trans HX0.out
      have hx1 : wr.cell? ⟨w.heap.size, 1, none⟩ = some (.int .i64 t2) := (hbel.cell (p := ⟨w.heap.size, 1, none⟩) hbs).trans HX1.out
      clear hsome hbox
      cases gk with
      | zero =>
        obtain rfl : i = n := by omega
        have HSO2 := hid' HSO.out
        rw [List.take_of_length_le (Nat.le_of_eq HN.out)] at HSO2
        have J0 : wr.cell? ⟨w3.heap.size, 0, none⟩ = some (.int .i64 j1) := by rw [cell_of_row _ _ _ _ _ _ HBX.out]; rfl
        have J1 : wr.cell? ⟨w3.heap.size, 1, none⟩ = some (.int .i64 j2) := by rw [cell_of_row _ _ _ _ _ _ HBX.out]; rfl
        have HTc := hid' (HT3.out.keep hbel)
        clear HSO HBX
        go_wp2
        go_loopg [9] m (fun k v wq => ∃ r : Nat, r + k = m ∧ v = .int .i64 (r : Int) ∧ (∀ q, q < r → c.getD q (0, 0) ≠ (j1, j2)) ∧ Gr wr wq)
        case atStart => exact ⟨0, by omega, rfl, fun q hq => by omega, Gr.refl _⟩
        case round =>
          obtain ⟨r, hr, rfl, hne, hgq⟩ := hrel
          have HNE := hid' hne
          have hall : Below w.heap.size w wr := hbw.trans ((hbel.trans (hgq.below.mono hbel.size)).mono hbw.size)
          have K0 := (hgq.below.cell (p := ⟨w3.heap.size, 0, none⟩) hbl).trans J0
          have K1 := (hgq.below.cell (p := ⟨w3.heap.size, 1, none⟩) hbl).trans J1
          have Y0 := (hgq.below.cell (p := ⟨w.heap.size, 0, none⟩) (show w.heap.size < _ by omega)).trans hx0
          have Y1 := (hgq.below.cell (p := ⟨w.heap.size, 1, none⟩) (show w.heap.size < _ by omega)).trans hx1
          clear hne
          cases gk with
          | zero =>
            obtain rfl : r = m := by omega
            cases s with
            | true =>
              exfalso
              have hj := (HSET.out.mem _).2 (HSO2.out.closed rfl).1
              obtain ⟨q, hq, hqe⟩ := List.mem_iff_getElem.1 hj
              refine HNE.out q (by rw [← HM.out]; exact hq) ?_
              simp [List.getD, List.getElem?_eq_getElem hq, hqe]
            | false =>
              go_wp2_with fail
              refine (live_any _).mono ?_
              rintro e w7 ⟨rfl, hb7⟩
              go_wp2
              go_ret
              exact ⟨rfl, hall.trans (hb7.mono hall.size)⟩
          | succ k =>
            have hrm : r < m := by omega
            have hrl : r < c.length := by rw [HM.out]; exact hrm
            obtain ⟨b, off, rfl, hB, hc⟩ := HTc.out.cells (by rintro rfl; simp at hrl)
            have p1 := (hgq.below.cell (p := ⟨b, off + r * 2, none⟩) (show b < _ by omega)).trans (hc r hrl).1
            have p2 := (hgq.below.cell (p := ⟨b, off + r * 2 + 1, none⟩) (show b < _ by omega)).trans (hc r hrl).2
            have HN2 : Hid (c.getD r (0, 0) ≠ (j1, j2) → ∀ q, q < r + 1 → c.getD q (0, 0) ≠ (j1, j2)) := fun hy q hq => by
              rcases Nat.lt_or_ge q r with h | h
              · exact HNE.out q h
              · obtain rfl : q = r := by omega
                exact hy
            generalize c.getD r (0, 0) = y at p1 p2 HN2
            obtain ⟨y1, y2⟩ := y
            clear hc hrl
            by_cases e1 : y1 = j1
            · by_cases e2 : y2 = j2
              · subst e1 e2
                have HL := hid' (fun W => lessEq_any (y1, y2) (t1, t2) W)
                obtain ⟨q, hq⟩ : ∃ q, le2 (y1, y2) (t1, t2) = q := ⟨_, rfl⟩
                rw [hq] at HL
                have HQ := hid' hq
                simp only at HL
                clear hq
                go_wp2_with fail
                go_quiet (fail)
                go_wp2_with fail
                refine (HL.out _).mono ?_
                rintro e w6 ⟨rfl, hg6⟩
                have hall6 : Below w.heap.size w w6 := (below_drewN hall nq).trans (hg6.below.mono hall.size)
                have hq : s = true → q = true := fun hs => by rw [← HQ.out]; exact (HSO2.out.closed hs).2
                cases s with
                | true =>
                  obtain rfl := hq rfl
                  go_wp2_with fail
                  refine (live_any _).mono ?_
                  rintro e w7 ⟨rfl, hb7⟩
                  go_wp2
                  go_ret
                  exact ⟨rfl, hall6.trans (hb7.mono hall6.size)⟩
                | false =>
                  clear hq
                  cases q with
                  | true =>
                    go_wp2_with fail
                    refine (live_any _).mono ?_
                    rintro e w7 ⟨rfl, hb7⟩
                    go_wp2
                    go_ret
                    exact ⟨rfl, hall6.trans (hb7.mono hall6.size)⟩
                  | false =>
                    go_wp2_with fail
                    refine (live_any _).mono ?_
                    rintro e w7 ⟨rfl, hb7⟩
                    go_wp2
                    go_ret
                    exact ⟨rfl, hall6.trans (hb7.mono hall6.size)⟩
              · subst e1
                have HN3 : Hid (∀ q, q < r + 1 → c.getD q (0, 0) ≠ (y1, j2)) := HN2.out (fun h => e2 (Prod.mk.inj h).2)
                go_wp2_with fail
                go_quiet (fail)
                go_wp2
                go_roundg k
                case measure => omega
                case rel => exact ⟨r + 1, by omega, by simp, HN3.out, hgq.drewN _⟩
            · have HN3 : Hid (∀ q, q < r + 1 → c.getD q (0, 0) ≠ (j1, j2)) := HN2.out (fun h => e1 (Prod.mk.inj h).1)
              go_wp2_with fail
              go_quiet (fail)
              go_wp2
              go_roundg k
              case measure => omega
              case rel => exact ⟨r + 1, by omega, by simp, HN3.out, hgq.drewN _⟩
      | succ k =>
        have hin : i < n := by omega
        have hil : i < l.length := by rw [HN.out]; exact hin
        obtain ⟨b, off, rfl, hB, hc⟩ := HL3.out.cells (by rintro rfl; simp at hil)
        have p1 := (hbel.cell (p := ⟨b, off + i * 2, none⟩) (show b < _ by omega)).trans (hc i hil).1
        have p2 := (hbel.cell (p := ⟨b, off + i * 2 + 1, none⟩) (show b < _ by omega)).trans (hc i hil).2
        have HTK := hid' (take_snoc l i (0, 0) hil)
        generalize l.getD i (0, 0) = y at p1 p2 HTK
        obtain ⟨y1, y2⟩ := y
        have C1 := fun n os => cell_grown (a := ⟨b, off + i * 2, none⟩) (show b < wr.heap.size by omega) p1 n os
        have C2 := fun n os => cell_grown (a := ⟨b, off + i * 2 + 1, none⟩) (show b < wr.heap.size by omega) p2 n os
        have X0 := fun n os => cell_grown (a := ⟨w.heap.size, 0, none⟩) (show w.heap.size < wr.heap.size by omega) hx0 n os
        have X1 := fun n os => cell_grown (a := ⟨w.heap.size, 1, none⟩) (show w.heap.size < wr.heap.size by omega) hx1 n os
        have HO := hid' (lessEq_grown (y1, y2) (t1, t2) wr)
        obtain ⟨q, hq⟩ : ∃ q, le2 (y1, y2) (t1, t2) = q := ⟨_, rfl⟩
        rw [hq] at HO
        have HQ := hid' hq
        simp only at HO
        clear hc hil hq hx0 hx1
        go_wp2_with fail
        go_quiet_grown (first | (go_at_call 9; exact Calls.grown_of (HO.out _ _)))
        have hgr : Gr wr (Sort.grow (wr.drewN nq) osq) := Gr.of_grow _ _ _
        have D1 := C1 nq osq
        have D2 := C2 nq osq
        generalize Sort.grow (wr.drewN nq) osq = w4 at hgr D1 D2 ⊢
        have hb4 : Below w3.heap.size w3 w4 := hbel.trans (hgr.below.mono hbel.size)
        have HBX4 : Hid (w4.heap[w3.heap.size]? = some (.cells #[.int .i64 j1, .int .i64 j2] 23 (0, 0))) := (hgr.below.block _ hbl).trans HBX.out
        have hbl4 : w3.heap.size < w4.heap.size := Nat.lt_of_lt_of_le hbl hgr.below.size
        clear C1 C2 X0 X1 HO p1 p2 hgr
        cases q with
        | false =>
          go_wp2
          go_roundg k
          case measure => omega
          case rel => exact ⟨i + 1, s, j1, j2, by omega, rfl, by simp, by rw [HTK.out]; exact HSO.out.skip HQ.out, HBX4.out, hb4⟩
        | true =>
          have J0 : w4.cell? ⟨w3.heap.size, 0, none⟩ = some (.int .i64 j1) := by rw [cell_of_row _ _ _ _ _ _ HBX4.out]; rfl
          have J1 : w4.cell? ⟨w3.heap.size, 1, none⟩ = some (.int .i64 j2) := by rw [cell_of_row _ _ _ _ _ _ HBX4.out]; rfl
          have F0 : w4.frozen? ⟨w3.heap.size, 0, none⟩ = false := by simp [World.frozen?, HBX4.out]
          have F1 : w4.frozen? ⟨w3.heap.size, 1, none⟩ = false := by simp [World.frozen?, HBX4.out]
          cases s with
          | false =>
            go_wp2
            go_roundg k
            case measure => omega
            case rel =>
              refine ⟨i + 1, true, y1, y2, by omega, rfl, by simp, by rw [HTK.out]; exact HSO.out.first HQ.out, ?_, (hb4.setCell (p := ⟨w3.heap.size, 0, none⟩) (Nat.le_refl _) _).setCell (p := ⟨w3.heap.size, 1, none⟩) (Nat.le_refl _) _⟩
              exact box_set HBX4.out
          | true =>
            have HJ := hid' (fun W => join_any (j1, j2) (y1, y2) W)
            obtain ⟨⟨z1, z2⟩, hz⟩ : ∃ z, joinT (j1, j2) (y1, y2) = z := ⟨_, rfl⟩
            rw [hz] at HJ
            have HZ := hid' hz
            simp only [tv] at HJ
            clear hz
            go_wp2_with fail
            go_region_with (go_at_call 11; refine (HJ.out _).mono ?_; rintro e w5 ⟨rfl, hg5⟩; have G0 := (hg5.below.cell (p := ⟨w3.heap.size, 0, none⟩) hbl4).trans J0; have G1 := (hg5.below.cell (p := ⟨w3.heap.size, 1, none⟩) hbl4).trans J1; have I0 := (hg5.below.frozen (p := ⟨w3.heap.size, 0, none⟩) hbl4).trans F0; have I1 := (hg5.below.frozen (p := ⟨w3.heap.size, 1, none⟩) hbl4).trans F1)
            all_goals (
              go_wp2
              go_roundg k
              case measure => omega
              case rel =>
                have hb5 : Below w3.heap.size w3 w5 := hb4.trans ((show Below w4.heap.size w4 w5 from ⟨hg5.below.os, hg5.below.tape, hg5.below.output, hg5.below.size, hg5.below.block⟩).mono (Nat.le_of_lt hbl4))
                refine ⟨i + 1, true, z1, z2, by omega, rfl, by simp, by rw [HTK.out, ← HZ.out]; exact HSO.out.more HQ.out, ?_, (hb5.setCell (p := ⟨w3.heap.size, 0, none⟩) (Nat.le_refl _) _).setCell (p := ⟨w3.heap.size, 1, none⟩) (Nat.le_refl _) _⟩
                exact box_set ((hg5.below.block _ hbl4).trans HBX4.out))

end Go.Proofs.Ytpgiekjkmfbmaaa
