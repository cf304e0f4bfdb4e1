/-
  What is proved here: the document's Get where the byte 3 stands.
-/
import Derived.Test.YtgalmkhgbokidaaWVa
namespace Go.Proofs.Ytgalmkhgbokidaa
open Go.RowKit Go.Proofs
set_option maxRecDepth 20000
set_option linter.unusedVariables false
set_option linter.unusedSimpArgs false

set_option maxHeartbeats 8000000 in
theorem rGet3 (w : World) (ba : Option Addr) (cap : Nat) (l : List Int) (at0 : Nat) (hb : Bts w.heap.size w ba l) (hlt : at0 < l.length) (hd : l.getD at0 0 = 3) (hc : l.length ≤ cap) (hl : l.length ≤ 1000000000) :
    Calls Try.prog 19 #[.slice ba l.length cap, .int .i64 (at0 : Int)] w (GAns cmdB Nice RepC c0 l (at0 : Int) w) := by
  have hat : at0 ≤ l.length := by omega
  obtain ⟨b, off, hba, hcell, _, _⟩ := hb.byte hlt
  rw [hd] at hcell
  have hbl : b < w.heap.size := by
    obtain ⟨b', off', e', hb', _⟩ := hb.cells (by rintro rfl; simp at hlt)
    rw [hba] at e'; cases e'; exact hb'
  have hcell0 : (w.alloc (.cells (cmA c0 s0) 31)).cell? ⟨b, off + at0, none⟩ = some (.int .u8 3) := (((Below.refl _ w).alloc (Nat.le_refl _) _).cell (p := ⟨b, off + at0, none⟩) hbl).trans hcell
  have HRB := hid' (Rd.byte hlt hd (by unfold DO; omega))
  have DG0 := hid' (DG.start (w := w) 3)
  have HNUM := hid' (fun W (hW : Below w.heap.size w W) (p m : Nat) (hp : p ≤ l.length) (hm : m ≤ 1000) => numbers_any W ba cap l p m ((hb.keep hW).mono hW.size) hp hc hl hm)
  have HOG := hid' (fun W (hW : Below w.heap.size w W) (p : Int) => oGet_any W ba cap l p ((hb.keep hW).mono hW.size) hc hl)
  have HGF := hid' (fun W (hW : Below w.heap.size w W) (p : Int) => rGetFront_any W ba cap l p ((hb.keep hW).mono hW.size) hc hl)
  have HGT := hid' (fun W (hW : Below w.heap.size w W) (p : Int) => rgetText_any W ba cap l p 65536 ((hb.keep hW).mono hW.size) hc hl (by omega))
  have HBY := hid' hb.range
  have ec : ((at0 + 1 : Nat) : Int) = (at0 : Int) + 1 := by simp
  have hh1 : ¬ (at0 : Int) < 0 := by omega
  have hh2 : ¬ (l.length : Int) < (at0 : Int) := by omega
  have hh3 : ¬ (at0 : Int) = (l.length : Int) := by omega
  unfold cmA c0 s0 at hcell0 DG0
  simp only [List.length_nil] at hcell0 DG0
  obtain ⟨ln, hln⟩ : ∃ n, l.length = n := ⟨_, rfl⟩
  rw [hln] at HNUM HOG HGF HGT hh2 hh3 ⊢
  have HLN := hid' hln
  have hixl : at0 < ln := by omega
  clear hb hcell hd hln
  subst hba
  have HN1 := hid' (HNUM.out _ DG0.out.bel (at0 + 1) 1 (by have := HLN.out; omega) (by omega))
  rw [ec] at HN1
  clear HGT
  go_enter Try.func19, Try.ntmps19
  go_wp2_with fail
  refine HN1.out.mono ?_
  intro e w2 hans
  obtain ⟨hb2, ⟨xn, nb, noff, nc, nx, rfl, hrd, hnx, hcn⟩ | ⟨rfl, hno⟩⟩ := num1 hans
  · have CT := DG0.out.call hb2
    have o1 := CT.bx.cell 1
    have g1 := CT.bx.frozen 1
    simp [cmA] at o1
    have HRN := hid' hrd
    have DG1 : Hid (DG w ⟨3, xn, [], (0, 0), 0, [], 0, []⟩ ⟨none, 0, none, 0, none, 0⟩ (w2.setCell ⟨w.heap.size + 1, 1, none⟩ (.int .i64 xn))) := CT.set (i := 1) (by simp [cmA]) ⟨CT.cm.row, CT.cm.front, CT.cm.sheet, CT.cm.byt, CT.cm.hr, CT.cm.hf, CT.cm.hs⟩
    have d0 := DG1.out.bx.cell 0
    simp [cmA] at d0
    clear CT DG0 hans hrd HN1 hcell0
    have HN2 := hid' (HNUM.out _ DG1.out.bel nx 1 (by have := HLN.out; omega) (by omega))
    clear HNUM HOG HGF hb2
    go_wp2_with fail
    refine HN2.out.mono ?_
    intro e w3 hans
    obtain ⟨hb3, ⟨xu, nb3, noff3, nc3, nx3, rfl, hrd3, hnx3, hcn3⟩ | ⟨rfl, hno⟩⟩ := num1 hans
    · have CT := DG1.out.call hb3
      have o7 := CT.bx.cell 7
      have g7 := CT.bx.frozen 7
      simp [cmA] at o7
      have HR3 := hid' hrd3
      have DG2 : Hid (DG w ⟨3, xn, [], (0, 0), 0, [], xu, []⟩ ⟨none, 0, none, 0, none, 0⟩ (w3.setCell ⟨w.heap.size + 1, 7, none⟩ (.int .i64 xu))) := CT.set (i := 7) (by simp [cmA]) ⟨CT.cm.row, CT.cm.front, CT.cm.sheet, CT.cm.byt, CT.cm.hr, CT.cm.hf, CT.cm.hs⟩
      clear CT DG1 hans hrd3 HN2 hb3
      obtain ⟨z0, z1, z2⟩ := DG2.out.done
      have HZ := hid' (fin_yes (w := w) hat (Rd.cmd HRB.out (fun _ => rest3 HRN.out HR3.out) (fun h => by cases h)) hnx3 z0 z1)
      obtain ⟨r0, r1, r2, r3, r4, r5, r6, r7, r8⟩ := cm_cells DG2.out.res
      obtain ⟨k0, k1, k2, k3, k4, k5, k6, k7, k8⟩ := cm_cells DG2.out.bx
      have f0 := DG2.out.res.frozen 0
      have f1 := DG2.out.res.frozen 1
      have f2 := DG2.out.res.frozen 2
      have f3 := DG2.out.res.frozen 3
      have f4 := DG2.out.res.frozen 4
      have f5 := DG2.out.res.frozen 5
      have f6 := DG2.out.res.frozen 6
      have f7 := DG2.out.res.frozen 7
      have f8 := DG2.out.res.frozen 8
      obtain ⟨t0, t1, t2, t3, t4, t5, t6, t7, t8⟩ := cm_cells z2
      unfold set9 at HZ t0 t1 t2 t3 t4 t5 t6 t7 t8
      unfold cmV cmA at HZ
      simp only [c0, s0] at r0 r1 r2 r3 r4 r5 r6 r7 r8
      simp only [List.length_nil] at HZ r0 r1 r2 r3 r4 r5 r6 r7 r8 t0 t1 t2 t3 t4 t5 t6 t7 t8 k0 k1 k2 k3 k4 k5 k6 k7 k8
      clear z0 z1 z2 DG2 
      go_wp2
      refine bodyPost_ret (v := .tuple #[.agg #[.int .i64 3, .int .i64 xn, .slice none 0 0, .int .i64 0, .int .i64 0, .int .i64 0, .slice none 0 0, .int .i64 xu, .slice none 0 0], .int .i64 (nx3 : Int), .int .i64 0]) ?_ rfl HZ.out
      unfold results
      go_simp
    · have DG2 := hid' (DG1.out.call hb3)
      have HNO := hid' (hno 0)
      clear hans HN2 hb3 hno DG1
      obtain ⟨z1, z2⟩ := DG2.out.zero
      have HZ := hid' (fin_no (w := w) hat (Rd.cmd HRB.out (fun _ => rest3 HRN.out HNO.out) (fun h => by cases h)) z1)
      obtain ⟨r0, r1, r2, r3, r4, r5, r6, r7, r8⟩ := cm_cells DG2.out.res
      have f0 := DG2.out.res.frozen 0
      have f1 := DG2.out.res.frozen 1
      have f2 := DG2.out.res.frozen 2
      have f3 := DG2.out.res.frozen 3
      have f4 := DG2.out.res.frozen 4
      have f5 := DG2.out.res.frozen 5
      have f6 := DG2.out.res.frozen 6
      have f7 := DG2.out.res.frozen 7
      have f8 := DG2.out.res.frozen 8
      obtain ⟨t0, t1, t2, t3, t4, t5, t6, t7, t8⟩ := cm_cells z2
      unfold set9 at HZ t0 t1 t2 t3 t4 t5 t6 t7 t8
      unfold cmV cmA at HZ
      simp only [c0, s0, List.length_nil] at HZ r0 r1 r2 r3 r4 r5 r6 r7 r8 t0 t1 t2 t3 t4 t5 t6 t7 t8
      clear z1 z2 DG2 
      go_wp2
      refine bodyPost_ret (v := .tuple #[.agg #[.int .i64 0, .int .i64 0, .slice none 0 0, .int .i64 0, .int .i64 0, .int .i64 0, .slice none 0 0, .int .i64 0, .slice none 0 0], .int .i64 0, .int .i64 6]) ?_ rfl HZ.out
      unfold results
      go_simp
  · have DG1 := hid' (DG0.out.call hb2)
    have HNO := hid' (hno 0)
    clear hans HN1 hb2 hno DG0 HNUM HOG HGF hcell0
    obtain ⟨z1, z2⟩ := DG1.out.zero
    have HZ := hid' (fin_no (w := w) hat (Rd.cmd HRB.out (fun _ => rest3 HNO.out (rdN 0)) (fun h => by cases h)) z1)
    obtain ⟨r0, r1, r2, r3, r4, r5, r6, r7, r8⟩ := cm_cells DG1.out.res
    have f0 := DG1.out.res.frozen 0
    have f1 := DG1.out.res.frozen 1
    have f2 := DG1.out.res.frozen 2
    have f3 := DG1.out.res.frozen 3
    have f4 := DG1.out.res.frozen 4
    have f5 := DG1.out.res.frozen 5
    have f6 := DG1.out.res.frozen 6
    have f7 := DG1.out.res.frozen 7
    have f8 := DG1.out.res.frozen 8
    obtain ⟨t0, t1, t2, t3, t4, t5, t6, t7, t8⟩ := cm_cells z2
    unfold set9 at HZ t0 t1 t2 t3 t4 t5 t6 t7 t8
    unfold cmV cmA at HZ
    simp only [c0, s0, List.length_nil] at HZ r0 r1 r2 r3 r4 r5 r6 r7 r8 t0 t1 t2 t3 t4 t5 t6 t7 t8
    clear z1 z2 DG1 
    go_wp2
    refine bodyPost_ret (v := .tuple #[.agg #[.int .i64 0, .int .i64 0, .slice none 0 0, .int .i64 0, .int .i64 0, .int .i64 0, .slice none 0 0, .int .i64 0, .slice none 0 0], .int .i64 0, .int .i64 6]) ?_ rfl HZ.out
    unfold results
    go_simp

end Go.Proofs.Ytgalmkhgbokidaa
