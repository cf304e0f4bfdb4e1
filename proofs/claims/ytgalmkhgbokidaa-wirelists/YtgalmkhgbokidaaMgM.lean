/-
  What is proved here: the document's Get where the byte 3 stands.
  What is proved here: the document's Get where the byte 4 stands.
  What is proved here: the document's Get where the byte 5 stands.
  What is proved here: the document's Get where the byte 6 stands.
-/
import Derived.Test.YtgalmkhgbokidaaMgL

namespace Go.Proofs.Ytgalmkhgbokidaa
open Go.RowKit Go.Proofs
set_option maxRecDepth 20000
set_option linter.unusedVariables false
set_option linter.unusedSimpArgs false

set_option maxHeartbeats 8000000 in
theorem rGet3 (w : World) (ba : Option Addr) (cap : Nat) (l : List Int) (at0 : Nat) (hb : Bts w.heap.size w ba l) (hlt : at0 < l.length) (hd : l.getD at0 0 = 3) (hc : l.length ≤ cap) (hl : l.length ≤ 1000000000) :
    Calls Try.prog 19 #[.slice ba l.length cap, .int .i64 (at0 : Int)] w (GAns cmdB Nice RepC c0 l (at0 : Int) w) := by
  have hat : at0 ≤ l.length := by omega
  obtain ⟨b, off, hba, hcell, _, _⟩ := hb.byte hlt
  rw [hd] at hcell
  have hbl : b < w.heap.size := by
    obtain ⟨b', off', e', hb', _⟩ := hb.cells (by rintro rfl; simp at hlt)
    rw [hba] at e'; cases e'; exact hb'
  have hcell0 : (w.alloc (.cells (cmA c0 s0) 31)).cell? ⟨b, off + at0, none⟩ = some (.int .u8 3) := (((Below.refl _ w).alloc (Nat.le_refl _) _).cell (p := ⟨b, off + at0, none⟩) hbl).trans hcell
  have HRB := hid' (Rd.byte hlt hd (by unfold DO; omega))
  have DG0 := hid' (DG.start (w := w) 3)
  have HNUM := hid' (fun W (hW : Below w.heap.size w W) (p m : Nat) (hp : p ≤ l.length) (hm : m ≤ 1000) => numbers_any W ba cap l p m ((hb.keep hW).mono hW.size) hp hc hl hm)
  have HOG := hid' (fun W (hW : Below w.heap.size w W) (p : Int) => oGet_any W ba cap l p ((hb.keep hW).mono hW.size) hc hl)
  have HGF := hid' (fun W (hW : Below w.heap.size w W) (p : Int) => rGetFront_any W ba cap l p ((hb.keep hW).mono hW.size) hc hl)
  have HGT := hid' (fun W (hW : Below w.heap.size w W) (p : Int) => rgetText_any W ba cap l p 65536 ((hb.keep hW).mono hW.size) hc hl (by omega))
  have HBY := hid' hb.range
  have ec : ((at0 + 1 : Nat) : Int) = (at0 : Int) + 1 := by simp
  have hh1 : ¬ (at0 : Int) < 0 := by omega
  have hh2 : ¬ (l.length : Int) < (at0 : Int) := by omega
  have hh3 : ¬ (at0 : Int) = (l.length : Int) := by omega
  unfold cmA c0 s0 at hcell0 DG0
  simp only [List.length_nil] at hcell0 DG0
  obtain ⟨ln, hln⟩ : ∃ n, l.length = n := ⟨_, rfl⟩
  rw [hln] at HNUM HOG HGF HGT hh2 hh3 ⊢
  have HLN := hid' hln
  have hixl : at0 < ln := by omega
  clear hb hcell hd hln
  subst hba
  have HN1 := hid' (HNUM.out _ DG0.out.bel (at0 + 1) 1 (by have := HLN.out; omega) (by omega))
  rw [ec] at HN1
  clear HGT
  go_enter Try.func19, Try.ntmps19
  go_wp2_with fail
  refine HN1.out.mono ?_
  intro e w2 hans
  obtain ⟨hb2, ⟨xn, nb, noff, nc, nx, rfl, hrd, hnx, hcn⟩ | ⟨rfl, hno⟩⟩ := num1 hans
  · have CT := DG0.out.call hb2
    have o1 := CT.bx.cell 1
    have g1 := CT.bx.frozen 1
    simp [cmA] at o1
    have HRN := hid' hrd
    have DG1 : Hid (DG w ⟨3, xn, [], (0, 0), 0, [], 0, []⟩ ⟨none, 0, none, 0, none, 0⟩ (w2.setCell ⟨w.heap.size + 1, 1, none⟩ (.int .i64 xn))) := CT.set (i := 1) (by simp [cmA]) ⟨CT.cm.row, CT.cm.front, CT.cm.sheet, CT.cm.byt, CT.cm.hr, CT.cm.hf, CT.cm.hs⟩
    have d0 := DG1.out.bx.cell 0
    simp [cmA] at d0
    clear CT DG0 hans hrd HN1 hcell0
    have HN2 := hid' (HNUM.out _ DG1.out.bel nx 1 (by have := HLN.out; omega) (by omega))
    clear HNUM HOG HGF hb2
    go_wp2_with fail
    refine HN2.out.mono ?_
    intro e w3 hans
    obtain ⟨hb3, ⟨xu, nb3, noff3, nc3, nx3, rfl, hrd3, hnx3, hcn3⟩ | ⟨rfl, hno⟩⟩ := num1 hans
    · have CT := DG1.out.call hb3
      have o7 := CT.bx.cell 7
      have g7 := CT.bx.frozen 7
      simp [cmA] at o7
      have HR3 := hid' hrd3
      have DG2 : Hid (DG w ⟨3, xn, [], (0, 0), 0, [], xu, []⟩ ⟨none, 0, none, 0, none, 0⟩ (w3.setCell ⟨w.heap.size + 1, 7, none⟩ (.int .i64 xu))) := CT.set (i := 7) (by simp [cmA]) ⟨CT.cm.row, CT.cm.front, CT.cm.sheet, CT.cm.byt, CT.cm.hr, CT.cm.hf, CT.cm.hs⟩
      clear CT DG1 hans hrd3 HN2 hb3
      obtain ⟨z0, z1, z2⟩ := DG2.out.done
      have HZ := hid' (fin_yes (w := w) hat (Rd.cmd HRB.out (fun _ => rest3 HRN.out HR3.out) (fun h => by cases h)) hnx3 z0 z1)
      obtain ⟨r0, r1, r2, r3, r4, r5, r6, r7, r8⟩ := cm_cells DG2.out.res
      obtain ⟨k0, k1, k2, k3, k4, k5, k6, k7, k8⟩ := cm_cells DG2.out.bx
      have f0 := DG2.out.res.frozen 0
      have f1 := DG2.out.res.frozen 1
      have f2 := DG2.out.res.frozen 2
      have f3 := DG2.out.res.frozen 3
      have f4 := DG2.out.res.frozen 4
      have f5 := DG2.out.res.frozen 5
      have f6 := DG2.out.res.frozen 6
      have f7 := DG2.out.res.frozen 7
      have f8 := DG2.out.res.frozen 8
      obtain ⟨t0, t1, t2, t3, t4, t5, t6, t7, t8⟩ := cm_cells z2
      unfold set9 at HZ t0 t1 t2 t3 t4 t5 t6 t7 t8
      unfold cmV cmA at HZ
      simp only [c0, s0] at r0 r1 r2 r3 r4 r5 r6 r7 r8
      simp only [List.length_nil] at HZ r0 r1 r2 r3 r4 r5 r6 r7 r8 t0 t1 t2 t3 t4 t5 t6 t7 t8 k0 k1 k2 k3 k4 k5 k6 k7 k8
      clear z0 z1 z2 DG2 
      go_wp2
      refine bodyPost_ret (v := .tuple #[.agg #[.int .i64 3, .int .i64 xn, .slice none 0 0, .int .i64 0, .int .i64 0, .int .i64 0, .slice none 0 0, .int .i64 xu, .slice none 0 0], .int .i64 (nx3 : Int), .int .i64 0]) ?_ rfl HZ.out
      unfold results
      go_simp
    · have DG2 := hid' (DG1.out.call hb3)
      have HNO := hid' (hno 0)
      clear hans HN2 hb3 hno DG1
      obtain ⟨z1, z2⟩ := DG2.out.zero
      have HZ := hid' (fin_no (w := w) hat (Rd.cmd HRB.out (fun _ => rest3 HRN.out HNO.out) (fun h => by cases h)) z1)
      obtain ⟨r0, r1, r2, r3, r4, r5, r6, r7, r8⟩ := cm_cells DG2.out.res
      have f0 := DG2.out.res.frozen 0
      have f1 := DG2.out.res.frozen 1
      have f2 := DG2.out.res.frozen 2
      have f3 := DG2.out.res.frozen 3
      have f4 := DG2.out.res.frozen 4
      have f5 := DG2.out.res.frozen 5
      have f6 := DG2.out.res.frozen 6
      have f7 := DG2.out.res.frozen 7
      have f8 := DG2.out.res.frozen 8
      obtain ⟨t0, t1, t2, t3, t4, t5, t6, t7, t8⟩ := cm_cells z2
      unfold set9 at HZ t0 t1 t2 t3 t4 t5 t6 t7 t8
      unfold cmV cmA at HZ
      simp only [c0, s0, List.length_nil] at HZ r0 r1 r2 r3 r4 r5 r6 r7 r8 t0 t1 t2 t3 t4 t5 t6 t7 t8
      clear z1 z2 DG2 
      go_wp2
      refine bodyPost_ret (v := .tuple #[.agg #[.int .i64 0, .int .i64 0, .slice none 0 0, .int .i64 0, .int .i64 0, .int .i64 0, .slice none 0 0, .int .i64 0, .slice none 0 0], .int .i64 0, .int .i64 6]) ?_ rfl HZ.out
      unfold results
      go_simp
  · have DG1 := hid' (DG0.out.call hb2)
    have HNO := hid' (hno 0)
    clear hans HN1 hb2 hno DG0 HNUM HOG HGF hcell0
    obtain ⟨z1, z2⟩ := DG1.out.zero
    have HZ := hid' (fin_no (w := w) hat (Rd.cmd HRB.out (fun _ => rest3 HNO.out (rdN 0)) (fun h => by cases h)) z1)
    obtain ⟨r0, r1, r2, r3, r4, r5, r6, r7, r8⟩ := cm_cells DG1.out.res
    have f0 := DG1.out.res.frozen 0
    have f1 := DG1.out.res.frozen 1
    have f2 := DG1.out.res.frozen 2
    have f3 := DG1.out.res.frozen 3
    have f4 := DG1.out.res.frozen 4
    have f5 := DG1.out.res.frozen 5
    have f6 := DG1.out.res.frozen 6
    have f7 := DG1.out.res.frozen 7
    have f8 := DG1.out.res.frozen 8
    obtain ⟨t0, t1, t2, t3, t4, t5, t6, t7, t8⟩ := cm_cells z2
    unfold set9 at HZ t0 t1 t2 t3 t4 t5 t6 t7 t8
    unfold cmV cmA at HZ
    simp only [c0, s0, List.length_nil] at HZ r0 r1 r2 r3 r4 r5 r6 r7 r8 t0 t1 t2 t3 t4 t5 t6 t7 t8
    clear z1 z2 DG1 
    go_wp2
    refine bodyPost_ret (v := .tuple #[.agg #[.int .i64 0, .int .i64 0, .slice none 0 0, .int .i64 0, .int .i64 0, .int .i64 0, .slice none 0 0, .int .i64 0, .slice none 0 0], .int .i64 0, .int .i64 6]) ?_ rfl HZ.out
    unfold results
    go_simp

end Go.Proofs.Ytgalmkhgbokidaa

namespace Go.Proofs.Ytgalmkhgbokidaa
open Go.RowKit Go.Proofs
set_option maxRecDepth 20000
set_option linter.unusedVariables false
set_option linter.unusedSimpArgs false

set_option maxHeartbeats 8000000 in
theorem rGet4 (w : World) (ba : Option Addr) (cap : Nat) (l : List Int) (at0 : Nat) (hb : Bts w.heap.size w ba l) (hlt : at0 < l.length) (hd : l.getD at0 0 = 4) (hc : l.length ≤ cap) (hl : l.length ≤ 1000000000) :
    Calls Try.prog 19 #[.slice ba l.length cap, .int .i64 (at0 : Int)] w (GAns cmdB Nice RepC c0 l (at0 : Int) w) := by
  have hat : at0 ≤ l.length := by omega
  obtain ⟨b, off, hba, hcell, _, _⟩ := hb.byte hlt
  rw [hd] at hcell
  have hbl : b < w.heap.size := by
    obtain ⟨b', off', e', hb', _⟩ := hb.cells (by rintro rfl; simp at hlt)
    rw [hba] at e'; cases e'; exact hb'
  have hcell0 : (w.alloc (.cells (cmA c0 s0) 31)).cell? ⟨b, off + at0, none⟩ = some (.int .u8 4) := (((Below.refl _ w).alloc (Nat.le_refl _) _).cell (p := ⟨b, off + at0, none⟩) hbl).trans hcell
  have HRB := hid' (Rd.byte hlt hd (by unfold DO; omega))
  have DG0 := hid' (DG.start (w := w) 4)
  have HNUM := hid' (fun W (hW : Below w.heap.size w W) (p m : Nat) (hp : p ≤ l.length) (hm : m ≤ 1000) => numbers_any W ba cap l p m ((hb.keep hW).mono hW.size) hp hc hl hm)
  have HOG := hid' (fun W (hW : Below w.heap.size w W) (p : Int) => oGet_any W ba cap l p ((hb.keep hW).mono hW.size) hc hl)
  have HGF := hid' (fun W (hW : Below w.heap.size w W) (p : Int) => rGetFront_any W ba cap l p ((hb.keep hW).mono hW.size) hc hl)
  have HGT := hid' (fun W (hW : Below w.heap.size w W) (p : Int) => rgetText_any W ba cap l p 65536 ((hb.keep hW).mono hW.size) hc hl (by omega))
  have HBY := hid' hb.range
  have ec : ((at0 + 1 : Nat) : Int) = (at0 : Int) + 1 := by simp
  have hh1 : ¬ (at0 : Int) < 0 := by omega
  have hh2 : ¬ (l.length : Int) < (at0 : Int) := by omega
  have hh3 : ¬ (at0 : Int) = (l.length : Int) := by omega
  unfold cmA c0 s0 at hcell0 DG0
  simp only [List.length_nil] at hcell0 DG0
  obtain ⟨ln, hln⟩ : ∃ n, l.length = n := ⟨_, rfl⟩
  rw [hln] at HNUM HOG HGF HGT hh2 hh3 ⊢
  have HLN := hid' hln
  have hixl : at0 < ln := by omega
  clear hb hcell hd hln
  subst hba
  have HN1 := hid' (HNUM.out _ DG0.out.bel (at0 + 1) 1 (by have := HLN.out; omega) (by omega))
  rw [ec] at HN1
  clear HGT
  go_enter Try.func19, Try.ntmps19
  go_wp2_with fail
  refine HN1.out.mono ?_
  intro e w2 hans
  obtain ⟨hb2, ⟨xn, nb, noff, nc, nx, rfl, hrd, hnx, hcn⟩ | ⟨rfl, hno⟩⟩ := num1 hans
  · have CT := DG0.out.call hb2
    have o1 := CT.bx.cell 1
    have g1 := CT.bx.frozen 1
    simp [cmA] at o1
    have HRN := hid' hrd
    have DG1 : Hid (DG w ⟨4, xn, [], (0, 0), 0, [], 0, []⟩ ⟨none, 0, none, 0, none, 0⟩ (w2.setCell ⟨w.heap.size + 1, 1, none⟩ (.int .i64 xn))) := CT.set (i := 1) (by simp [cmA]) ⟨CT.cm.row, CT.cm.front, CT.cm.sheet, CT.cm.byt, CT.cm.hr, CT.cm.hf, CT.cm.hs⟩
    have d0 := DG1.out.bx.cell 0
    simp [cmA] at d0
    clear CT DG0 hans hrd HN1 hcell0
    have HF2 := hid' (HGF.out _ DG1.out.bel (nx : Int))
    clear HNUM HOG HGF hb2
    go_wp2_with fail
    refine HF2.out.mono ?_
    intro e w3 hans
    obtain ⟨v, next, er, rfl, ⟨xf, ⟨fa, fc, hv, hp, hsh⟩, hgot⟩, hb3⟩ := GAns.got hnx hans
    subst hv
    have CT := DG1.out.call hb3
    have o6 := CT.bx.cell 6
    have g6 := CT.bx.frozen 6
    simp [cmA] at o6
    have DG2 : Hid (DG w ⟨4, xn, [], (0, 0), 0, xf, 0, []⟩ ⟨none, 0, fa, fc, none, 0⟩ (w3.setCell ⟨w.heap.size + 1, 6, none⟩ (.slice fa xf.length fc))) := CT.set (i := 6) (by simp [cmA]) ⟨CT.cm.row, SP.mono hp (fun k hk => by unfold Since at hk; have := DG1.out.lt; omega), CT.cm.sheet, CT.cm.byt, CT.cm.hr, hsh, CT.cm.hs⟩
    clear CT DG1 hans HF2 hb3 hp hsh
    rcases hgot with ⟨rfl, hD, hdr, hnn, hnl⟩ | ⟨her, hno⟩
    · obtain ⟨nx3, rfl⟩ := Int.eq_ofNat_of_zero_le (show 0 ≤ next by omega)
      rw [Int.toNat_natCast] at hdr hnl
      have HR3 : Hid (Rd frontB (LD 16 RT) (some (l.drop nx)) xf (some (l.drop nx3))) := (⟨hD, hdr⟩ : _ ∧ _)
      clear hD hdr hnn
      obtain ⟨z0, z1, z2⟩ := DG2.out.done
      have HZ := hid' (fin_yes (w := w) hat (Rd.cmd HRB.out (fun _ => rest4 HRN.out HR3.out) (fun h => by cases h)) hnl z0 z1)
      obtain ⟨r0, r1, r2, r3, r4, r5, r6, r7, r8⟩ := cm_cells DG2.out.res
      obtain ⟨k0, k1, k2, k3, k4, k5, k6, k7, k8⟩ := cm_cells DG2.out.bx
      have f0 := DG2.out.res.frozen 0
      have f1 := DG2.out.res.frozen 1
      have f2 := DG2.out.res.frozen 2
      have f3 := DG2.out.res.frozen 3
      have f4 := DG2.out.res.frozen 4
      have f5 := DG2.out.res.frozen 5
      have f6 := DG2.out.res.frozen 6
      have f7 := DG2.out.res.frozen 7
      have f8 := DG2.out.res.frozen 8
      obtain ⟨t0, t1, t2, t3, t4, t5, t6, t7, t8⟩ := cm_cells z2
      unfold set9 at HZ t0 t1 t2 t3 t4 t5 t6 t7 t8
      unfold cmV cmA at HZ
      simp only [c0, s0] at r0 r1 r2 r3 r4 r5 r6 r7 r8
      simp only [List.length_nil] at HZ r0 r1 r2 r3 r4 r5 r6 r7 r8 t0 t1 t2 t3 t4 t5 t6 t7 t8 k0 k1 k2 k3 k4 k5 k6 k7 k8
      clear z0 z1 z2 DG2 
      go_wp2
      refine bodyPost_ret (v := .tuple #[.agg #[.int .i64 4, .int .i64 xn, .slice none 0 0, .int .i64 0, .int .i64 0, .int .i64 0, .slice fa xf.length fc, .int .i64 0, .slice none 0 0], .int .i64 (nx3 : Int), .int .i64 0]) ?_ rfl HZ.out
      unfold results
      go_simp
    · have HNO : Hid (Rd frontB (LD 16 RT) (some (l.drop nx)) [] none) := hno
      have her' : (er != 0) = true := by simpa using her
      clear hno
      obtain ⟨z1, z2⟩ := DG2.out.zero
      have HZ := hid' (fin_no (w := w) hat (Rd.cmd HRB.out (fun _ => rest4 HRN.out HNO.out) (fun h => by cases h)) z1)
      obtain ⟨r0, r1, r2, r3, r4, r5, r6, r7, r8⟩ := cm_cells DG2.out.res
      have f0 := DG2.out.res.frozen 0
      have f1 := DG2.out.res.frozen 1
      have f2 := DG2.out.res.frozen 2
      have f3 := DG2.out.res.frozen 3
      have f4 := DG2.out.res.frozen 4
      have f5 := DG2.out.res.frozen 5
      have f6 := DG2.out.res.frozen 6
      have f7 := DG2.out.res.frozen 7
      have f8 := DG2.out.res.frozen 8
      obtain ⟨t0, t1, t2, t3, t4, t5, t6, t7, t8⟩ := cm_cells z2
      unfold set9 at HZ t0 t1 t2 t3 t4 t5 t6 t7 t8
      unfold cmV cmA at HZ
      simp only [c0, s0, List.length_nil] at HZ r0 r1 r2 r3 r4 r5 r6 r7 r8 t0 t1 t2 t3 t4 t5 t6 t7 t8
      clear z1 z2 DG2 
      go_wp2
      refine bodyPost_ret (v := .tuple #[.agg #[.int .i64 0, .int .i64 0, .slice none 0 0, .int .i64 0, .int .i64 0, .int .i64 0, .slice none 0 0, .int .i64 0, .slice none 0 0], .int .i64 0, .int .i64 6]) ?_ rfl HZ.out
      unfold results
      go_simp
  · have DG1 := hid' (DG0.out.call hb2)
    have HNO := hid' (hno 0)
    clear hans HN1 hb2 hno DG0 HNUM HOG HGF hcell0
    obtain ⟨z1, z2⟩ := DG1.out.zero
    have HZ := hid' (fin_no (w := w) hat (Rd.cmd HRB.out (fun _ => rest4 HNO.out (rdN [])) (fun h => by cases h)) z1)
    obtain ⟨r0, r1, r2, r3, r4, r5, r6, r7, r8⟩ := cm_cells DG1.out.res
    have f0 := DG1.out.res.frozen 0
    have f1 := DG1.out.res.frozen 1
    have f2 := DG1.out.res.frozen 2
    have f3 := DG1.out.res.frozen 3
    have f4 := DG1.out.res.frozen 4
    have f5 := DG1.out.res.frozen 5
    have f6 := DG1.out.res.frozen 6
    have f7 := DG1.out.res.frozen 7
    have f8 := DG1.out.res.frozen 8
    obtain ⟨t0, t1, t2, t3, t4, t5, t6, t7, t8⟩ := cm_cells z2
    unfold set9 at HZ t0 t1 t2 t3 t4 t5 t6 t7 t8
    unfold cmV cmA at HZ
    simp only [c0, s0, List.length_nil] at HZ r0 r1 r2 r3 r4 r5 r6 r7 r8 t0 t1 t2 t3 t4 t5 t6 t7 t8
    clear z1 z2 DG1 
    go_wp2
    refine bodyPost_ret (v := .tuple #[.agg #[.int .i64 0, .int .i64 0, .slice none 0 0, .int .i64 0, .int .i64 0, .int .i64 0, .slice none 0 0, .int .i64 0, .slice none 0 0], .int .i64 0, .int .i64 6]) ?_ rfl HZ.out
    unfold results
    go_simp

end Go.Proofs.Ytgalmkhgbokidaa

namespace Go.Proofs.Ytgalmkhgbokidaa
open Go.RowKit Go.Proofs
set_option maxRecDepth 20000
set_option linter.unusedVariables false
set_option linter.unusedSimpArgs false

set_option maxHeartbeats 8000000 in
theorem rGet5 (w : World) (ba : Option Addr) (cap : Nat) (l : List Int) (at0 : Nat) (hb : Bts w.heap.size w ba l) (hlt : at0 < l.length) (hd : l.getD at0 0 = 5) (hc : l.length ≤ cap) (hl : l.length ≤ 1000000000) :
    Calls Try.prog 19 #[.slice ba l.length cap, .int .i64 (at0 : Int)] w (GAns cmdB Nice RepC c0 l (at0 : Int) w) := by
  have hat : at0 ≤ l.length := by omega
  obtain ⟨b, off, hba, hcell, _, _⟩ := hb.byte hlt
  rw [hd] at hcell
  have hbl : b < w.heap.size := by
    obtain ⟨b', off', e', hb', _⟩ := hb.cells (by rintro rfl; simp at hlt)
    rw [hba] at e'; cases e'; exact hb'
  have hcell0 : (w.alloc (.cells (cmA c0 s0) 31)).cell? ⟨b, off + at0, none⟩ = some (.int .u8 5) := (((Below.refl _ w).alloc (Nat.le_refl _) _).cell (p := ⟨b, off + at0, none⟩) hbl).trans hcell
  have HRB := hid' (Rd.byte hlt hd (by unfold DO; omega))
  have DG0 := hid' (DG.start (w := w) 5)
  have HNUM := hid' (fun W (hW : Below w.heap.size w W) (p m : Nat) (hp : p ≤ l.length) (hm : m ≤ 1000) => numbers_any W ba cap l p m ((hb.keep hW).mono hW.size) hp hc hl hm)
  have HOG := hid' (fun W (hW : Below w.heap.size w W) (p : Int) => oGet_any W ba cap l p ((hb.keep hW).mono hW.size) hc hl)
  have HGF := hid' (fun W (hW : Below w.heap.size w W) (p : Int) => rGetFront_any W ba cap l p ((hb.keep hW).mono hW.size) hc hl)
  have HGT := hid' (fun W (hW : Below w.heap.size w W) (p : Int) => rgetText_any W ba cap l p 65536 ((hb.keep hW).mono hW.size) hc hl (by omega))
  have HBY := hid' hb.range
  have ec : ((at0 + 1 : Nat) : Int) = (at0 : Int) + 1 := by simp
  have hh1 : ¬ (at0 : Int) < 0 := by omega
  have hh2 : ¬ (l.length : Int) < (at0 : Int) := by omega
  have hh3 : ¬ (at0 : Int) = (l.length : Int) := by omega
  unfold cmA c0 s0 at hcell0 DG0
  simp only [List.length_nil] at hcell0 DG0
  obtain ⟨ln, hln⟩ : ∃ n, l.length = n := ⟨_, rfl⟩
  rw [hln] at HNUM HOG HGF HGT hh2 hh3 ⊢
  have HLN := hid' hln
  have hixl : at0 < ln := by omega
  clear hb hcell hd hln
  subst hba
  have HN1 := hid' (HNUM.out _ DG0.out.bel (at0 + 1) 1 (by have := HLN.out; omega) (by omega))
  rw [ec] at HN1
  clear HGT
  go_enter Try.func19, Try.ntmps19
  go_wp2_with fail
  refine HN1.out.mono ?_
  intro e w2 hans
  obtain ⟨hb2, ⟨xn, nb, noff, nc, nx, rfl, hrd, hnx, hcn⟩ | ⟨rfl, hno⟩⟩ := num1 hans
  · have CT := DG0.out.call hb2
    have o1 := CT.bx.cell 1
    have g1 := CT.bx.frozen 1
    simp [cmA] at o1
    have HRN := hid' hrd
    have DG1 : Hid (DG w ⟨5, xn, [], (0, 0), 0, [], 0, []⟩ ⟨none, 0, none, 0, none, 0⟩ (w2.setCell ⟨w.heap.size + 1, 1, none⟩ (.int .i64 xn))) := CT.set (i := 1) (by simp [cmA]) ⟨CT.cm.row, CT.cm.front, CT.cm.sheet, CT.cm.byt, CT.cm.hr, CT.cm.hf, CT.cm.hs⟩
    have d0 := DG1.out.bx.cell 0
    simp [cmA] at d0
    clear CT DG0 hans hrd HN1 hcell0
    have HN2 := hid' (HNUM.out _ DG1.out.bel nx 2 (by have := HLN.out; omega) (by omega))
    clear HNUM HOG HGF hb2
    go_wp2_with fail
    refine HN2.out.mono ?_
    intro e w3 hans
    obtain ⟨hb3, ⟨xt, xu, nb3, noff3, nc3, nx3, rfl, hrd3, hnx3, hnb3, hc30, hc31⟩ | ⟨rfl, hno⟩⟩ := num2 hans
    · have CT := DG1.out.call hb3
      have hnbC : nb3 ≠ w.heap.size + 1 := by have := DG1.out.lt; omega
      have HI : Hid (r5Inv w nb3 noff3 xt xu ⟨5, xn, [], (0, 0), 0, [], 0, []⟩ ⟨5, xn, [], (xt, xu), 0, [], 0, []⟩ ⟨none, 0, none, 0, none, 0⟩ [] w3.drew) := ⟨CT.call (Below.refl _ _).drew, by simpa using hc30, by simpa using hc31⟩
      have HR3 := hid' hrd3
      have hc30' := hc30
      clear CT DG1 hans hrd3 HN2 hb3 hc30 hc31 hc30'
      go_wp2_with fail
      refine PQ.wp_region_quiet (r5Val (w.heap.size + 1) nb3 noff3 nc3 xt xu) (r5Inv w nb3 noff3 xt xu ⟨5, xn, [], (0, 0), 0, [], 0, []⟩ ⟨5, xn, [], (xt, xu), 0, [], 0, []⟩ ⟨none, 0, none, 0, none, 0⟩) mixed' (by kernel_rfl) HI.out ?_ ?_
      · have AH : ∀ {vs : List Value} {W : World}, r5Inv w nb3 noff3 xt xu ⟨5, xn, [], (0, 0), 0, [], 0, []⟩ ⟨5, xn, [], (xt, xu), 0, [], 0, []⟩ ⟨none, 0, none, 0, none, 0⟩ vs W → vs.length ≤ 0 → vs = [] := fun _ h => List.length_eq_zero_iff.1 (by omega)
        refine ⟨?_, ?_, ?_, ?_, ?_, ?_, ?_, ?_, ?_, ?_, trivial⟩
        · intro vs A W hI hC
          exact ⟨PB.wanted_free rfl, run_moveD W (hC.outer 11 rfl)⟩
        · intro vs A W hI hC
          exact ⟨PB.wanted_free rfl, run_ixC 0 W (hC.left 0 rfl) rfl (by omega) (by omega)⟩
        · intro vs A W hI hC
          obtain rfl := AH hI (hC.ahead 9 _ rfl rfl rfl)
          exact ⟨PB.wanted_free rfl, run_loadZ W (hC.left 1 rfl) hI.2.1⟩
        · intro vs A W hI hC
          exact ⟨PB.wanted_free rfl, run_moveD W (hC.outer 11 rfl)⟩
        · intro vs A W hI hC
          exact ⟨PB.wanted_free rfl, run_ixC 1 W (hC.left 3 rfl) rfl (by omega) (by omega)⟩
        · intro vs A W hI hC
          obtain rfl := AH hI (hC.ahead 9 _ rfl rfl rfl)
          exact ⟨PB.wanted_free rfl, run_loadZ W (hC.left 4 rfl) hI.2.2⟩
        · intro vs A W hI hC
          exact ⟨PB.wanted_free rfl, run_bldT W (hC.left 2 rfl) (hC.left 5 rfl)⟩
        · intro vs A W hI hC
          exact ⟨PB.wanted_free rfl, run_faCmd2 W (hC.outer 7 rfl)⟩
        · intro vs A W hI hC
          exact ⟨PB.wanted_free rfl, run_faUp1 W (hC.left 7 rfl)⟩
        · intro vs A W hk hI hC
          obtain rfl : vs = [] := List.length_eq_zero_iff.1 hk
          refine ⟨PB.wanted_free rfl, PQ.loud_skip rfl (run_storeT W (hC.left 8 rfl) (hC.left 6 rfl) (hI.1.bx.cell 3) (hI.1.bx.cell 4) (hI.1.bx.frozen 3) (hI.1.bx.frozen 4)) ?_⟩
          exact (hI.1.set (i := 3) (v := .int .i64 xt) (c' := ⟨5, xn, [], (xt, 0), 0, [], 0, []⟩) (s' := ⟨none, 0, none, 0, none, 0⟩) (by simp [cmA]) ⟨hI.1.cm.row, hI.1.cm.front, hI.1.cm.sheet, hI.1.cm.byt, hI.1.cm.hr, hI.1.cm.hf, hI.1.cm.hs⟩ |>.set (i := 4) (v := .int .i64 xu) (c' := ⟨5, xn, [], (xt, xu), 0, [], 0, []⟩) (s' := ⟨none, 0, none, 0, none, 0⟩) (by simp [cmA]) (by
            have hq := (hI.1.set (i := 3) (v := .int .i64 xt) (c' := ⟨5, xn, [], (xt, 0), 0, [], 0, []⟩) (s' := ⟨none, 0, none, 0, none, 0⟩) (by simp [cmA]) ⟨hI.1.cm.row, hI.1.cm.front, hI.1.cm.sheet, hI.1.cm.byt, hI.1.cm.hr, hI.1.cm.hf, hI.1.cm.hs⟩).cm
            exact ⟨hq.row, hq.front, hq.sheet, hq.byt, hq.hr, hq.hf, hq.hs⟩))
      · intro vs A W hk hI hE
        match vs, hk, hI, hE with
        | [p], _, hI, hE =>
          have DG2 : Hid (DG w ⟨5, xn, [], (xt, xu), 0, [], 0, []⟩ ⟨none, 0, none, 0, none, 0⟩ W) := hI
          clear hI
          have h_152 : PB.slot A 152 = .slice (some ⟨nb3, noff3, none⟩) 2 nc3 := hE.left 0
          have h_153 : PB.slot A 153 = .pointer (some ⟨nb3, noff3 + 0, none⟩) := hE.left 1
          have h_154 : PB.slot A 154 = .int .i64 xt := hE.left 2
          have h_155 : PB.slot A 155 = .slice (some ⟨nb3, noff3, none⟩) 2 nc3 := hE.left 3
          have h_156 : PB.slot A 156 = .pointer (some ⟨nb3, noff3 + 1, none⟩) := hE.left 4
          have h_157 : PB.slot A 157 = .int .i64 xu := hE.left 5
          have h_158 : PB.slot A 158 = .agg #[.int .i64 xt, .int .i64 xu] := hE.left 6
          have h_159 : PB.slot A 159 = .pointer (some ⟨w.heap.size + 1, 2, none⟩) := hE.left 7
          have h_160 : PB.slot A 160 = .pointer (some ⟨w.heap.size + 1, 3, none⟩) := hE.left 8
          have hA := PQ.frame_puts hE.defers hE.size [152, 153, 154, 155, 156, 157, 158, 159, 160] (fun t ht => hE.outer t (by simp only [List.mem_cons, List.not_mem_nil, or_false, not_or] at ht; simp [PB.outer]; omega))
          obtain ⟨fr, hf⟩ : ∃ f, PB.slot A = f := ⟨_, rfl⟩
          rw [hA]
          simp only [PQ.puts]
          rw [hf] at h_152 h_153 h_154 h_155 h_156 h_157 h_158 h_159 h_160 ⊢
          clear hA hf hE
          simp only [h_152, h_153, h_154, h_155, h_156, h_157, h_158, h_159, h_160, Act.put, List.setIfInBounds_toArray, List.set_cons_succ, List.set_cons_zero]
          clear h_152 h_153 h_154 h_155 h_156 h_157 h_158 h_159 h_160
          clear HI d0
          obtain ⟨z0, z1, z2⟩ := DG2.out.done
          have HZ := hid' (fin_yes (w := w) hat (Rd.cmd HRB.out (fun _ => rest5 HRN.out HR3.out) (fun h => by cases h)) hnx3 z0 z1)
          obtain ⟨r0, r1, r2, r3, r4, r5, r6, r7, r8⟩ := cm_cells DG2.out.res
          obtain ⟨k0, k1, k2, k3, k4, k5, k6, k7, k8⟩ := cm_cells DG2.out.bx
          have f0 := DG2.out.res.frozen 0
          have f1 := DG2.out.res.frozen 1
          have f2 := DG2.out.res.frozen 2
          have f3 := DG2.out.res.frozen 3
          have f4 := DG2.out.res.frozen 4
          have f5 := DG2.out.res.frozen 5
          have f6 := DG2.out.res.frozen 6
          have f7 := DG2.out.res.frozen 7
          have f8 := DG2.out.res.frozen 8
          obtain ⟨t0, t1, t2, t3, t4, t5, t6, t7, t8⟩ := cm_cells z2
          unfold set9 at HZ t0 t1 t2 t3 t4 t5 t6 t7 t8
          unfold cmV cmA at HZ
          simp only [c0, s0] at r0 r1 r2 r3 r4 r5 r6 r7 r8
          simp only [List.length_nil] at HZ r0 r1 r2 r3 r4 r5 r6 r7 r8 t0 t1 t2 t3 t4 t5 t6 t7 t8 k0 k1 k2 k3 k4 k5 k6 k7 k8
          clear z0 z1 z2 DG2 
          go_wp2
          refine bodyPost_ret (v := .tuple #[.agg #[.int .i64 5, .int .i64 xn, .slice none 0 0, .int .i64 xt, .int .i64 xu, .int .i64 0, .slice none 0 0, .int .i64 0, .slice none 0 0], .int .i64 (nx3 : Int), .int .i64 0]) ?_ rfl HZ.out
          unfold results
          go_simp
    · have DG2 := hid' (DG1.out.call hb3)
      have HNO := hid' (hno t0)
      clear hans HN2 hb3 hno DG1
      obtain ⟨z1, z2⟩ := DG2.out.zero
      have HZ := hid' (fin_no (w := w) hat (Rd.cmd HRB.out (fun _ => rest5 HRN.out HNO.out) (fun h => by cases h)) z1)
      obtain ⟨r0, r1, r2, r3, r4, r5, r6, r7, r8⟩ := cm_cells DG2.out.res
      have f0 := DG2.out.res.frozen 0
      have f1 := DG2.out.res.frozen 1
      have f2 := DG2.out.res.frozen 2
      have f3 := DG2.out.res.frozen 3
      have f4 := DG2.out.res.frozen 4
      have f5 := DG2.out.res.frozen 5
      have f6 := DG2.out.res.frozen 6
      have f7 := DG2.out.res.frozen 7
      have f8 := DG2.out.res.frozen 8
      obtain ⟨t0, t1, t2, t3, t4, t5, t6, t7, t8⟩ := cm_cells z2
      unfold set9 at HZ t0 t1 t2 t3 t4 t5 t6 t7 t8
      unfold cmV cmA at HZ
      simp only [c0, s0, List.length_nil] at HZ r0 r1 r2 r3 r4 r5 r6 r7 r8 t0 t1 t2 t3 t4 t5 t6 t7 t8
      clear z1 z2 DG2 
      go_wp2
      refine bodyPost_ret (v := .tuple #[.agg #[.int .i64 0, .int .i64 0, .slice none 0 0, .int .i64 0, .int .i64 0, .int .i64 0, .slice none 0 0, .int .i64 0, .slice none 0 0], .int .i64 0, .int .i64 6]) ?_ rfl HZ.out
      unfold results
      go_simp
  · have DG1 := hid' (DG0.out.call hb2)
    have HNO := hid' (hno 0)
    clear hans HN1 hb2 hno DG0 HNUM HOG HGF hcell0
    obtain ⟨z1, z2⟩ := DG1.out.zero
    have HZ := hid' (fin_no (w := w) hat (Rd.cmd HRB.out (fun _ => rest5 HNO.out (rdN t0)) (fun h => by cases h)) z1)
    obtain ⟨r0, r1, r2, r3, r4, r5, r6, r7, r8⟩ := cm_cells DG1.out.res
    have f0 := DG1.out.res.frozen 0
    have f1 := DG1.out.res.frozen 1
    have f2 := DG1.out.res.frozen 2
    have f3 := DG1.out.res.frozen 3
    have f4 := DG1.out.res.frozen 4
    have f5 := DG1.out.res.frozen 5
    have f6 := DG1.out.res.frozen 6
    have f7 := DG1.out.res.frozen 7
    have f8 := DG1.out.res.frozen 8
    obtain ⟨t0, t1, t2, t3, t4, t5, t6, t7, t8⟩ := cm_cells z2
    unfold set9 at HZ t0 t1 t2 t3 t4 t5 t6 t7 t8
    unfold cmV cmA at HZ
    simp only [c0, s0, List.length_nil] at HZ r0 r1 r2 r3 r4 r5 r6 r7 r8 t0 t1 t2 t3 t4 t5 t6 t7 t8
    clear z1 z2 DG1 
    go_wp2
    refine bodyPost_ret (v := .tuple #[.agg #[.int .i64 0, .int .i64 0, .slice none 0 0, .int .i64 0, .int .i64 0, .int .i64 0, .slice none 0 0, .int .i64 0, .slice none 0 0], .int .i64 0, .int .i64 6]) ?_ rfl HZ.out
    unfold results
    go_simp

end Go.Proofs.Ytgalmkhgbokidaa

namespace Go.Proofs.Ytgalmkhgbokidaa
open Go.RowKit Go.Proofs
set_option maxRecDepth 20000
set_option linter.unusedVariables false
set_option linter.unusedSimpArgs false

set_option maxHeartbeats 8000000 in
theorem rGet6 (w : World) (ba : Option Addr) (cap : Nat) (l : List Int) (at0 : Nat) (hb : Bts w.heap.size w ba l) (hlt : at0 < l.length) (hd : l.getD at0 0 = 6) (hc : l.length ≤ cap) (hl : l.length ≤ 1000000000) :
    Calls Try.prog 19 #[.slice ba l.length cap, .int .i64 (at0 : Int)] w (GAns cmdB Nice RepC c0 l (at0 : Int) w) := by
  have hat : at0 ≤ l.length := by omega
  obtain ⟨b, off, hba, hcell, _, _⟩ := hb.byte hlt
  rw [hd] at hcell
  have hbl : b < w.heap.size := by
    obtain ⟨b', off', e', hb', _⟩ := hb.cells (by rintro rfl; simp at hlt)
    rw [hba] at e'; cases e'; exact hb'
  have hcell0 : (w.alloc (.cells (cmA c0 s0) 31)).cell? ⟨b, off + at0, none⟩ = some (.int .u8 6) := (((Below.refl _ w).alloc (Nat.le_refl _) _).cell (p := ⟨b, off + at0, none⟩) hbl).trans hcell
  have HRB := hid' (Rd.byte hlt hd (by unfold DO; omega))
  have DG0 := hid' (DG.start (w := w) 6)
  have HNUM := hid' (fun W (hW : Below w.heap.size w W) (p m : Nat) (hp : p ≤ l.length) (hm : m ≤ 1000) => numbers_any W ba cap l p m ((hb.keep hW).mono hW.size) hp hc hl hm)
  have HOG := hid' (fun W (hW : Below w.heap.size w W) (p : Int) => oGet_any W ba cap l p ((hb.keep hW).mono hW.size) hc hl)
  have HGF := hid' (fun W (hW : Below w.heap.size w W) (p : Int) => rGetFront_any W ba cap l p ((hb.keep hW).mono hW.size) hc hl)
  have HGT := hid' (fun W (hW : Below w.heap.size w W) (p : Int) => rgetText_any W ba cap l p 65536 ((hb.keep hW).mono hW.size) hc hl (by omega))
  have HBY := hid' hb.range
  have ec : ((at0 + 1 : Nat) : Int) = (at0 : Int) + 1 := by simp
  have hh1 : ¬ (at0 : Int) < 0 := by omega
  have hh2 : ¬ (l.length : Int) < (at0 : Int) := by omega
  have hh3 : ¬ (at0 : Int) = (l.length : Int) := by omega
  unfold cmA c0 s0 at hcell0 DG0
  simp only [List.length_nil] at hcell0 DG0
  obtain ⟨ln, hln⟩ : ∃ n, l.length = n := ⟨_, rfl⟩
  rw [hln] at HNUM HOG HGF HGT hh2 hh3 ⊢
  have HLN := hid' hln
  have hixl : at0 < ln := by omega
  clear hb hcell hd hln
  subst hba
  have HN1 := hid' (HNUM.out _ DG0.out.bel (at0 + 1) 1 (by have := HLN.out; omega) (by omega))
  rw [ec] at HN1
  clear HGT
  go_enter Try.func19, Try.ntmps19
  go_wp2_with fail
  refine HN1.out.mono ?_
  intro e w2 hans
  obtain ⟨hb2, ⟨xn, nb, noff, nc, nx, rfl, hrd, hnx, hcn⟩ | ⟨rfl, hno⟩⟩ := num1 hans
  · have CT := DG0.out.call hb2
    have o1 := CT.bx.cell 1
    have g1 := CT.bx.frozen 1
    simp [cmA] at o1
    have HRN := hid' hrd
    have DG1 : Hid (DG w ⟨6, xn, [], (0, 0), 0, [], 0, []⟩ ⟨none, 0, none, 0, none, 0⟩ (w2.setCell ⟨w.heap.size + 1, 1, none⟩ (.int .i64 xn))) := CT.set (i := 1) (by simp [cmA]) ⟨CT.cm.row, CT.cm.front, CT.cm.sheet, CT.cm.byt, CT.cm.hr, CT.cm.hf, CT.cm.hs⟩
    have d0 := DG1.out.bx.cell 0
    simp [cmA] at d0
    clear CT DG0 hans hrd HN1 hcell0
    obtain ⟨z0, z1, z2⟩ := DG1.out.done
    have HZ := hid' (fin_yes (w := w) hat (Rd.cmd HRB.out (fun _ => rest6 HRN.out) (fun h => by cases h)) hnx z0 z1)
    obtain ⟨r0, r1, r2, r3, r4, r5, r6, r7, r8⟩ := cm_cells DG1.out.res
    obtain ⟨k0, k1, k2, k3, k4, k5, k6, k7, k8⟩ := cm_cells DG1.out.bx
    have f0 := DG1.out.res.frozen 0
    have f1 := DG1.out.res.frozen 1
    have f2 := DG1.out.res.frozen 2
    have f3 := DG1.out.res.frozen 3
    have f4 := DG1.out.res.frozen 4
    have f5 := DG1.out.res.frozen 5
    have f6 := DG1.out.res.frozen 6
    have f7 := DG1.out.res.frozen 7
    have f8 := DG1.out.res.frozen 8
    obtain ⟨t0, t1, t2, t3, t4, t5, t6, t7, t8⟩ := cm_cells z2
    unfold set9 at HZ t0 t1 t2 t3 t4 t5 t6 t7 t8
    unfold cmV cmA at HZ
    simp only [c0, s0] at r0 r1 r2 r3 r4 r5 r6 r7 r8
    simp only [List.length_nil] at HZ r0 r1 r2 r3 r4 r5 r6 r7 r8 t0 t1 t2 t3 t4 t5 t6 t7 t8 k0 k1 k2 k3 k4 k5 k6 k7 k8
    clear z0 z1 z2 DG1 HNUM HOG HGF hb2
    go_wp2
    refine bodyPost_ret (v := .tuple #[.agg #[.int .i64 6, .int .i64 xn, .slice none 0 0, .int .i64 0, .int .i64 0, .int .i64 0, .slice none 0 0, .int .i64 0, .slice none 0 0], .int .i64 (nx : Int), .int .i64 0]) ?_ rfl HZ.out
    unfold results
    go_simp
  · have DG1 := hid' (DG0.out.call hb2)
    have HNO := hid' (hno 0)
    clear hans HN1 hb2 hno DG0 HNUM HOG HGF hcell0
    obtain ⟨z1, z2⟩ := DG1.out.zero
    have HZ := hid' (fin_no (w := w) hat (Rd.cmd HRB.out (fun _ => rest6 HNO.out) (fun h => by cases h)) z1)
    obtain ⟨r0, r1, r2, r3, r4, r5, r6, r7, r8⟩ := cm_cells DG1.out.res
    have f0 := DG1.out.res.frozen 0
    have f1 := DG1.out.res.frozen 1
    have f2 := DG1.out.res.frozen 2
    have f3 := DG1.out.res.frozen 3
    have f4 := DG1.out.res.frozen 4
    have f5 := DG1.out.res.frozen 5
    have f6 := DG1.out.res.frozen 6
    have f7 := DG1.out.res.frozen 7
    have f8 := DG1.out.res.frozen 8
    obtain ⟨t0, t1, t2, t3, t4, t5, t6, t7, t8⟩ := cm_cells z2
    unfold set9 at HZ t0 t1 t2 t3 t4 t5 t6 t7 t8
    unfold cmV cmA at HZ
    simp only [c0, s0, List.length_nil] at HZ r0 r1 r2 r3 r4 r5 r6 r7 r8 t0 t1 t2 t3 t4 t5 t6 t7 t8
    clear z1 z2 DG1 
    go_wp2
    refine bodyPost_ret (v := .tuple #[.agg #[.int .i64 0, .int .i64 0, .slice none 0 0, .int .i64 0, .int .i64 0, .int .i64 0, .slice none 0 0, .int .i64 0, .slice none 0 0], .int .i64 0, .int .i64 6]) ?_ rfl HZ.out
    unfold results
    go_simp

end Go.Proofs.Ytgalmkhgbokidaa
