/-
  What is proved here: the document's Get where the byte 1 stands.
-/
import Derived.Test.YtgalmkhgbokidaaWVa
namespace Go.Proofs.Ytgalmkhgbokidaa
open Go.RowKit Go.Proofs
set_option maxRecDepth 20000
set_option linter.unusedVariables false
set_option linter.unusedSimpArgs false

set_option maxHeartbeats 8000000 in
theorem rGet1 (w : World) (ba : Option Addr) (cap : Nat) (l : List Int) (at0 : Nat) (hb : Bts w.heap.size w ba l) (hlt : at0 < l.length) (hd : l.getD at0 0 = 1) (hc : l.length ≤ cap) (hl : l.length ≤ 1000000000) :
    Calls Try.prog 19 #[.slice ba l.length cap, .int .i64 (at0 : Int)] w (GAns cmdB Nice RepC c0 l (at0 : Int) w) := by
  have hat : at0 ≤ l.length := by omega
  obtain ⟨b, off, hba, hcell, _, _⟩ := hb.byte hlt
  rw [hd] at hcell
  have hbl : b < w.heap.size := by
    obtain ⟨b', off', e', hb', _⟩ := hb.cells (by rintro rfl; simp at hlt)
    rw [hba] at e'; cases e'; exact hb'
  have hcell0 : (w.alloc (.cells (cmA c0 s0) 31)).cell? ⟨b, off + at0, none⟩ = some (.int .u8 1) := (((Below.refl _ w).alloc (Nat.le_refl _) _).cell (p := ⟨b, off + at0, none⟩) hbl).trans hcell
  have HRB := hid' (Rd.byte hlt hd (by unfold DO; omega))
  have DG0 := hid' (DG.start (w := w) 1)
  have HNUM := hid' (fun W (hW : Below w.heap.size w W) (p m : Nat) (hp : p ≤ l.length) (hm : m ≤ 1000) => numbers_any W ba cap l p m ((hb.keep hW).mono hW.size) hp hc hl hm)
  have HOG := hid' (fun W (hW : Below w.heap.size w W) (p : Int) => oGet_any W ba cap l p ((hb.keep hW).mono hW.size) hc hl)
  have HGF := hid' (fun W (hW : Below w.heap.size w W) (p : Int) => rGetFront_any W ba cap l p ((hb.keep hW).mono hW.size) hc hl)
  have HGT := hid' (fun W (hW : Below w.heap.size w W) (p : Int) => rgetText_any W ba cap l p 65536 ((hb.keep hW).mono hW.size) hc hl (by omega))
  have HBY := hid' hb.range
  have ec : ((at0 + 1 : Nat) : Int) = (at0 : Int) + 1 := by simp
  have hh1 : ¬ (at0 : Int) < 0 := by omega
  have hh2 : ¬ (l.length : Int) < (at0 : Int) := by omega
  have hh3 : ¬ (at0 : Int) = (l.length : Int) := by omega
  unfold cmA c0 s0 at hcell0 DG0
  simp only [List.length_nil] at hcell0 DG0
  obtain ⟨ln, hln⟩ : ∃ n, l.length = n := ⟨_, rfl⟩
  rw [hln] at HNUM HOG HGF HGT hh2 hh3 ⊢
  have HLN := hid' hln
  have hixl : at0 < ln := by omega
  clear hb hcell hd hln
  subst hba
  have HN1 := hid' (HNUM.out _ DG0.out.bel (at0 + 1) 1 (by have := HLN.out; omega) (by omega))
  rw [ec] at HN1
  clear HGT
  go_enter Try.func19, Try.ntmps19
  go_wp2_with fail
  refine HN1.out.mono ?_
  intro e w2 hans
  obtain ⟨hb2, ⟨xn, nb, noff, nc, nx, rfl, hrd, hnx, hcn⟩ | ⟨rfl, hno⟩⟩ := num1 hans
  · have CT := DG0.out.call hb2
    have o1 := CT.bx.cell 1
    have g1 := CT.bx.frozen 1
    simp [cmA] at o1
    have HRN := hid' hrd
    have DG1 : Hid (DG w ⟨1, xn, [], (0, 0), 0, [], 0, []⟩ ⟨none, 0, none, 0, none, 0⟩ (w2.setCell ⟨w.heap.size + 1, 1, none⟩ (.int .i64 xn))) := CT.set (i := 1) (by simp [cmA]) ⟨CT.cm.row, CT.cm.front, CT.cm.sheet, CT.cm.byt, CT.cm.hr, CT.cm.hf, CT.cm.hs⟩
    have d0 := DG1.out.bx.cell 0
    simp [cmA] at d0
    clear CT DG0 hans hrd HN1 hcell0
    have HR2 := hid' (HOG.out _ DG1.out.bel (nx : Int))
    clear HOG HGF hb2
    go_wp2_with fail
    refine HR2.out.mono ?_
    intro e w3 hans
    obtain ⟨v, next, er, rfl, ⟨xr, ⟨ra, rc, hv, hp, hsh⟩, hgot⟩, hb3⟩ := GAns.got hnx hans
    subst hv
    have CT := DG1.out.call hb3
    have o2 := CT.bx.cell 2
    have g2 := CT.bx.frozen 2
    simp [cmA] at o2
    have DG2 : Hid (DG w ⟨1, xn, xr, (0, 0), 0, [], 0, []⟩ ⟨ra, rc, none, 0, none, 0⟩ (w3.setCell ⟨w.heap.size + 1, 2, none⟩ (.slice ra xr.length rc))) := CT.set (i := 2) (by simp [cmA]) ⟨SP.mono hp (fun k hk => by unfold Since at hk; have := DG1.out.lt; omega), CT.cm.front, CT.cm.sheet, CT.cm.byt, hsh, CT.cm.hf, CT.cm.hs⟩
    clear CT DG1 hans HR2 hb3 hp hsh
    rcases hgot with ⟨rfl, hD, hdr, hnn, hnl⟩ | ⟨her, hno⟩
    · obtain ⟨nx2, rfl⟩ := Int.eq_ofNat_of_zero_le (show 0 ≤ next by omega)
      rw [Int.toNat_natCast] at hdr hnl
      have HRR : Hid (Rd rowB (LD 16 VN) (some (l.drop nx)) xr (some (l.drop nx2))) := (⟨hD, hdr⟩ : _ ∧ _)
      have HN3 := hid' (HNUM.out _ DG2.out.bel nx2 3 (by have := HLN.out; omega) (by omega))
      clear hD hdr hnn HNUM
      go_wp2_with fail
      refine HN3.out.mono ?_
      intro e w4 hans
      obtain ⟨hb4, ⟨xt, xu, xd, nb3, noff3, nc3, nx3, s4, rfl, hrd3, hrd4, hnx3, hnb3, hc30, hc31, hc32⟩ | ⟨rfl, tt, s4, hno1, hno2⟩⟩ := num3 hans
      · have CT := DG2.out.call hb4
        have hnbC : nb3 ≠ w.heap.size + 1 := by have := DG2.out.lt; omega
        have HI : Hid (r1Inv w nb3 noff3 xt xu xd ⟨1, xn, xr, (0, 0), 0, [], 0, []⟩ ⟨1, xn, xr, (xt, xu), 0, [], 0, []⟩ ⟨1, xn, xr, (xt, xu), xd, [], 0, []⟩ ⟨ra, rc, none, 0, none, 0⟩ [] w4.drew) := ⟨⟨by simpa using hc30, by simpa using hc31, by simpa using hc32⟩, CT.call (Below.refl _ _).drew⟩
        have HR3 := hid' hrd3
        have HR4 := hid' hrd4
        clear CT DG2 hans hrd3 hrd4 HN3 hb4 hc30 hc31 hc32
        go_wp2_with fail
        refine PQ.wp_region_quiet (r1Val (w.heap.size + 1) nb3 noff3 nc3 xt xu xd) (r1Inv w nb3 noff3 xt xu xd ⟨1, xn, xr, (0, 0), 0, [], 0, []⟩ ⟨1, xn, xr, (xt, xu), 0, [], 0, []⟩ ⟨1, xn, xr, (xt, xu), xd, [], 0, []⟩ ⟨ra, rc, none, 0, none, 0⟩) mixed' (by kernel_rfl) HI.out ?_ ?_
        · refine ⟨?_, ?_, ?_, ?_, ?_, ?_, ?_, ?_, ?_, ?_, ?_, ?_, ?_, ?_, ?_, ?_, trivial⟩
          · intro vs A W hI hC
            exact ⟨PB.wanted_free rfl, run_moveD W (hC.outer 11 rfl)⟩
          · intro vs A W hI hC
            exact ⟨PB.wanted_free rfl, run_ixC 0 W (hC.left 0 rfl) rfl (by omega) (by omega)⟩
          · intro vs A W hI hC
            exact ⟨PB.wanted_free rfl, run_loadZ W (hC.left 1 rfl) hI.1.1⟩
          · intro vs A W hI hC
            exact ⟨PB.wanted_free rfl, run_moveD W (hC.outer 11 rfl)⟩
          · intro vs A W hI hC
            exact ⟨PB.wanted_free rfl, run_ixC 1 W (hC.left 3 rfl) rfl (by omega) (by omega)⟩
          · intro vs A W hI hC
            exact ⟨PB.wanted_free rfl, run_loadZ W (hC.left 4 rfl) hI.1.2.1⟩
          · intro vs A W hI hC
            exact ⟨PB.wanted_free rfl, run_bldT W (hC.left 2 rfl) (hC.left 5 rfl)⟩
          · intro vs A W hI hC
            exact ⟨PB.wanted_free rfl, run_moveD W (hC.outer 11 rfl)⟩
          · intro vs A W hI hC
            exact ⟨PB.wanted_free rfl, run_ixC 2 W (hC.left 7 rfl) rfl (by omega) (by omega)⟩
          · intro vs A W hI hC
            exact ⟨PB.wanted_free rfl, run_loadZ W (hC.left 8 rfl) hI.1.2.2⟩
          · intro vs A W hI hC
            exact ⟨PB.wanted_free rfl, run_faCmd2 W (hC.outer 7 rfl)⟩
          · intro vs A W hI hC
            exact ⟨PB.wanted_free rfl, run_faUp1 W (hC.left 10 rfl)⟩
          · intro vs A W hk hI hC
            obtain rfl : vs = [] := List.length_eq_zero_iff.1 hk
            obtain ⟨⟨i0, i1, i2⟩, hG⟩ := hI
            refine ⟨PB.wanted_free rfl, PQ.loud_skip rfl (run_storeT W (hC.left 11 rfl) (hC.left 6 rfl) (hG.bx.cell 3) (hG.bx.cell 4) (hG.bx.frozen 3) (hG.bx.frozen 4)) ?_⟩
            have hq : DG w ⟨1, xn, xr, (xt, 0), 0, [], 0, []⟩ ⟨ra, rc, none, 0, none, 0⟩ (W.setCell ⟨w.heap.size + 1, 3, none⟩ (.int .i64 xt)) := hG.set (i := 3) (by simp [cmA]) ⟨hG.cm.row, hG.cm.front, hG.cm.sheet, hG.cm.byt, hG.cm.hr, hG.cm.hf, hG.cm.hs⟩
            exact ⟨⟨(cell_set hnbC).trans ((cell_set hnbC).trans i0), (cell_set hnbC).trans ((cell_set hnbC).trans i1), (cell_set hnbC).trans ((cell_set hnbC).trans i2)⟩, hq.set (i := 4) (by simp [cmA]) ⟨hq.cm.row, hq.cm.front, hq.cm.sheet, hq.cm.byt, hq.cm.hr, hq.cm.hf, hq.cm.hs⟩⟩
          · intro vs A W hI hC
            exact ⟨PB.wanted_free rfl, run_faCmd2 W (hC.outer 7 rfl)⟩
          · intro vs A W hI hC
            exact ⟨PB.wanted_free rfl, run_faUp2 W (hC.left 13 rfl)⟩
          · intro vs A W hk hI hC
            match vs, hk, hI, hC with
            | [p], _, hI, hC =>
              obtain ⟨⟨i0, i1, i2⟩, hG⟩ := hI
              refine ⟨PB.wanted_free rfl, PQ.loud_skip rfl (run_storeZ W (hC.left 14 rfl) (hC.left 9 rfl) (hG.bx.cell 5) (hG.bx.frozen 5)) ?_⟩
              exact ⟨⟨(cell_set hnbC).trans i0, (cell_set hnbC).trans i1, (cell_set hnbC).trans i2⟩, hG.set (i := 5) (by simp [cmA]) ⟨hG.cm.row, hG.cm.front, hG.cm.sheet, hG.cm.byt, hG.cm.hr, hG.cm.hf, hG.cm.hs⟩⟩
        · intro vs A W hk hI hE
          match vs, hk, hI, hE with
          | [p, q], _, hI, hE =>
            have DG3 : Hid (DG w ⟨1, xn, xr, (xt, xu), xd, [], 0, []⟩ ⟨ra, rc, none, 0, none, 0⟩ W) := hI.2
            clear hI
            have h_103 : PB.slot A 103 = .slice (some ⟨nb3, noff3, none⟩) 3 nc3 := hE.left 0
            have h_104 : PB.slot A 104 = .pointer (some ⟨nb3, noff3 + 0, none⟩) := hE.left 1
            have h_105 : PB.slot A 105 = .int .i64 xt := hE.left 2
            have h_106 : PB.slot A 106 = .slice (some ⟨nb3, noff3, none⟩) 3 nc3 := hE.left 3
            have h_107 : PB.slot A 107 = .pointer (some ⟨nb3, noff3 + 1, none⟩) := hE.left 4
            have h_108 : PB.slot A 108 = .int .i64 xu := hE.left 5
            have h_109 : PB.slot A 109 = .agg #[.int .i64 xt, .int .i64 xu] := hE.left 6
            have h_110 : PB.slot A 110 = .slice (some ⟨nb3, noff3, none⟩) 3 nc3 := hE.left 7
            have h_111 : PB.slot A 111 = .pointer (some ⟨nb3, noff3 + 2, none⟩) := hE.left 8
            have h_112 : PB.slot A 112 = .int .i64 xd := hE.left 9
            have h_113 : PB.slot A 113 = .pointer (some ⟨w.heap.size + 1, 2, none⟩) := hE.left 10
            have h_114 : PB.slot A 114 = .pointer (some ⟨w.heap.size + 1, 3, none⟩) := hE.left 11
            have h_115 : PB.slot A 115 = .pointer (some ⟨w.heap.size + 1, 2, none⟩) := hE.left 13
            have h_116 : PB.slot A 116 = .pointer (some ⟨w.heap.size + 1, 5, none⟩) := hE.left 14
            have hA := PQ.frame_puts hE.defers hE.size [103, 104, 105, 106, 107, 108, 109, 110, 111, 112, 113, 114, 115, 116] (fun t ht => hE.outer t (by simp only [List.mem_cons, List.not_mem_nil, or_false, not_or] at ht; simp [PB.outer]; omega))
            obtain ⟨fr, hf⟩ : ∃ f, PB.slot A = f := ⟨_, rfl⟩
            rw [hA]
            simp only [PQ.puts]
            rw [hf] at h_103 h_104 h_105 h_106 h_107 h_108 h_109 h_110 h_111 h_112 h_113 h_114 h_115 h_116 ⊢
            clear hA hf hE
            simp only [h_103, h_104, h_105, h_106, h_107, h_108, h_109, h_110, h_111, h_112, h_113, h_114, h_115, h_116, Act.put, List.setIfInBounds_toArray, List.set_cons_succ, List.set_cons_zero]
            clear h_103 h_104 h_105 h_106 h_107 h_108 h_109 h_110 h_111 h_112 h_113 h_114 h_115 h_116
            clear HI d0
            obtain ⟨z0, z1, z2⟩ := DG3.out.done
            have HZ := hid' (fin_yes (w := w) hat (Rd.cmd HRB.out (fun _ => rest1 HRN.out HRR.out HR3.out HR4.out) (fun h => by cases h)) hnx3 z0 z1)
            obtain ⟨r0, r1, r2, r3, r4, r5, r6, r7, r8⟩ := cm_cells DG3.out.res
            obtain ⟨k0, k1, k2, k3, k4, k5, k6, k7, k8⟩ := cm_cells DG3.out.bx
            have f0 := DG3.out.res.frozen 0
            have f1 := DG3.out.res.frozen 1
            have f2 := DG3.out.res.frozen 2
            have f3 := DG3.out.res.frozen 3
            have f4 := DG3.out.res.frozen 4
            have f5 := DG3.out.res.frozen 5
            have f6 := DG3.out.res.frozen 6
            have f7 := DG3.out.res.frozen 7
            have f8 := DG3.out.res.frozen 8
            obtain ⟨t0, t1, t2, t3, t4, t5, t6, t7, t8⟩ := cm_cells z2
            unfold set9 at HZ t0 t1 t2 t3 t4 t5 t6 t7 t8
            unfold cmV cmA at HZ
            simp only [c0, s0] at r0 r1 r2 r3 r4 r5 r6 r7 r8
            simp only [List.length_nil] at HZ r0 r1 r2 r3 r4 r5 r6 r7 r8 t0 t1 t2 t3 t4 t5 t6 t7 t8 k0 k1 k2 k3 k4 k5 k6 k7 k8
            clear z0 z1 z2 DG3 
            go_wp2
            refine bodyPost_ret (v := .tuple #[.agg #[.int .i64 1, .int .i64 xn, .slice ra xr.length rc, .int .i64 xt, .int .i64 xu, .int .i64 xd, .slice none 0 0, .int .i64 0, .slice none 0 0], .int .i64 (nx3 : Int), .int .i64 0]) ?_ rfl HZ.out
            unfold results
            go_simp
      · have DG3 := hid' (DG2.out.call hb4)
        have HNO1 := hid' hno1
        have HNO2 := hid' hno2
        clear hans HN3 hb4 hno1 hno2 DG2
        obtain ⟨z1, z2⟩ := DG3.out.zero
        have HZ := hid' (fin_no (w := w) hat (Rd.cmd HRB.out (fun _ => rest1 HRN.out HRR.out HNO1.out HNO2.out) (fun h => by cases h)) z1)
        obtain ⟨r0, r1, r2, r3, r4, r5, r6, r7, r8⟩ := cm_cells DG3.out.res
        have f0 := DG3.out.res.frozen 0
        have f1 := DG3.out.res.frozen 1
        have f2 := DG3.out.res.frozen 2
        have f3 := DG3.out.res.frozen 3
        have f4 := DG3.out.res.frozen 4
        have f5 := DG3.out.res.frozen 5
        have f6 := DG3.out.res.frozen 6
        have f7 := DG3.out.res.frozen 7
        have f8 := DG3.out.res.frozen 8
        obtain ⟨t0, t1, t2, t3, t4, t5, t6, t7, t8⟩ := cm_cells z2
        unfold set9 at HZ t0 t1 t2 t3 t4 t5 t6 t7 t8
        unfold cmV cmA at HZ
        simp only [c0, s0, List.length_nil] at HZ r0 r1 r2 r3 r4 r5 r6 r7 r8 t0 t1 t2 t3 t4 t5 t6 t7 t8
        clear z1 z2 DG3 
        go_wp2
        refine bodyPost_ret (v := .tuple #[.agg #[.int .i64 0, .int .i64 0, .slice none 0 0, .int .i64 0, .int .i64 0, .int .i64 0, .slice none 0 0, .int .i64 0, .slice none 0 0], .int .i64 0, .int .i64 6]) ?_ rfl HZ.out
        unfold results
        go_simp
    · have HNO : Hid (Rd rowB (LD 16 VN) (some (l.drop nx)) [] none) := hno
      have her' : (er != 0) = true := by simpa using her
      have hez : (er == 0) = false := by simpa using her
      clear hno HNUM
      obtain ⟨z1, z2⟩ := DG2.out.zero
      have HZ := hid' (fin_no (w := w) hat (Rd.cmd HRB.out (fun _ => rest1 HRN.out HNO.out (rdN t0) (rdN 0)) (fun h => by cases h)) z1)
      obtain ⟨r0, r1, r2, r3, r4, r5, r6, r7, r8⟩ := cm_cells DG2.out.res
      have f0 := DG2.out.res.frozen 0
      have f1 := DG2.out.res.frozen 1
      have f2 := DG2.out.res.frozen 2
      have f3 := DG2.out.res.frozen 3
      have f4 := DG2.out.res.frozen 4
      have f5 := DG2.out.res.frozen 5
      have f6 := DG2.out.res.frozen 6
      have f7 := DG2.out.res.frozen 7
      have f8 := DG2.out.res.frozen 8
      obtain ⟨t0, t1, t2, t3, t4, t5, t6, t7, t8⟩ := cm_cells z2
      unfold set9 at HZ t0 t1 t2 t3 t4 t5 t6 t7 t8
      unfold cmV cmA at HZ
      simp only [c0, s0, List.length_nil] at HZ r0 r1 r2 r3 r4 r5 r6 r7 r8 t0 t1 t2 t3 t4 t5 t6 t7 t8
      clear z1 z2 DG2 
      go_wp2
      refine bodyPost_ret (v := .tuple #[.agg #[.int .i64 0, .int .i64 0, .slice none 0 0, .int .i64 0, .int .i64 0, .int .i64 0, .slice none 0 0, .int .i64 0, .slice none 0 0], .int .i64 0, .int .i64 6]) ?_ rfl HZ.out
      unfold results
      go_simp
  · have DG1 := hid' (DG0.out.call hb2)
    have HNO := hid' (hno 0)
    clear hans HN1 hb2 hno DG0 HNUM HOG HGF hcell0
    obtain ⟨z1, z2⟩ := DG1.out.zero
    have HZ := hid' (fin_no (w := w) hat (Rd.cmd HRB.out (fun _ => rest1 HNO.out (rdN []) (rdN t0) (rdN 0)) (fun h => by cases h)) z1)
    obtain ⟨r0, r1, r2, r3, r4, r5, r6, r7, r8⟩ := cm_cells DG1.out.res
    have f0 := DG1.out.res.frozen 0
    have f1 := DG1.out.res.frozen 1
    have f2 := DG1.out.res.frozen 2
    have f3 := DG1.out.res.frozen 3
    have f4 := DG1.out.res.frozen 4
    have f5 := DG1.out.res.frozen 5
    have f6 := DG1.out.res.frozen 6
    have f7 := DG1.out.res.frozen 7
    have f8 := DG1.out.res.frozen 8
    obtain ⟨t0, t1, t2, t3, t4, t5, t6, t7, t8⟩ := cm_cells z2
    unfold set9 at HZ t0 t1 t2 t3 t4 t5 t6 t7 t8
    unfold cmV cmA at HZ
    simp only [c0, s0, List.length_nil] at HZ r0 r1 r2 r3 r4 r5 r6 r7 r8 t0 t1 t2 t3 t4 t5 t6 t7 t8
    clear z1 z2 DG1 
    go_wp2
    refine bodyPost_ret (v := .tuple #[.agg #[.int .i64 0, .int .i64 0, .slice none 0 0, .int .i64 0, .int .i64 0, .int .i64 0, .slice none 0 0, .int .i64 0, .slice none 0 0], .int .i64 0, .int .i64 6]) ?_ rfl HZ.out
    unfold results
    go_simp

end Go.Proofs.Ytgalmkhgbokidaa
