/-
  What is proved here: the document's Get where the byte 0 stands.
-/
import Derived.Test.YtgalmkhgbokidaaWVa
namespace Go.Proofs.Ytgalmkhgbokidaa
open Go.RowKit Go.Proofs
set_option maxRecDepth 20000
set_option linter.unusedVariables false
set_option linter.unusedSimpArgs false

set_option maxHeartbeats 8000000 in
theorem rGet0 (w : World) (ba : Option Addr) (cap : Nat) (l : List Int) (at0 : Nat) (hb : Bts w.heap.size w ba l) (hlt : at0 < l.length) (hd : l.getD at0 0 = 0) (hc : l.length ≤ cap) (hl : l.length ≤ 1000000000) :
    Calls Try.prog 19 #[.slice ba l.length cap, .int .i64 (at0 : Int)] w (GAns cmdB Nice RepC c0 l (at0 : Int) w) := by
  have hat : at0 ≤ l.length := by omega
  obtain ⟨b, off, hba, hcell, _, _⟩ := hb.byte hlt
  rw [hd] at hcell
  have hbl : b < w.heap.size := by
    obtain ⟨b', off', e', hb', _⟩ := hb.cells (by rintro rfl; simp at hlt)
    rw [hba] at e'; cases e'; exact hb'
  have hcell0 : (w.alloc (.cells (cmA c0 s0) 31)).cell? ⟨b, off + at0, none⟩ = some (.int .u8 0) := (((Below.refl _ w).alloc (Nat.le_refl _) _).cell (p := ⟨b, off + at0, none⟩) hbl).trans hcell
  have HRB := hid' (Rd.byte hlt hd (by unfold DO; omega))
  have DG0 := hid' (DG.start (w := w) 0)
  have HNUM := hid' (fun W (hW : Below w.heap.size w W) (p m : Nat) (hp : p ≤ l.length) (hm : m ≤ 1000) => numbers_any W ba cap l p m ((hb.keep hW).mono hW.size) hp hc hl hm)
  have HOG := hid' (fun W (hW : Below w.heap.size w W) (p : Int) => oGet_any W ba cap l p ((hb.keep hW).mono hW.size) hc hl)
  have HGF := hid' (fun W (hW : Below w.heap.size w W) (p : Int) => rGetFront_any W ba cap l p ((hb.keep hW).mono hW.size) hc hl)
  have HGT := hid' (fun W (hW : Below w.heap.size w W) (p : Int) => rgetText_any W ba cap l p 65536 ((hb.keep hW).mono hW.size) hc hl (by omega))
  have HBY := hid' hb.range
  have ec : ((at0 + 1 : Nat) : Int) = (at0 : Int) + 1 := by simp
  have hh1 : ¬ (at0 : Int) < 0 := by omega
  have hh2 : ¬ (l.length : Int) < (at0 : Int) := by omega
  have hh3 : ¬ (at0 : Int) = (l.length : Int) := by omega
  unfold cmA c0 s0 at hcell0 DG0
  simp only [List.length_nil] at hcell0 DG0
  obtain ⟨ln, hln⟩ : ∃ n, l.length = n := ⟨_, rfl⟩
  rw [hln] at HNUM HOG HGF HGT hh2 hh3 ⊢
  have HLN := hid' hln
  have hixl : at0 < ln := by omega
  clear hb hcell hd hln
  subst hba
  have HT := hid' (HGT.out _ DG0.out.bel ((at0 : Int) + 1))
  clear HNUM HOG HGF HGT
  go_enter Try.func19, Try.ntmps19
  go_wp2_with fail
  refine HT.out.mono ?_
  rintro e w2 ⟨⟨sx, next, er, rfl, hrel⟩, hb2⟩
  have DG1 := hid' (DG0.out.call hb2)
  have hby := text_byt HBY.out hrel
  clear DG0 HT hb2 hcell0
  by_cases her : er = 0
  · subst her
    obtain ⟨y1, y2, y3, y4, y5⟩ := sheet_yes (most := 65536) HBY.out (by rw [← ec] at hrel; exact hrel)
    obtain ⟨nx, rfl⟩ := Int.eq_ofNat_of_zero_le (show 0 ≤ next by omega)
    rw [Int.toNat_natCast] at y3 y5
    have HRS : Hid (Rd shB SN (some (l.drop (at0 + 1))) sx (some (l.drop nx))) := (⟨⟨y1, y2⟩, y3⟩ : _ ∧ _)
    obtain ⟨W, c, hcv, hbW, a', c', hv', hp', hsh', hby'⟩ := new_bytes w2 sx hby
    cases hv'
    have CT := DG1.out.call hbW
    have o8 := CT.bx.cell 8
    have g8 := CT.bx.frozen 8
    simp [cmA] at o8
    have DG2 : Hid (DG w ⟨0, 0, [], (0, 0), 0, [], 0, sx⟩ ⟨none, 0, none, 0, some ⟨w2.heap.size, 0, none⟩, c⟩ (W.setCell ⟨w.heap.size + 1, 8, none⟩ (.slice (some ⟨w2.heap.size, 0, none⟩) sx.length c))) := CT.set (i := 8) (by simp [cmA]) ⟨CT.cm.row, CT.cm.front, SP.mono hp' (fun k hk => by unfold Since at hk; have := DG1.out.lt; omega), hby', CT.cm.hr, CT.cm.hf, hsh'⟩
    clear CT DG1 y1 y2 y3 y4 hrel hp' hsh' hby' hby
    generalize strOfNums sx = st at *
    generalize hg2 : w2.heap.size = g2 at *
    obtain ⟨z0, z1, z2⟩ := DG2.out.done
    have HZ := hid' (fin_yes (w := w) hat (Rd.cmd HRB.out (fun _ => rest0 HRS.out) (fun h => by cases h)) y5 z0 z1)
    obtain ⟨r0, r1, r2, r3, r4, r5, r6, r7, r8⟩ := cm_cells DG2.out.res
    obtain ⟨k0, k1, k2, k3, k4, k5, k6, k7, k8⟩ := cm_cells DG2.out.bx
    have f0 := DG2.out.res.frozen 0
    have f1 := DG2.out.res.frozen 1
    have f2 := DG2.out.res.frozen 2
    have f3 := DG2.out.res.frozen 3
    have f4 := DG2.out.res.frozen 4
    have f5 := DG2.out.res.frozen 5
    have f6 := DG2.out.res.frozen 6
    have f7 := DG2.out.res.frozen 7
    have f8 := DG2.out.res.frozen 8
    obtain ⟨t0, t1, t2, t3, t4, t5, t6, t7, t8⟩ := cm_cells z2
    unfold set9 at HZ t0 t1 t2 t3 t4 t5 t6 t7 t8
    unfold cmV cmA at HZ
    simp only [c0, s0] at r0 r1 r2 r3 r4 r5 r6 r7 r8
    simp only [List.length_nil] at HZ r0 r1 r2 r3 r4 r5 r6 r7 r8 t0 t1 t2 t3 t4 t5 t6 t7 t8 k0 k1 k2 k3 k4 k5 k6 k7 k8
    clear z0 z1 z2 DG2 hbW hg2
    go_wp2
    refine bodyPost_ret (v := .tuple #[.agg #[.int .i64 0, .int .i64 0, .slice none 0 0, .int .i64 0, .int .i64 0, .int .i64 0, .slice none 0 0, .int .i64 0, .slice (some ⟨g2, 0, none⟩) sx.length c], .int .i64 (nx : Int), .int .i64 0]) ?_ rfl HZ.out
    unfold results
    go_simp
  · have hno : Rd shB SN (some (l.drop (at0 + 1))) [] none := fun y r hy => sheet_no (most := 65536) (by omega) (by omega) (by rw [← ec] at hrel; exact hrel) her y r hy.1
    have HNO := hid' hno
    have her' : (er != 0) = true := by simpa using her
    clear hrel hby hno
    generalize strOfNums sx = st at *
    obtain ⟨z1, z2⟩ := DG1.out.zero
    have HZ := hid' (fin_no (w := w) hat (Rd.cmd HRB.out (fun _ => rest0 HNO.out) (fun h => by cases h)) z1)
    obtain ⟨r0, r1, r2, r3, r4, r5, r6, r7, r8⟩ := cm_cells DG1.out.res
    have f0 := DG1.out.res.frozen 0
    have f1 := DG1.out.res.frozen 1
    have f2 := DG1.out.res.frozen 2
    have f3 := DG1.out.res.frozen 3
    have f4 := DG1.out.res.frozen 4
    have f5 := DG1.out.res.frozen 5
    have f6 := DG1.out.res.frozen 6
    have f7 := DG1.out.res.frozen 7
    have f8 := DG1.out.res.frozen 8
    obtain ⟨t0, t1, t2, t3, t4, t5, t6, t7, t8⟩ := cm_cells z2
    unfold set9 at HZ t0 t1 t2 t3 t4 t5 t6 t7 t8
    unfold cmV cmA at HZ
    simp only [c0, s0, List.length_nil] at HZ r0 r1 r2 r3 r4 r5 r6 r7 r8 t0 t1 t2 t3 t4 t5 t6 t7 t8
    clear z1 z2 DG1 
    go_wp2
    refine bodyPost_ret (v := .tuple #[.agg #[.int .i64 0, .int .i64 0, .slice none 0 0, .int .i64 0, .int .i64 0, .int .i64 0, .slice none 0 0, .int .i64 0, .slice none 0 0], .int .i64 0, .int .i64 6]) ?_ rfl HZ.out
    unfold results
    go_simp

end Go.Proofs.Ytgalmkhgbokidaa
