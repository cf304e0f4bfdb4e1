/-
  What is proved here: the document's Same answers whether two plans are the same.
-/
import Derived.Test.YtjpjeledbjpaeaaReg6
namespace Go.Proofs.Ytjpjeledbjpaeaa
open Go.RowKit Go.Proofs
set_option maxRecDepth 20000
set_option linter.unusedVariables false
set_option linter.unusedSimpArgs false

theorem mixed : Try.prog.follows .mixedOrders = true := by kernel_rfl

/-- What the first ten operations of the statement leave. -/
def vals6 (bp bq b1 o1 n c1 b2 o2 c2 j : Nat) (xv yv : Value) : Nat → Option Value
  | 0 => some (ptr bp) | 1 => some (.slice (some ⟨b1, o1, none⟩) n c1) | 2 => some (.int .i64 (j : Int)) | 3 => some (.pointer (some ⟨b1, o1 + j * 9, none⟩)) | 4 => some xv
  | 5 => some (ptr bq) | 6 => some (.slice (some ⟨b2, o2, none⟩) n c2) | 7 => some (.int .i64 (j : Int)) | 8 => some (.pointer (some ⟨b2, o2 + j * 9, none⟩)) | 9 => some yv
  | _ => none

theorem vals6_lt {bp bq b1 o1 n c1 b2 o2 c2 j : Nat} {xv yv : Value} : ∀ k v, vals6 bp bq b1 o1 n c1 b2 o2 c2 j xv yv k = some v → k < 10 := by
  intro k v h
  match k, h with
  | 0, _ | 1, _ | 2, _ | 3, _ | 4, _ | 5, _ | 6, _ | 7, _ | 8, _ | 9, _ => omega
  | k + 10, h => simp [vals6] at h

/-- A node's cells. -/
def ndCs (x : Nd) (s : NdS) : Array Value := #[.int .i64 x.kind, .slice s.a1 x.ins.length s.c1, .slice s.a2 x.kinds.length s.c2, .slice s.a3 x.exprs.length s.c3, .slice s.a4 x.cols.length s.c4, .int .i64 x.key, .int .i64 x.n, .int .i64 x.size, .int .i64 x.slide]

theorem ndCs_one (x : Nd) (s : NdS) : (ndCs x s).all (·.oneCell') = true := by
  simp [ndCs, Value.oneCell']

theorem NdB.of {w : World} {b : Nat} {x : Nd} {s : NdS} (h : Bx w b (ndCs x s) 44) : NdB w b x s :=
  ⟨h.cell 0, h.cell 1, h.cell 2, h.cell 3, h.cell 4, h.cell 5, h.cell 6, h.cell 7, h.cell 8, h.lt⟩

theorem NdB.below {w w' : World} {b : Nat} {x : Nd} {s : NdS} (h : NdB w b x s) (B : Below w.heap.size w w') : NdB w' b x s :=
  ⟨(B.cell (p := ⟨b, 0, none⟩) h.lt).trans h.k0, (B.cell (p := ⟨b, 1, none⟩) h.lt).trans h.k1, (B.cell (p := ⟨b, 2, none⟩) h.lt).trans h.k2, (B.cell (p := ⟨b, 3, none⟩) h.lt).trans h.k3, (B.cell (p := ⟨b, 4, none⟩) h.lt).trans h.k4,
   (B.cell (p := ⟨b, 5, none⟩) h.lt).trans h.k5, (B.cell (p := ⟨b, 6, none⟩) h.lt).trans h.k6, (B.cell (p := ⟨b, 7, none⟩) h.lt).trans h.k7, (B.cell (p := ⟨b, 8, none⟩) h.lt).trans h.k8, Nat.lt_of_lt_of_le h.lt B.size⟩

theorem bel_trans {a b c : World} (h : Below a.heap.size a b) (k : Below b.heap.size b c) : Below a.heap.size a c := h.trans (k.mono h.size)

set_option maxHeartbeats 8000000 in
theorem rSame_any (w : World) (p q : Pl) (s t : PlS) (hp : PlR w.heap.size w p s) (hq : PlR w.heap.size w q t) (cp : PlCnt p) (cq : PlCnt q) (hn9 : p.nodes.length ≤ 1000000000) :
    Calls Try.prog 14 #[plV p s, plV q t] w fun e w' => e = .returned (.bool (decide (p = q))) ∧ Below w.heap.size w w' := by
  generalize hd : decide (p = q) = d
  have HD := hid' hd
  clear hd
  have HX := hid' hp
  have HY := hid' hq
  have CX := hid' cp
  have CY := hid' cq
  clear hp hq cp cq
  have G := hid' ((((Gr.refl w).alloc (plObj p s)).alloc (plObj q t)))
  have BX := hid' ((PlB.new w p s).gr ((Gr.refl _).alloc (plObj q t)))
  have BY := hid' (PlB.new (w.alloc (plObj p s)) q t)
  obtain ⟨l, x1, x2⟩ := p
  obtain ⟨r, y1, y2⟩ := q
  obtain ⟨sa, sc, sb, sd⟩ := s
  obtain ⟨ta, tc, tb, td⟩ := t
  unfold plV
  simp only [plObj, sz1] at G BX BY hn9 ⊢
  by_cases e2 : x2 = y2
  · subst e2
    have H1 := hid' (fun W (g : Gr w W) => pSame_any W sb tb sd td x1 y1 (HX.out.outs.gr g) (HY.out.outs.gr g) CX.out.outs CY.out.outs)
    by_cases E1 : x1 = y1
    · rw [decide_eq_true E1] at H1
      replace E1 := hid' E1
      by_cases E0 : l.length = r.length
      · have HD2 : Hid (decide (l = r) = d) := (by rw [← HD.out]; simp [E1.out] : decide (l = r) = d)
        obtain ⟨n, hn⟩ : ∃ n, l.length = n := ⟨_, rfl⟩
        have HN := hid' hn
        have HM : Hid (r.length = n) := (by rw [← E0, hn] : r.length = n)
        have HXL := hid' HX.out.nodes
        have HYL := hid' HY.out.nodes
        have CXL := hid' CX.out.each
        have CYL := hid' CY.out.each
        simp only at HXL HYL CXL CYL
        have hm := HM.out
        simp only [hn, hm] at G BX BY hn9 ⊢
        clear HD HX HY CX CY E0 hn hm
        go_enter Try.func14, Try.ntmps14
        go_wp2_with fail
        refine (H1.out _ G.out).mono ?_
        rintro e w1 ⟨rfl, hg⟩
        replace G := hid' (G.out.trans hg)
        have CC : Hid (∀ W, Below w1.heap.size w1 W → W.cell? ⟨w.heap.size, 0, none⟩ = some (.slice sa n sc) ∧ W.cell? ⟨w.heap.size + 1, 0, none⟩ = some (.slice ta n tc)) := fun W hb => (by
          have a := ((BX.out.gr hg).below hb).k0
          have b := ((BY.out.gr hg).below hb).k0
          simp only [HN.out, HM.out] at a b
          exact ⟨a, b⟩)
        obtain ⟨p0, q0⟩ := CC.out w1 (Below.refl _ _)
        have KB : Hid (∀ W, Below w1.heap.size w1 W → Below w.heap.size w W) := fun W hb => bel_trans G.out.below hb
        have GW := hid' G.out.below
        clear hg H1 BX BY G
        go_wp2
        go_loopg [5] n (fun k i wr => ∃ j : Nat, j + k = n ∧ i = .int .i64 (j : Int) ∧ l.take j = r.take j ∧ Below w1.heap.size w1 wr)
        case atStart => exact ⟨0, by omega, rfl, by simp, Below.refl _ _⟩
        case round =>
          obtain ⟨j, hj, rfl, ht, hg⟩ := hrel
          have HT := hid' ht
          clear ht
          obtain ⟨a0, b0⟩ := CC.out wr hg
          clear p0 q0
          cases gk with
          | zero =>
            obtain rfl : j = n := by omega
            have hlr : Hid (l = r) := take_all HT.out (Nat.le_of_eq HN.out) (Nat.le_of_eq HM.out)
            go_wp2
            go_ret
            refine ⟨congrArg (fun z => Ending.returned (Value.bool z)) ?_, KB.out _ hg⟩
            rw [← HD2.out, hlr.out]; simp
          | succ k =>
            have hjl : j < l.length := by rw [HN.out]; omega
            have hjr : j < r.length := by rw [HM.out]; omega
            have hjn : j < n := by omega
            obtain ⟨b1, o1, rfl, hB1, hc1⟩ := HXL.out.cells (by rintro rfl; simp at hjl)
            obtain ⟨b2, o2, rfl, hB2, hc2⟩ := HYL.out.cells (by rintro rfl; simp at hjr)
            have HS := hid' (fun he => take_step (d := n0) HT.out hjl hjr he)
            have HNE := hid' (show ¬ l.getD j n0 = r.getD j n0 → ¬ l = r from fun hne h => hne (by rw [h]))
            obtain ⟨sx, C1, R1⟩ := hc1 j hjl
            obtain ⟨sy, C2, R2⟩ := hc2 j hjr
            have hg0 := KB.out wr hg
            have C1 := C1.keep hg0 hB1
            have C2 := C2.keep hg0 hB2
            have FX := hid' ((R1.keep hg0).mono hg0.size)
            have FY := hid' ((R2.keep hg0).mono hg0.size)
            have DX := hid' (CXL.out _ (getD_mem (d := n0) hjl))
            have DY := hid' (CYL.out _ (getD_mem (d := n0) hjr))
            generalize l.getD j n0 = x at *
            generalize r.getD j n0 = y at *
            replace C1 := hid' C1
            replace C2 := hid' C2
            have HB1 : Hid (b1 < wr.heap.size) := Nat.lt_of_lt_of_le hB1 hg0.size
            have HB2 : Hid (b2 < wr.heap.size) := Nat.lt_of_lt_of_le hB2 hg0.size
            have HA : Hid (∀ W, Below wr.heap.size wr W → W.cell? ⟨w.heap.size, 0, none⟩ = some (.slice (some ⟨b1, o1, none⟩) n sc) ∧ W.cell? ⟨w.heap.size + 1, 0, none⟩ = some (.slice (some ⟨b2, o2, none⟩) n tc)) := fun W hb => CC.out W (bel_trans hg hb)
            clear hc1 hc2 hjl hjr R1 R2 hB1 hB2 hg0
            go_wp2_with fail
            generalize hA0 : Act.mk _ _ = A0
            have e2 : PB.slot A0 2 = ptr w.heap.size := by rw [← hA0]; rfl
            have e3 : PB.slot A0 3 = ptr (w.heap.size + 1) := by rw [← hA0]; rfl
            have e5 : PB.slot A0 5 = .int .i64 (j : Int) := by rw [← hA0]; rfl
            have e162 : A0.tmps.size = 162 := by rw [← hA0]; rfl
            have ed : A0.defers = [] := by rw [← hA0]
            refine PB.wp_region_invT (R6 (vals6 w.heap.size (w.heap.size + 1) b1 o1 n sc b2 o2 tc j (ndV x sx) (ndV y sy)) (ndCs x sx) (ndCs y sy) A0 wr) mixed (by kernel_rfl)
              ⟨rfl, rfl, fun _ _ _ _ => rfl, (Below.refl _ _).drew, fun k v _ h => (by cases h), fun h => (by cases h), fun h => (by cases h), fun h => (by cases h), fun h => (by cases h), fun h => (by cases h), fun h => (by cases h), fun h => (by cases h)⟩ ?_ ?_
            · refine ⟨?_, ?_, ?_, ?_, ?_, ?_, ?_, ?_, ?_, ?_, ?_, ?_, ?_, ?_, trivial⟩ <;> intro L A W hl hw hI
              · exact PB.inv_does (v := ptr w.heap.size) (PB.does_run (PB.wanted_free rfl) (run_fieldNd W ((hI.oth 2 (by omega) (by omega) (by omega)).trans e2)) rfl) (fun w' hb => hI.pure (by omega) (i := 0) (by omega) rfl hb)
              · exact PB.inv_does (v := .slice (some ⟨b1, o1, none⟩) n sc) (PB.does_run (PB.wanted_free rfl) (run_loadNds W (hI.vals 0 _ rfl (hw 0 rfl)) (HA.out W hI.below).1) rfl) (fun w' hb => hI.pure (by omega) (i := 1) (by omega) rfl hb)
              · exact PB.inv_does (v := .int .i64 (j : Int)) (PB.does_move (PB.wanted_free rfl) rfl ((hI.oth 5 (by omega) (by omega) (by omega)).trans e5)) (fun w' hb => hI.pure (by omega) (i := 2) (by omega) rfl hb)
              · exact PB.inv_does (v := .pointer (some ⟨b1, o1 + j * 9, none⟩)) (PB.does_run (PB.wanted_free rfl) (run_indexNd W (hI.vals 1 _ rfl (hw 1 rfl)) (hI.vals 2 _ rfl (hw 2 rfl)) hjn hn9) rfl) (fun w' hb => hI.pure (by omega) (i := 3) (by omega) rfl hb)
              · exact PB.inv_does (v := ndV x sx) (PB.does_run (PB.wanted_free rfl) (run_loadNd W (hI.vals 3 _ rfl (hw 3 rfl)) (C1.out.keep hI.below HB1.out)) rfl) (fun w' hb => hI.pure (by omega) (i := 4) (by omega) rfl hb)
              · exact PB.inv_does (v := ptr (w.heap.size + 1)) (PB.does_run (PB.wanted_free rfl) (run_fieldNd W ((hI.oth 3 (by omega) (by omega) (by omega)).trans e3)) rfl) (fun w' hb => hI.pure (by omega) (i := 5) (by omega) rfl hb)
              · exact PB.inv_does (v := .slice (some ⟨b2, o2, none⟩) n tc) (PB.does_run (PB.wanted_free rfl) (run_loadNds W (hI.vals 5 _ rfl (hw 5 rfl)) (HA.out W hI.below).2) rfl) (fun w' hb => hI.pure (by omega) (i := 6) (by omega) rfl hb)
              · exact PB.inv_does (v := .int .i64 (j : Int)) (PB.does_move (PB.wanted_free rfl) rfl ((hI.oth 5 (by omega) (by omega) (by omega)).trans e5)) (fun w' hb => hI.pure (by omega) (i := 7) (by omega) rfl hb)
              · exact PB.inv_does (v := .pointer (some ⟨b2, o2 + j * 9, none⟩)) (PB.does_run (PB.wanted_free rfl) (run_indexNd W (hI.vals 6 _ rfl (hw 6 rfl)) (hI.vals 7 _ rfl (hw 7 rfl)) hjn hn9) rfl) (fun w' hb => hI.pure (by omega) (i := 8) (by omega) rfl hb)
              · exact PB.inv_does (v := ndV y sy) (PB.does_run (PB.wanted_free rfl) (run_loadNd W (hI.vals 8 _ rfl (hw 8 rfl)) (C2.out.keep hI.below HB2.out)) rfl) (fun w' hb => hI.pure (by omega) (i := 9) (by omega) rfl hb)
              · exact PB.inv_value (PB.wanted_free rfl) (run_allocNd W) (hI.new6 (by omega) vals6_lt hl)
              · exact PB.inv_value (PB.wanted_free rfl) (run_allocNd W) (hI.new7 (by omega) vals6_lt hl)
              · obtain ⟨g, c, e, hg, hb, h9⟩ := hI.p6 (hw 10 rfl)
                exact PB.inv_skip (PB.wanted_free rfl) rfl (run_storeNd W e (hI.vals 4 _ rfl (hw 4 rfl)) hb h9 rfl (ndCs_one x sx)) (hI.store12 vals6_lt (hw 10 rfl) (hw 11 rfl) e hg hb rfl)
              · obtain ⟨g, c, e, hg, hb, h9⟩ := hI.p7 (hw 11 rfl)
                exact PB.inv_skip (PB.wanted_free rfl) rfl (run_storeNd W e (hI.vals 9 _ rfl (hw 9 rfl)) hb h9 rfl (ndCs_one y sy)) (hI.store13 vals6_lt (hw 10 rfl) (hw 11 rfl) e hg hb rfl)
            · intro L A W hall hI
              obtain ⟨g6, z6, bx6⟩ := hI.b12 (hall 12 (by decide))
              obtain ⟨g7, z7, bx7⟩ := hI.b13 (hall 13 (by decide))
              have hA := frame_puts hI.defers hI.size [6, 7, 39, 40, 41, 42, 43, 44, 45, 46, 47, 48] (fun t ht => hI.oth t (by rintro rfl; simp at ht) (by rintro rfl; simp at ht) (by
                rcases Nat.lt_or_ge t 39 with h | h
                · exact .inl h
                · rcases Nat.lt_or_ge t 49 with h' | h'
                  · exact absurd (show t ∈ [6, 7, 39, 40, 41, 42, 43, 44, 45, 46, 47, 48] by
                      rcases (show t = 39 ∨ t = 40 ∨ t = 41 ∨ t = 42 ∨ t = 43 ∨ t = 44 ∨ t = 45 ∨ t = 46 ∨ t = 47 ∨ t = 48 by omega) with h | h | h | h | h | h | h | h | h | h <;> subst h <;> simp) ht
                  · exact .inr h'))
              have hBW := bel_trans hg hI.below
              have BW := hid' hI.below
              clear hI hall
              rw [hA, ← hA0]
              simp only [puts, z6, z7]
              generalize PB.slot A 39 = f39
              generalize PB.slot A 40 = f40
              generalize PB.slot A 41 = f41
              generalize PB.slot A 42 = f42
              generalize PB.slot A 43 = f43
              generalize PB.slot A 44 = f44
              generalize PB.slot A 45 = f45
              generalize PB.slot A 46 = f46
              generalize PB.slot A 47 = f47
              generalize PB.slot A 48 = f48
              clear hA z6 z7 hA0 e2 e3 e5 e162 ed
              simp only [Act.put, List.setIfInBounds_toArray, List.set_cons_succ, List.set_cons_zero, ptr]
              have NX := hid' (NdB.of bx6)
              have NY := hid' (NdB.of bx7)
              replace FX := hid' ((FX.out.keep BW.out).mono BW.out.size)
              replace FY := hid' ((FY.out.keep BW.out).mono BW.out.size)
              obtain ⟨x0, x1, x2, x3, x4, x5, x6, x7, x8⟩ := x
              obtain ⟨y0, y1, y2, y3, y4, y5, y6, y7, y8⟩ := y
              obtain ⟨m0, m1, m2, m3, m4, m5, m6, m7, m8, _⟩ := NX.out
              obtain ⟨l0, l1, l2, l3, l4, l5, l6, l7, l8, _⟩ := NY.out
              simp only at m0 m1 m2 m3 m4 m5 m6 m7 m8 l0 l1 l2 l3 l4 l5 l6 l7 l8
              by_cases e0 : x0 = y0
              · subst e0
                by_cases e5 : x5 = y5
                · subst e5
                  by_cases e6 : x6 = y6
                  · subst e6
                    by_cases e7 : x7 = y7
                    · subst e7
                      by_cases e8 : x8 = y8
                      · subst e8
                        have BB := hid' (Below.refl W.heap.size W)
                        have r1 := m1
                        have r2 := m2
                        have r4 := m4
                        have r3 := m3
                        have t1 := l1
                        have t2 := l2
                        have t4 := l4
                        have t3 := l3
                        by_cases E1 : x1 = y1
                        · replace E1 := hid' E1
                          go_wp2_with fail
                          refine (pSame_any _ _ _ _ _ x1 y1 ((FX.out.ins.keep BB.out).mono BB.out.size) ((FY.out.ins.keep BB.out).mono BB.out.size) DX.out.ins DY.out.ins).mono ?_
                          rintro e V1 ⟨rfl, hg⟩
                          rw [decide_eq_true E1.out]
                          replace BB := hid' (bel_trans BB.out hg.below)
                          clear hg
                          replace r1 := (NX.out.below BB.out).k1
                          replace r2 := (NX.out.below BB.out).k2
                          replace r4 := (NX.out.below BB.out).k4
                          replace r3 := (NX.out.below BB.out).k3
                          replace t1 := (NY.out.below BB.out).k1
                          replace t2 := (NY.out.below BB.out).k2
                          replace t4 := (NY.out.below BB.out).k4
                          replace t3 := (NY.out.below BB.out).k3
                          simp only at r1 r2 r3 r4 t1 t2 t3 t4
                          by_cases E2 : x2 = y2
                          · replace E2 := hid' E2
                            go_wp2_with fail
                            refine (pSame_any _ _ _ _ _ x2 y2 ((FX.out.kinds.keep BB.out).mono BB.out.size) ((FY.out.kinds.keep BB.out).mono BB.out.size) DX.out.kinds DY.out.kinds).mono ?_
                            rintro e V2 ⟨rfl, hg⟩
                            rw [decide_eq_true E2.out]
                            replace BB := hid' (bel_trans BB.out hg.below)
                            clear hg
                            replace r1 := (NX.out.below BB.out).k1
                            replace r2 := (NX.out.below BB.out).k2
                            replace r4 := (NX.out.below BB.out).k4
                            replace r3 := (NX.out.below BB.out).k3
                            replace t1 := (NY.out.below BB.out).k1
                            replace t2 := (NY.out.below BB.out).k2
                            replace t4 := (NY.out.below BB.out).k4
                            replace t3 := (NY.out.below BB.out).k3
                            simp only at r1 r2 r3 r4 t1 t2 t3 t4
                            by_cases E4 : x4 = y4
                            · replace E4 := hid' E4
                              go_wp2_with fail
                              refine (pSame_any _ _ _ _ _ x4 y4 ((FX.out.cols.keep BB.out).mono BB.out.size) ((FY.out.cols.keep BB.out).mono BB.out.size) DX.out.cols DY.out.cols).mono ?_
                              rintro e V3 ⟨rfl, hg⟩
                              rw [decide_eq_true E4.out]
                              replace BB := hid' (bel_trans BB.out hg.below)
                              clear hg
                              replace r1 := (NX.out.below BB.out).k1
                              replace r2 := (NX.out.below BB.out).k2
                              replace r4 := (NX.out.below BB.out).k4
                              replace r3 := (NX.out.below BB.out).k3
                              replace t1 := (NY.out.below BB.out).k1
                              replace t2 := (NY.out.below BB.out).k2
                              replace t4 := (NY.out.below BB.out).k4
                              replace t3 := (NY.out.below BB.out).k3
                              simp only at r1 r2 r3 r4 t1 t2 t3 t4
                              by_cases E3 : x3.length = y3.length
                              · obtain ⟨m, hm⟩ : ∃ m, x3.length = m := ⟨_, rfl⟩
                                have HM3 := hid' hm
                                have HM4 : Hid (y3.length = m) := (by rw [← E3, hm] : y3.length = m)
                                have hm2 := HM4.out
                                have hml : m < 4611686018427387904 := by rw [← hm]; exact DX.out.exprs.1
                                rw [hm] at r3
                                rw [hm2] at t3
                                have CE : Hid (∀ Z, Below V3.heap.size V3 Z → Z.cell? ⟨g6, 3, none⟩ = some (.slice sx.a3 m sx.c3) ∧ Z.cell? ⟨g7, 3, none⟩ = some (.slice sy.a3 m sy.c3)) := fun Z hb => (by
                                  have a := (NX.out.below (bel_trans BB.out hb)).k3
                                  have b := (NY.out.below (bel_trans BB.out hb)).k3
                                  simp only [HM3.out, HM4.out] at a b
                                  exact ⟨a, b⟩)
                                have XE := hid' ((FX.out.exprs.keep BB.out).mono BB.out.size)
                                have YE := hid' ((FY.out.exprs.keep BB.out).mono BB.out.size)
                                have XC := hid' DX.out.exprs.2
                                have YC := hid' DY.out.exprs.2
                                simp only at XE YE XC YC
                                have KV : Hid (∀ Z, Below V3.heap.size V3 Z → Below w1.heap.size w1 Z) := fun Z hb => bel_trans (bel_trans hBW BB.out) hb
                                have XYZ : Hid (x3 = y3 → l.take (j + 1) = r.take (j + 1)) := fun h => HS.out (by rw [h, E1.out, E2.out, E4.out])
                                have NEX : Hid (¬ x3 = y3 → ¬ l = r) := fun h => HNE.out (fun h' => h (congrArg Nd.exprs h'))
                                clear hm hm2 E3 NX NY FX FY DX DY HS HNE E1 E2 E4 m0 m1 m2 m3 m4 m5 m6 m7 m8 l0 l1 l2 l3 l4 l5 l6 l7 l8 HA C1 C2 HB1 HB2 hBW BW
                                go_wp2
                                obtain ⟨wO, hO⟩ : ∃ z, z = wr := ⟨_, rfl⟩
                                subst hO
                                go_loopg [8] m (fun k' i wr => ∃ j' : Nat, j' + k' = m ∧ i = .int .i64 (j' : Int) ∧ x3.take j' = y3.take j' ∧ Below V3.heap.size V3 wr)
                                case atStart => exact ⟨0, by omega, rfl, by simp, Below.refl _ _⟩
                                case round =>
                                  obtain ⟨j', hj', rfl, ht', hg1⟩ := hrel
                                  have HT' := hid' ht'
                                  clear ht' r1 r2 r3 r4 t1 t2 t3 t4
                                  obtain ⟨r3, t3⟩ := CE.out wr hg1
                                  cases gk with
                                  | zero =>
                                    obtain rfl : j' = m := by omega
                                    have HF := hid' (XYZ.out (take_all HT'.out (Nat.le_of_eq HM3.out) (Nat.le_of_eq HM4.out)))
                                    have HF2 := hid' (KV.out _ hg1)
                                    go_wp2
                                    go_roundg k
                                    case measure => omega
                                    case rel => exact ⟨j + 1, by omega, by simp, HF.out, HF2.out⟩
                                  | succ k' =>
                                    have hjm2 : j' < m := by omega
                                    have hjx : j' < x3.length := by rw [HM3.out]; omega
                                    have hjy : j' < y3.length := by rw [HM4.out]; omega
                                    obtain ⟨b3, o3, hs3, hB3, hc3⟩ := XE.out.cells (by rintro rfl; simp at hjx)
                                    obtain ⟨b4, o4, hs4, hB4, hc4⟩ := YE.out.cells (by rintro rfl; simp at hjy)
                                    rw [hs3] at r3
                                    rw [hs4] at t3
                                    have CE2 : Hid (∀ Z, Below V3.heap.size V3 Z → Z.cell? ⟨g6, 3, none⟩ = some (.slice (some ⟨b3, o3, none⟩) m sx.c3) ∧ Z.cell? ⟨g7, 3, none⟩ = some (.slice (some ⟨b4, o4, none⟩) m sy.c3)) := fun Z hb => (by
                                      have := CE.out Z hb
                                      rw [hs3, hs4] at this
                                      exact this)
                                    clear hs3 hs4
                                    obtain ⟨a1, c1, q1, v1⟩ := hc3 j' hjx
                                    obtain ⟨a2, c2, q2, v2⟩ := hc4 j' hjy
                                    have HS' := hid' (fun he => take_step (d := []) HT'.out hjx hjy he)
                                    have HNE' := hid' (show ¬ x3.getD j' [] = y3.getD j' [] → ¬ x3 = y3 from fun hne h => hne (by rw [h]))
                                    have AC := hid' (XC.out _ (getD_mem (d := []) hjx))
                                    have hac := AC.out
                                    generalize x3.getD j' [] = la at *
                                    generalize y3.getD j' [] = lb at *
                                    have CQ : Hid (∀ Z, Below V3.heap.size V3 Z → Z.cell? ⟨b3, o3 + j', none⟩ = some (.slice a1 la.length c1) ∧ Z.cell? ⟨b4, o4 + j', none⟩ = some (.slice a2 lb.length c2)) := fun Z hb => ⟨(hb.cell (p := ⟨b3, o3 + j', none⟩) hB3).trans q1, (hb.cell (p := ⟨b4, o4 + j', none⟩) hB4).trans q2⟩
                                    replace v1 := hid' v1
                                    replace v2 := hid' v2
                                    clear hc3 hc4 hjx hjy q1 q2 hB3 hB4
                                    obtain ⟨q1, q2⟩ := CQ.out wr hg1
                                    by_cases Q3 : la.length = lb.length
                                    · obtain ⟨n3, hn3⟩ : ∃ n3, la.length = n3 := ⟨_, rfl⟩
                                      have HN3 := hid' hn3
                                      have HN4 : Hid (lb.length = n3) := (by rw [← Q3, hn3] : lb.length = n3)
                                      have hn4 := HN4.out
                                      rw [hn3] at q1 hac
                                      rw [hn4] at q2
                                      have CQ2 : Hid (∀ Z, Below V3.heap.size V3 Z → Z.cell? ⟨b3, o3 + j', none⟩ = some (.slice a1 n3 c1) ∧ Z.cell? ⟨b4, o4 + j', none⟩ = some (.slice a2 n3 c2)) := fun Z hb => (by
                                        have := CQ.out Z hb
                                        rw [HN3.out, HN4.out] at this
                                        exact this)
                                      clear hn3 hn4 Q3 CQ CE
                                      go_wp2_with fail
                                      go_quiet (fail)
                                      go_wp2
                                      try simp only [decide_eq_true hjm2]
                                      obtain ⟨wP, hP⟩ : ∃ z, z = wr := ⟨_, rfl⟩
                                      subst hP
                                      go_loopg [9] n3 (fun k3 i wr => ∃ j3 : Nat, j3 + k3 = n3 ∧ i = .int .i64 (j3 : Int) ∧ la.take j3 = lb.take j3 ∧ Below V3.heap.size V3 wr)
                                      case atStart => exact ⟨0, by omega, rfl, by simp, below_drewN hg1 _⟩
                                      case round =>
                                        obtain ⟨j3, hj3, rfl, ht3, hg3⟩ := hrel
                                        have HT3 := hid' ht3
                                        clear ht3 r3 t3 q1 q2
                                        obtain ⟨r3, t3⟩ := CE2.out wr hg3
                                        obtain ⟨q1, q2⟩ := CQ2.out wr hg3
                                        cases gk with
                                        | zero =>
                                          obtain rfl : j3 = n3 := by omega
                                          have HF := hid' (HS'.out (take_all HT3.out (Nat.le_of_eq HN3.out) (Nat.le_of_eq HN4.out)))
                                          go_wp2
                                          go_roundg k'
                                          case measure => omega
                                          case rel => exact ⟨j' + 1, by omega, by simp, HF.out, hg3⟩
                                        | succ k3 =>
                                          have hja : j3 < la.length := by rw [HN3.out]; omega
                                          have hjb : j3 < lb.length := by rw [HN4.out]; omega
                                          obtain ⟨b5, o5, rfl, hB5, hc5⟩ := v1.out.cells (by rintro rfl; simp at hja)
                                          obtain ⟨b6, o6, rfl, hB6, hc6⟩ := v2.out.cells (by rintro rfl; simp at hjb)
                                          have HS3 := hid' (fun he => take_step (d := d0) HT3.out hja hjb he)
                                          have HE3 := hid' (show ¬ la.getD j3 d0 = lb.getD j3 d0 → ¬ la = lb from fun hne h => hne (by rw [h]))
                                          have p1 := (hg3.cell (p := ⟨b5, o5 + j3 * 3, none⟩) hB5).trans (hc5 j3 hja).1
                                          have p2 := (hg3.cell (p := ⟨b5, o5 + j3 * 3 + 1, none⟩) hB5).trans (hc5 j3 hja).2.1
                                          have p3 := (hg3.cell (p := ⟨b5, o5 + j3 * 3 + 2, none⟩) hB5).trans (hc5 j3 hja).2.2
                                          have s1 := (hg3.cell (p := ⟨b6, o6 + j3 * 3, none⟩) hB6).trans (hc6 j3 hjb).1
                                          have s2 := (hg3.cell (p := ⟨b6, o6 + j3 * 3 + 1, none⟩) hB6).trans (hc6 j3 hjb).2.1
                                          have s3 := (hg3.cell (p := ⟨b6, o6 + j3 * 3 + 2, none⟩) hB6).trans (hc6 j3 hjb).2.2
                                          generalize la.getD j3 d0 = tx at p1 p2 p3 HS3 HE3
                                          generalize lb.getD j3 d0 = ty at s1 s2 s3 HS3 HE3
                                          obtain ⟨tx1, tx2, tx3⟩ := tx
                                          obtain ⟨ty1, ty2, ty3⟩ := ty
                                          simp only at p1 p2 p3 s1 s2 s3
                                          clear hc5 hc6 hja hjb
                                          by_cases f1 : tx1 = ty1
                                          · subst f1
                                            by_cases f2 : tx2 = ty2
                                            · subst f2
                                              by_cases f3 : tx3 = ty3
                                              · subst f3
                                                have HF := hid' (HS3.out rfl)
                                                go_wp2_with fail
                                                go_quiet (fail)
                                                go_wp2
                                                go_roundg k3
                                                case measure => omega
                                                case rel => exact ⟨j3 + 1, by omega, by simp, HF.out, below_drewN hg3 _⟩
                                              · have HNe := hid' f3
                                                have f4 : ¬ tx3.toList = ty3.toList := fun h => f3 (str_eq h)
                                                go_wp2_with fail
                                                go_quiet (fail)
                                                go_wp2
                                                go_ret
                                                refine ⟨congrArg (fun z => Ending.returned (Value.bool z)) ?_, KB.out _ (KV.out _ (below_drewN hg3 _))⟩
                                                rw [← HD2.out, decide_eq_false (NEX.out (HNE'.out (HE3.out (fun h => HNe.out (by simp only [Prod.mk.injEq] at h; exact h.2.2)))))]
                                            · have HNe := hid' f2
                                              go_wp2_with fail
                                              go_quiet (fail)
                                              go_wp2
                                              go_ret
                                              refine ⟨congrArg (fun z => Ending.returned (Value.bool z)) ?_, KB.out _ (KV.out _ (below_drewN hg3 _))⟩
                                              rw [← HD2.out, decide_eq_false (NEX.out (HNE'.out (HE3.out (fun h => HNe.out (by simp only [Prod.mk.injEq] at h; exact h.2.1)))))]
                                          · have HNe := hid' f1
                                            go_wp2_with fail
                                            go_quiet (fail)
                                            go_wp2
                                            go_ret
                                            refine ⟨congrArg (fun z => Ending.returned (Value.bool z)) ?_, KB.out _ (KV.out _ (below_drewN hg3 _))⟩
                                            rw [← HD2.out, decide_eq_false (NEX.out (HNE'.out (HE3.out (fun h => HNe.out (by simp only [Prod.mk.injEq] at h; exact h.1)))))]
                                    · have HNe := hid' Q3
                                      have eb : ((la.length : Int) != (lb.length : Int)) = true := by simp; omega
                                      go_wp2_with fail
                                      go_quiet (fail)
                                      go_wp2
                                      go_ret
                                      refine ⟨congrArg (fun z => Ending.returned (Value.bool z)) ?_, KB.out _ (KV.out _ (below_drewN hg1 _))⟩
                                      rw [← HD2.out, decide_eq_false (NEX.out (HNE'.out (fun h => HNe.out (by rw [h]))))]
                              · have HNe := hid' E3
                                have eb : ((x3.length : Int) != (y3.length : Int)) = true := by simp; omega
                                go_wp2
                                go_ret
                                refine ⟨congrArg (fun z => Ending.returned (Value.bool z)) ?_, KB.out _ (bel_trans hBW BB.out)⟩
                                rw [← HD2.out, decide_eq_false (HNE.out (fun h => HNe.out (by injection h with h0 h1 h2 h3; rw [h3])))]
                            · replace E4 := hid' E4
                              go_wp2_with fail
                              refine (pSame_any _ _ _ _ _ x4 y4 ((FX.out.cols.keep BB.out).mono BB.out.size) ((FY.out.cols.keep BB.out).mono BB.out.size) DX.out.cols DY.out.cols).mono ?_
                              rintro e V3 ⟨rfl, hg⟩
                              rw [decide_eq_false E4.out]
                              replace BB := hid' (bel_trans BB.out hg.below)
                              clear hg
                              go_wp2
                              go_ret
                              refine ⟨congrArg (fun z => Ending.returned (Value.bool z)) ?_, KB.out _ (bel_trans hBW BB.out)⟩
                              rw [← HD2.out, decide_eq_false (HNE.out (fun h => E4.out (congrArg Nd.cols h)))]
                          · replace E2 := hid' E2
                            go_wp2_with fail
                            refine (pSame_any _ _ _ _ _ x2 y2 ((FX.out.kinds.keep BB.out).mono BB.out.size) ((FY.out.kinds.keep BB.out).mono BB.out.size) DX.out.kinds DY.out.kinds).mono ?_
                            rintro e V2 ⟨rfl, hg⟩
                            rw [decide_eq_false E2.out]
                            replace BB := hid' (bel_trans BB.out hg.below)
                            clear hg
                            go_wp2
                            go_ret
                            refine ⟨congrArg (fun z => Ending.returned (Value.bool z)) ?_, KB.out _ (bel_trans hBW BB.out)⟩
                            rw [← HD2.out, decide_eq_false (HNE.out (fun h => E2.out (congrArg Nd.kinds h)))]
                        · replace E1 := hid' E1
                          go_wp2_with fail
                          refine (pSame_any _ _ _ _ _ x1 y1 ((FX.out.ins.keep BB.out).mono BB.out.size) ((FY.out.ins.keep BB.out).mono BB.out.size) DX.out.ins DY.out.ins).mono ?_
                          rintro e V1 ⟨rfl, hg⟩
                          rw [decide_eq_false E1.out]
                          replace BB := hid' (bel_trans BB.out hg.below)
                          clear hg
                          go_wp2
                          go_ret
                          refine ⟨congrArg (fun z => Ending.returned (Value.bool z)) ?_, KB.out _ (bel_trans hBW BB.out)⟩
                          rw [← HD2.out, decide_eq_false (HNE.out (fun h => E1.out (congrArg Nd.ins h)))]
                      · have HNe := hid' e8
                        have eb : (x8 != y8) = true := by simpa using e8
                        clear e8 FX FY DX DY
                        go_wp2
                        go_ret
                        refine ⟨congrArg (fun z => Ending.returned (Value.bool z)) ?_, KB.out _ hBW⟩
                        rw [← HD2.out, decide_eq_false (HNE.out (fun h => HNe.out (congrArg Nd.slide h)))]
                    · have HNe := hid' e7
                      have eb : (x7 != y7) = true := by simpa using e7
                      clear e7 FX FY DX DY
                      go_wp2
                      go_ret
                      refine ⟨congrArg (fun z => Ending.returned (Value.bool z)) ?_, KB.out _ hBW⟩
                      rw [← HD2.out, decide_eq_false (HNE.out (fun h => HNe.out (congrArg Nd.size h)))]
                  · have HNe := hid' e6
                    have eb : (x6 != y6) = true := by simpa using e6
                    clear e6 FX FY DX DY
                    go_wp2
                    go_ret
                    refine ⟨congrArg (fun z => Ending.returned (Value.bool z)) ?_, KB.out _ hBW⟩
                    rw [← HD2.out, decide_eq_false (HNE.out (fun h => HNe.out (congrArg Nd.n h)))]
                · have HNe := hid' e5
                  have eb : (x5 != y5) = true := by simpa using e5
                  clear e5 FX FY DX DY
                  go_wp2
                  go_ret
                  refine ⟨congrArg (fun z => Ending.returned (Value.bool z)) ?_, KB.out _ hBW⟩
                  rw [← HD2.out, decide_eq_false (HNE.out (fun h => HNe.out (congrArg Nd.key h)))]
              · have HNe := hid' e0
                have eb : (x0 != y0) = true := by simpa using e0
                clear e0 FX FY DX DY
                go_wp2
                go_ret
                refine ⟨congrArg (fun z => Ending.returned (Value.bool z)) ?_, KB.out _ hBW⟩
                rw [← HD2.out, decide_eq_false (HNE.out (fun h => HNe.out (congrArg Nd.kind h)))]
      · have HN := hid' E0
        have eb : ((l.length : Int) != (r.length : Int)) = true := by simp; omega
        go_enter Try.func14, Try.ntmps14
        go_wp2_with fail
        refine (H1.out _ G.out).mono ?_
        rintro e w1 ⟨rfl, hg⟩
        replace G := hid' (G.out.trans hg)
        have p0 := (BX.out.gr hg).k0
        have q0 := (BY.out.gr hg).k0
        simp only at p0 q0
        clear hg
        go_wp2
        go_ret
        refine ⟨congrArg (fun z => Ending.returned (Value.bool z)) ?_, G.out.below⟩
        rw [← HD.out]; simp; intro h; exact absurd (by rw [h]) HN.out
    · rw [decide_eq_false E1] at H1
      replace E1 := hid' E1
      go_enter Try.func14, Try.ntmps14
      go_wp2_with fail
      refine (H1.out _ G.out).mono ?_
      rintro e w1 ⟨rfl, hg⟩
      replace G := hid' (G.out.trans hg)
      clear hg
      go_wp2
      go_ret
      refine ⟨congrArg (fun z => Ending.returned (Value.bool z)) ?_, G.out.below⟩
      rw [← HD.out]; simp [E1.out]
  · have HN := hid' e2
    have eb : (x2 == y2) = false := by simpa using e2
    have eb2 : (x2 != y2) = true := by simpa using e2
    clear e2
    go_enter Try.func14, Try.ntmps14
    go_wp2
    go_ret
    refine ⟨congrArg (fun z => Ending.returned (Value.bool z)) ?_, G.out.below⟩
    rw [← HD.out]; simp [HN.out]

end Go.Proofs.Ytjpjeledbjpaeaa
