/-
  What is proved here: the program's sameNode, slices.EqualFunc of nodes and Same: they answer whether the nodes, the plans are the same.
-/
import Derived.Test.YtjpjeledbjpaeaaEq
namespace Go.Proofs.Ytjpjeledbjpaeaa
open Go.RowKit Go.Proofs
set_option maxRecDepth 20000
set_option linter.unusedVariables false
set_option linter.unusedSimpArgs false

/-- A node's lists are not too long to be counted. -/
structure NdCnt (x : Nd) : Prop where
  ins : x.ins.length < 4611686018427387904
  kinds : x.kinds.length < 4611686018427387904
  exprs : Cnt x.exprs
  cols : x.cols.length < 4611686018427387904

theorem NdSmall.cnt {x : Nd} (h : NdSmall x) : NdCnt x :=
  ⟨by have := h.ins; omega, by have := h.kinds; omega, ⟨by have := h.exprs; omega, fun e he => by have := (h.steps e he).1; omega⟩, by have := h.cols; omega⟩

/-- A node that lies in a block of its own. -/
def ndObj (x : Nd) (s : NdS) : Obj := .cells #[.int .i64 x.kind, .slice s.a1 x.ins.length s.c1, .slice s.a2 x.kinds.length s.c2, .slice s.a3 x.exprs.length s.c3, .slice s.a4 x.cols.length s.c4, .int .i64 x.key, .int .i64 x.n, .int .i64 x.size, .int .i64 x.slide] 44

structure NdB (w : World) (b : Nat) (x : Nd) (s : NdS) : Prop where
  k0 : w.cell? ⟨b, 0, none⟩ = some (.int .i64 x.kind)
  k1 : w.cell? ⟨b, 1, none⟩ = some (.slice s.a1 x.ins.length s.c1)
  k2 : w.cell? ⟨b, 2, none⟩ = some (.slice s.a2 x.kinds.length s.c2)
  k3 : w.cell? ⟨b, 3, none⟩ = some (.slice s.a3 x.exprs.length s.c3)
  k4 : w.cell? ⟨b, 4, none⟩ = some (.slice s.a4 x.cols.length s.c4)
  k5 : w.cell? ⟨b, 5, none⟩ = some (.int .i64 x.key)
  k6 : w.cell? ⟨b, 6, none⟩ = some (.int .i64 x.n)
  k7 : w.cell? ⟨b, 7, none⟩ = some (.int .i64 x.size)
  k8 : w.cell? ⟨b, 8, none⟩ = some (.int .i64 x.slide)
  lt : b < w.heap.size

theorem NdB.gr {w w' : World} {b : Nat} {x : Nd} {s : NdS} (h : NdB w b x s) (hb : Gr w w') : NdB w' b x s :=
  have B := hb.below
  ⟨(B.cell (p := ⟨b, 0, none⟩) h.lt).trans h.k0, (B.cell (p := ⟨b, 1, none⟩) h.lt).trans h.k1, (B.cell (p := ⟨b, 2, none⟩) h.lt).trans h.k2, (B.cell (p := ⟨b, 3, none⟩) h.lt).trans h.k3, (B.cell (p := ⟨b, 4, none⟩) h.lt).trans h.k4,
   (B.cell (p := ⟨b, 5, none⟩) h.lt).trans h.k5, (B.cell (p := ⟨b, 6, none⟩) h.lt).trans h.k6, (B.cell (p := ⟨b, 7, none⟩) h.lt).trans h.k7, (B.cell (p := ⟨b, 8, none⟩) h.lt).trans h.k8, Nat.lt_of_lt_of_le h.lt B.size⟩

theorem sz1 (w : World) (o : Obj) : (w.alloc o).heap.size = w.heap.size + 1 := by simp

theorem NdB.new (w : World) (x : Nd) (s : NdS) : NdB (w.alloc (ndObj x s)) w.heap.size x s := by
  constructor <;> simp [ndObj]

set_option maxHeartbeats 4000000 in
theorem sameNode_any (w : World) (x y : Nd) (s t : NdS) (hx : NdR w.heap.size w x s) (hy : NdR w.heap.size w y t) (cx : NdCnt x) (cy : NdCnt y) :
    Calls Try.prog 37 #[ndV x s, ndV y t] w fun e w' => e = .returned (.bool (decide (x = y))) ∧ Gr w w' := by
  generalize hd : decide (x = y) = d
  have HD := hid' hd
  clear hd
  have HX := hid' hx
  have HY := hid' hy
  have CX := hid' cx
  have CY := hid' cy
  clear hx hy cx cy
  have G0 := hid' ((((Gr.refl w).alloc (ndObj x s)).alloc (ndObj y t)))
  have BX0 := hid' ((NdB.new w x s).gr ((Gr.refl _).alloc (ndObj y t)))
  have BY0 := hid' (NdB.new (w.alloc (ndObj x s)) y t)
  obtain ⟨x0, x1, x2, x3, x4, x5, x6, x7, x8⟩ := x
  obtain ⟨y0, y1, y2, y3, y4, y5, y6, y7, y8⟩ := y
  unfold ndV
  simp only [ndObj, sz1] at G0 BX0 BY0 ⊢
  by_cases e0 : x0 = y0
  · subst e0
    by_cases e5 : x5 = y5
    · subst e5
      by_cases e6 : x6 = y6
      · subst e6
        by_cases e7 : x7 = y7
        · subst e7
          by_cases e8 : x8 = y8
          · subst e8
            by_cases E1 : x1 = y1
            · replace E1 := hid' E1
              by_cases E2 : x2 = y2
              · replace E2 := hid' E2
                by_cases E4 : x4 = y4
                · replace E4 := hid' E4
                  by_cases E3 : x3 = y3
                  · replace E3 := hid' E3
                    go_enter Try.func37, Try.ntmps37
                    have G := G0
                    have BX := BX0
                    have BY := BY0
                    clear G0 BX0 BY0
                    go_wp2_with fail
                    refine (EqInts_any _ s.a1 t.a1 s.c1 t.c1 x1 y1 (HX.out.ins.gr G.out) (HY.out.ins.gr G.out) CX.out.ins CY.out.ins).mono ?_
                    rintro e w1 ⟨rfl, hg⟩
                    rw [decide_eq_true E1.out]
                    replace G := hid' (G.out.trans hg)
                    replace BX := hid' (BX.out.gr hg)
                    replace BY := hid' (BY.out.gr hg)
                    clear hg
                    have p2 := BX.out.k2
                    have q2 := BY.out.k2
                    simp only at p2 q2
                    go_wp2_with fail
                    refine (EqInts_any _ s.a2 t.a2 s.c2 t.c2 x2 y2 (HX.out.kinds.gr G.out) (HY.out.kinds.gr G.out) CX.out.kinds CY.out.kinds).mono ?_
                    rintro e w2 ⟨rfl, hg⟩
                    rw [decide_eq_true E2.out]
                    replace G := hid' (G.out.trans hg)
                    replace BX := hid' (BX.out.gr hg)
                    replace BY := hid' (BY.out.gr hg)
                    clear hg p2 q2
                    have p4 := BX.out.k4
                    have q4 := BY.out.k4
                    simp only at p4 q4
                    go_wp2_with fail
                    refine (EqInts_any _ s.a4 t.a4 s.c4 t.c4 x4 y4 (HX.out.cols.gr G.out) (HY.out.cols.gr G.out) CX.out.cols CY.out.cols).mono ?_
                    rintro e w3 ⟨rfl, hg⟩
                    rw [decide_eq_true E4.out]
                    replace G := hid' (G.out.trans hg)
                    replace BX := hid' (BX.out.gr hg)
                    replace BY := hid' (BY.out.gr hg)
                    clear hg p4 q4
                    have p3 := BX.out.k3
                    have q3 := BY.out.k3
                    simp only at p3 q3
                    go_wp2_with fail
                    refine (EqExprs_any _ s.a3 t.a3 s.c3 t.c3 x3 y3 (HX.out.exprs.gr G.out) (HY.out.exprs.gr G.out) CX.out.exprs CY.out.exprs).mono ?_
                    rintro e w4 ⟨rfl, hg⟩
                    rw [decide_eq_true E3.out]
                    replace G := hid' (G.out.trans hg)
                    replace BX := hid' (BX.out.gr hg)
                    replace BY := hid' (BY.out.gr hg)
                    clear hg p3 q3
                    go_wp2
                    go_ret
                    refine ⟨congrArg (fun z => Ending.returned (Value.bool z)) ?_, G.out⟩
                    rw [← HD.out]; simp [E1.out, E2.out, E4.out, E3.out]
                  · replace E3 := hid' E3
                    go_enter Try.func37, Try.ntmps37
                    have G := G0
                    have BX := BX0
                    have BY := BY0
                    clear G0 BX0 BY0
                    go_wp2_with fail
                    refine (EqInts_any _ s.a1 t.a1 s.c1 t.c1 x1 y1 (HX.out.ins.gr G.out) (HY.out.ins.gr G.out) CX.out.ins CY.out.ins).mono ?_
                    rintro e w1 ⟨rfl, hg⟩
                    rw [decide_eq_true E1.out]
                    replace G := hid' (G.out.trans hg)
                    replace BX := hid' (BX.out.gr hg)
                    replace BY := hid' (BY.out.gr hg)
                    clear hg
                    have p2 := BX.out.k2
                    have q2 := BY.out.k2
                    simp only at p2 q2
                    go_wp2_with fail
                    refine (EqInts_any _ s.a2 t.a2 s.c2 t.c2 x2 y2 (HX.out.kinds.gr G.out) (HY.out.kinds.gr G.out) CX.out.kinds CY.out.kinds).mono ?_
                    rintro e w2 ⟨rfl, hg⟩
                    rw [decide_eq_true E2.out]
                    replace G := hid' (G.out.trans hg)
                    replace BX := hid' (BX.out.gr hg)
                    replace BY := hid' (BY.out.gr hg)
                    clear hg p2 q2
                    have p4 := BX.out.k4
                    have q4 := BY.out.k4
                    simp only at p4 q4
                    go_wp2_with fail
                    refine (EqInts_any _ s.a4 t.a4 s.c4 t.c4 x4 y4 (HX.out.cols.gr G.out) (HY.out.cols.gr G.out) CX.out.cols CY.out.cols).mono ?_
                    rintro e w3 ⟨rfl, hg⟩
                    rw [decide_eq_true E4.out]
                    replace G := hid' (G.out.trans hg)
                    replace BX := hid' (BX.out.gr hg)
                    replace BY := hid' (BY.out.gr hg)
                    clear hg p4 q4
                    have p3 := BX.out.k3
                    have q3 := BY.out.k3
                    simp only at p3 q3
                    go_wp2_with fail
                    refine (EqExprs_any _ s.a3 t.a3 s.c3 t.c3 x3 y3 (HX.out.exprs.gr G.out) (HY.out.exprs.gr G.out) CX.out.exprs CY.out.exprs).mono ?_
                    rintro e w4 ⟨rfl, hg⟩
                    rw [decide_eq_false E3.out]
                    replace G := hid' (G.out.trans hg)
                    replace BX := hid' (BX.out.gr hg)
                    replace BY := hid' (BY.out.gr hg)
                    clear hg p3 q3
                    go_wp2
                    go_ret
                    refine ⟨congrArg (fun z => Ending.returned (Value.bool z)) ?_, G.out⟩
                    rw [← HD.out]; simp [E3.out]
                · replace E4 := hid' E4
                  go_enter Try.func37, Try.ntmps37
                  have G := G0
                  have BX := BX0
                  have BY := BY0
                  clear G0 BX0 BY0
                  go_wp2_with fail
                  refine (EqInts_any _ s.a1 t.a1 s.c1 t.c1 x1 y1 (HX.out.ins.gr G.out) (HY.out.ins.gr G.out) CX.out.ins CY.out.ins).mono ?_
                  rintro e w1 ⟨rfl, hg⟩
                  rw [decide_eq_true E1.out]
                  replace G := hid' (G.out.trans hg)
                  replace BX := hid' (BX.out.gr hg)
                  replace BY := hid' (BY.out.gr hg)
                  clear hg
                  have p2 := BX.out.k2
                  have q2 := BY.out.k2
                  simp only at p2 q2
                  go_wp2_with fail
                  refine (EqInts_any _ s.a2 t.a2 s.c2 t.c2 x2 y2 (HX.out.kinds.gr G.out) (HY.out.kinds.gr G.out) CX.out.kinds CY.out.kinds).mono ?_
                  rintro e w2 ⟨rfl, hg⟩
                  rw [decide_eq_true E2.out]
                  replace G := hid' (G.out.trans hg)
                  replace BX := hid' (BX.out.gr hg)
                  replace BY := hid' (BY.out.gr hg)
                  clear hg p2 q2
                  have p4 := BX.out.k4
                  have q4 := BY.out.k4
                  simp only at p4 q4
                  go_wp2_with fail
                  refine (EqInts_any _ s.a4 t.a4 s.c4 t.c4 x4 y4 (HX.out.cols.gr G.out) (HY.out.cols.gr G.out) CX.out.cols CY.out.cols).mono ?_
                  rintro e w3 ⟨rfl, hg⟩
                  rw [decide_eq_false E4.out]
                  replace G := hid' (G.out.trans hg)
                  replace BX := hid' (BX.out.gr hg)
                  replace BY := hid' (BY.out.gr hg)
                  clear hg p4 q4
                  go_wp2
                  go_ret
                  refine ⟨congrArg (fun z => Ending.returned (Value.bool z)) ?_, G.out⟩
                  rw [← HD.out]; simp [E4.out]
              · replace E2 := hid' E2
                go_enter Try.func37, Try.ntmps37
                have G := G0
                have BX := BX0
                have BY := BY0
                clear G0 BX0 BY0
                go_wp2_with fail
                refine (EqInts_any _ s.a1 t.a1 s.c1 t.c1 x1 y1 (HX.out.ins.gr G.out) (HY.out.ins.gr G.out) CX.out.ins CY.out.ins).mono ?_
                rintro e w1 ⟨rfl, hg⟩
                rw [decide_eq_true E1.out]
                replace G := hid' (G.out.trans hg)
                replace BX := hid' (BX.out.gr hg)
                replace BY := hid' (BY.out.gr hg)
                clear hg
                have p2 := BX.out.k2
                have q2 := BY.out.k2
                simp only at p2 q2
                go_wp2_with fail
                refine (EqInts_any _ s.a2 t.a2 s.c2 t.c2 x2 y2 (HX.out.kinds.gr G.out) (HY.out.kinds.gr G.out) CX.out.kinds CY.out.kinds).mono ?_
                rintro e w2 ⟨rfl, hg⟩
                rw [decide_eq_false E2.out]
                replace G := hid' (G.out.trans hg)
                replace BX := hid' (BX.out.gr hg)
                replace BY := hid' (BY.out.gr hg)
                clear hg p2 q2
                go_wp2
                go_ret
                refine ⟨congrArg (fun z => Ending.returned (Value.bool z)) ?_, G.out⟩
                rw [← HD.out]; simp [E2.out]
            · replace E1 := hid' E1
              go_enter Try.func37, Try.ntmps37
              have G := G0
              have BX := BX0
              have BY := BY0
              clear G0 BX0 BY0
              go_wp2_with fail
              refine (EqInts_any _ s.a1 t.a1 s.c1 t.c1 x1 y1 (HX.out.ins.gr G.out) (HY.out.ins.gr G.out) CX.out.ins CY.out.ins).mono ?_
              rintro e w1 ⟨rfl, hg⟩
              rw [decide_eq_false E1.out]
              replace G := hid' (G.out.trans hg)
              replace BX := hid' (BX.out.gr hg)
              replace BY := hid' (BY.out.gr hg)
              clear hg
              go_wp2
              go_ret
              refine ⟨congrArg (fun z => Ending.returned (Value.bool z)) ?_, G.out⟩
              rw [← HD.out]; simp [E1.out]
          · have HN := hid' e8
            have eb : (x8 == y8) = false := by simpa using e8
            clear e8
            go_enter Try.func37, Try.ntmps37
            go_wp2
            go_ret
            refine ⟨congrArg (fun z => Ending.returned (Value.bool z)) ?_, G0.out⟩
            rw [← HD.out]; simp [HN.out]
        · have HN := hid' e7
          have eb : (x7 == y7) = false := by simpa using e7
          clear e7
          go_enter Try.func37, Try.ntmps37
          go_wp2
          go_ret
          refine ⟨congrArg (fun z => Ending.returned (Value.bool z)) ?_, G0.out⟩
          rw [← HD.out]; simp [HN.out]
      · have HN := hid' e6
        have eb : (x6 == y6) = false := by simpa using e6
        clear e6
        go_enter Try.func37, Try.ntmps37
        go_wp2
        go_ret
        refine ⟨congrArg (fun z => Ending.returned (Value.bool z)) ?_, G0.out⟩
        rw [← HD.out]; simp [HN.out]
    · have HN := hid' e5
      have eb : (x5 == y5) = false := by simpa using e5
      clear e5
      go_enter Try.func37, Try.ntmps37
      go_wp2
      go_ret
      refine ⟨congrArg (fun z => Ending.returned (Value.bool z)) ?_, G0.out⟩
      rw [← HD.out]; simp [HN.out]
  · have HN := hid' e0
    have eb : (x0 == y0) = false := by simpa using e0
    clear e0
    go_enter Try.func37, Try.ntmps37
    go_wp2
    go_ret
    refine ⟨congrArg (fun z => Ending.returned (Value.bool z)) ?_, G0.out⟩
    rw [← HD.out]; simp [HN.out]

set_option maxHeartbeats 4000000 in
theorem EqNodes_any (w : World) (a b : Option Addr) (ca cb : Nat) (l r : List Nd) (ha : Nds w.heap.size w a l) (hb : Nds w.heap.size w b r) (hl : l.length < 4611686018427387904) (hr : r.length < 4611686018427387904) (cl : ∀ x ∈ l, NdCnt x) (cr : ∀ x ∈ r, NdCnt x) :
    Calls Try.prog 36 #[.slice a l.length ca, .slice b r.length cb, .func (.func 37) #[] #[]] w fun e w' => e = .returned (.bool (decide (l = r))) ∧ Gr w w' := by
  by_cases hlen : l.length = r.length
  · generalize hd : decide (l = r) = d
    have HD := hid' hd
    clear hd
    have HCl := hid' cl
    have HCr := hid' cr
    obtain ⟨n, hn⟩ : ∃ n, l.length = n := ⟨_, rfl⟩
    rw [← hlen, hn]
    rw [hn] at hl hlen
    have HL := hid' hn
    have HR := hid' hlen
    clear hn hlen hr cl cr
    go_enter Try.func36, Try.ntmps36
    go_wp2
    go_loopg [17] n (fun k i wr => ∃ j : Nat, j + k = n ∧ i = .int .i64 (j : Int) ∧ l.take j = r.take j ∧ Gr w wr)
    case atStart => exact ⟨0, by omega, rfl, by simp, Gr.refl _⟩
    case round =>
      obtain ⟨j, hj, rfl, ht, hg⟩ := hrel
      have HT := hid' ht
      clear ht
      cases gk with
      | zero =>
        obtain rfl : j = n := by omega
        have hlr : Hid (l = r) := take_all HT.out (Nat.le_of_eq HL.out) (Nat.le_of_eq HR.out.symm)
        go_wp2
        go_ret
        refine ⟨congrArg (fun z => Ending.returned (Value.bool z)) ?_, hg⟩
        rw [← HD.out, hlr.out]; simp
      | succ k =>
        have hjl : j < l.length := by rw [HL.out]; omega
        have hjr : j < r.length := by rw [← HR.out]; omega
        obtain ⟨b1, o1, rfl, hB1, hc1⟩ := ha.cells (by rintro rfl; simp at hjl)
        obtain ⟨b2, o2, rfl, hB2, hc2⟩ := hb.cells (by rintro rfl; simp at hjr)
        have HS := hid' (fun he => take_step (d := n0) HT.out hjl hjr he)
        have HE := hid' (show l = r → l.getD j n0 = r.getD j n0 from fun h => by rw [h])
        obtain ⟨s, C1, R1⟩ := hc1 j hjl
        obtain ⟨t, C2, R2⟩ := hc2 j hjr
        have C1 := C1.keep hg.below hB1
        have C2 := C2.keep hg.below hB2
        have D1 := HCl.out _ (getD_mem (d := n0) hjl)
        have D2 := HCr.out _ (getD_mem (d := n0) hjr)
        generalize l.getD j n0 = x at *
        generalize r.getD j n0 = y at *
        have BW : Hid (b2 < wr.heap.size) := Nat.lt_of_lt_of_le hB2 hg.below.size
        have GG := hid' (((Gr.refl wr).alloc (ndObj x s)).alloc (ndObj y t))
        have H := hid' (sameNode_any ((wr.alloc (ndObj x s)).alloc (ndObj y t)) x y s t ((R1.gr hg).gr GG.out) ((R2.gr hg).gr GG.out) D1 D2)
        obtain ⟨p0, p1, p2, p3, p4, p5, p6, p7, p8⟩ := C1
        obtain ⟨q0, q1, q2, q3, q4, q5, q6, q7, q8⟩ := C2.keep ((Below.refl _ _).alloc (Nat.le_refl wr.heap.size) (ndObj x s)) BW.out
        clear hc1 hc2 ha hb hjl hjr R1 R2 D1 D2 C2
        unfold ndV ndObj at H
        unfold ndObj at q0 q1 q2 q3 q4 q5 q6 q7 q8 GG
        by_cases e1 : x = y
        · rw [decide_eq_true e1] at H
          have HSS := hid' (HS.out e1)
          clear HS HE e1
          go_wp2_with fail
          refine H.out.mono ?_
          rintro e w2 ⟨rfl, hg2⟩
          go_wp2
          go_roundg k
          case measure => omega
          case rel => exact ⟨j + 1, by omega, by simp, HSS.out, hg.trans (GG.out.trans hg2)⟩
        · rw [decide_eq_false e1] at H
          have HN := hid' (show ¬ l = r from fun h => e1 (HE.out h))
          clear HS HE e1
          go_wp2_with fail
          refine H.out.mono ?_
          rintro e w2 ⟨rfl, hg2⟩
          go_wp2
          go_ret
          refine ⟨congrArg (fun z => Ending.returned (Value.bool z)) ?_, hg.trans (GG.out.trans hg2)⟩
          rw [← HD.out, decide_eq_false HN.out]
  · go_enter Try.func36, Try.ntmps36
    go_wp2
    go_ret
    exact ⟨by simp; intro h; exact hlen (by rw [h]), Gr.refl _⟩

end Go.Proofs.Ytjpjeledbjpaeaa
