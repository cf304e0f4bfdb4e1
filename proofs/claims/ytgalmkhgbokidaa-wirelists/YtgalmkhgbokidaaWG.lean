/-
  What is proved here: told and Put of commands that may be told; the page's example.
-/
import Derived.Test.YtgalmkhgbokidaaWF
namespace Go.Proofs.Ytgalmkhgbokidaa
open Go.RowKit Go.Proofs
set_option maxRecDepth 20000
set_option linter.unusedVariables false
set_option linter.unusedSimpArgs false

theorem nums_str {s : List Int} (h : Byt s) : nums (strOfNums s) = s := by
  unfold nums
  rw [strOfNums_data, List.map_map]
  conv => rhs; rw [← List.map_id s]
  apply List.map_congr_left
  intro z hz
  have := h z hz
  simp
  omega

theorem Own.newB {base : Nat} {w : World} {v : Value} {r : List Int} (h : Own base w v r) (hne : r ≠ []) : NewB r v w := by
  rcases h.2 with ⟨_, h0⟩ | ⟨g, cap, cur, rfl, _⟩
  · exact absurd (List.length_eq_zero_iff.1 h0) hne
  · exact ⟨g, cap, rfl, (h.lt g rfl).2, h.cells rfl⟩

/-- What a call answers: new bytes. -/
def BAns (r : List Int) (w : World) (e : Ending) (w' : World) : Prop := ∃ v, e = .returned v ∧ NewB r v w' ∧ Below w.heap.size w w'

theorem BAns.of_own {base : Nat} {r : List Int} {w w' : World} {v : Value} (h : Own base w' v r) (hne : r ≠ []) (hb : Below w.heap.size w w') : BAns r w (.returned v) w' := ⟨v, rfl, h.newB hne, hb⟩

/-- What holds while told goes on: the command's variable, its lists, the bytes so far. -/
structure TS (P : Nat → Prop) (w : World) (c : Cm) (s : CmS) (v : Value) (l : List Int) (W : World) : Prop where
  own : Own w.heap.size W v l
  byt : Byt l
  kb : Kb w.heap.size w W
  bx : Bx W w.heap.size (cmA c s) 31
  cm : CmR P w c s

theorem TS.size {P : Nat → Prop} {w : World} {c : Cm} {s : CmS} {v : Value} {l : List Int} {W : World} (h : TS P w c s v l W) : w.heap.size ≤ W.heap.size := h.kb.size
theorem TS.below {P : Nat → Prop} {w : World} {c : Cm} {s : CmS} {v : Value} {l : List Int} {W : World} (h : TS P w c s v l W) : Below w.heap.size w W := h.kb.below (Nat.le_refl _)
theorem TS.start {P : Nat → Prop} {w : World} {c : Cm} {s : CmS} (h : CmR P w c s) (d : Int) (hd : 0 ≤ d ∧ d < 256) : TS P w c s (.slice (some ⟨w.heap.size + 1, 0, none⟩) 1 1) [d] ((w.alloc (cmO c s)).alloc (.cells #[.int .u8 d] 5)) :=
  ⟨lit_own w _ _ (by omega) d, fun y hy => by simp at hy; subst hy; exact hd, ((Kb.refl _ w).alloc _).alloc _, (Bx.new w (cmA c s) 31).keep ((Below.refl _ _).alloc (Nat.le_refl _) _), h⟩
theorem TS.put {P : Nat → Prop} {w : World} {c : Cm} {s : CmS} {v v' : Value} {l r : List Int} {W W' : World} (h : TS P w c s v l W) (ho : Own w.heap.size W' v' (l ++ r)) (hr : Byt r) (hk : Kb w.heap.size W W') : TS P w c s v' (l ++ r) W' :=
  ⟨ho, h.byt.app hr, h.kb.trans hk, h.bx.kb hk (by decide), h.cm⟩
theorem TS.new {P : Nat → Prop} {w : World} {c : Cm} {s : CmS} {v v' : Value} {l r : List Int} {W W' : World} (h : TS P w c s v l W) (ho : Own W.heap.size W' v' (l ++ r)) (hr : Byt r) (hk : Below W.heap.size W W') : TS P w c s v' (l ++ r) W' := h.put (ho.base h.size) hr (Kb.of_below hk)
theorem TS.vp {P : Nat → Prop} {w : World} {c : Cm} {s : CmS} {v : Value} {l : List Int} {W : World} (h : TS P w c s v l W) : VP P W s.ra c.row := SP.on h.cm.row h.below
theorem TS.tp {P : Nat → Prop} {w : World} {c : Cm} {s : CmS} {v : Value} {l : List Int} {W : World} (h : TS P w c s v l W) : TP P W s.fa c.front := SP.on h.cm.front h.below
theorem TS.done {P : Nat → Prop} {w : World} {c : Cm} {s : CmS} {v : Value} {l : List Int} {W : World} (h : TS P w c s v l W) (e : l = cmdB c) : BAns (cmdB c) w (.returned v) W := BAns.of_own (by rw [← e]; exact h.own) (by simp [cmdB]) h.below

set_option maxHeartbeats 4000000 in
theorem told0 (P : Nat → Prop) (w : World) (node : Int) (row : List V) (t1 t2 diff : Int) (front : List T) (fuel : Int) (sheet : List Int) (ra : Option Addr) (rc : Nat) (fa : Option Addr) (fc : Nat) (sa : Option Addr) (sc : Nat) (h : CmR P w ⟨0, node, row, (t1, t2), diff, front, fuel, sheet⟩ ⟨ra, rc, fa, fc, sa, sc⟩) (hn : CmN ⟨0, node, row, (t1, t2), diff, front, fuel, sheet⟩) (hc : chk ⟨0, node, row, (t1, t2), diff, front, fuel, sheet⟩ = 0) :
    Calls Try.prog 31 #[cmV ⟨0, node, row, (t1, t2), diff, front, fuel, sheet⟩ ⟨ra, rc, fa, fc, sa, sc⟩] w (BAns (cmdB ⟨0, node, row, (t1, t2), diff, front, fuel, sheet⟩) w) := by
  have hlen := len_cmd hc hn
  have TS0 := hid' (TS.start h 0 (by omega))
  have HBY := hid' h.byt
  have hcv := (BP.bts (SP.on h.sheet TS0.out.below) h.byt).conv sheet.length sc rfl
  have hsn : sheet.length ≤ 65536 := chk_sheet hc rfl
  have HT := hid' (putText_any _ (some ⟨w.heap.size + 1, 0, none⟩) 1 [0] (strOfNums sheet) (by obtain ⟨a', c', e', _, hb', _⟩ := TS0.out.own.bts TS0.out.byt; cases e'; exact hb') (by simp) (by rw [strOfNums_size]; omega))
  rw [nums_str HBY.out, strOfNums_size] at HT
  simp only [List.length_singleton] at HT
  have HBL := hid' TS0.out.below
  have HF : Hid (cmdB ⟨0, node, row, (t1, t2), diff, front, fuel, sheet⟩ = [0] ++ (bytesOf sheet.length ++ sheet)) := rfl
  unfold cmO cmA at TS0 hcv HT HBL
  simp only at hcv HT HBL
  unfold cmV cmA
  simp only
  clear h hn hc hlen TS0
  generalize hsl : sheet.length = sn at *
  generalize strOfNums sheet = st at *
  have HSL := hid' hsl
  clear hsl
  go_enter Try.func31, Try.ntmps31
  go_wp2_with fail
  refine (usedBy_at 0 4 (by decide) _).mono ?_
  rintro e w1 ⟨rfl, rfl⟩
  go_wp2_with fail
  refine (has_at 4 1 false (by decide) _).mono ?_
  rintro e w1 ⟨rfl, rfl⟩
  go_wp2_with fail
  refine (has_at 4 2 false (by decide) _).mono ?_
  rintro e w1 ⟨rfl, rfl⟩
  go_wp2_with fail
  refine (has_at 4 4 true (by decide) _).mono ?_
  rintro e w1 ⟨rfl, rfl⟩
  go_wp2_with fail
  refine HT.out.mono ?_
  rintro e w2 ⟨g, cp, rfl, hcap, hbt, hbel⟩
  have HR : Hid (BAns (cmdB ⟨0, node, row, (t1, t2), diff, front, fuel, sheet⟩) w (.returned (.slice (some ⟨g, 0, none⟩) (1 + sz sn + sn) cp)) w2) := by
    rw [HF.out]
    have := NewB.of_bts (c := cp) hbt (by simp)
    have e : ([0] ++ (bytesOf sn ++ sheet)).length = 1 + sz sn + sn := by simp only [List.length_append, length_bytesOf, List.length_singleton, HSL.out]; omega
    rw [e] at this
    exact ⟨_, rfl, this, bel_trans' HBL.out hbel⟩
  clear hbt hbel HT HBL HF hcap hcv
  go_wp2_with fail
  refine (has_at 4 8 false (by decide) _).mono ?_
  rintro e w1 ⟨rfl, rfl⟩
  go_wp2_with fail
  refine (has_at 4 16 false (by decide) _).mono ?_
  rintro e w1 ⟨rfl, rfl⟩
  go_wp2_with fail
  refine (has_at 4 32 false (by decide) _).mono ?_
  rintro e w1 ⟨rfl, rfl⟩
  go_wp2_with fail
  refine (has_at 4 64 false (by decide) _).mono ?_
  rintro e w1 ⟨rfl, rfl⟩
  go_wp2
  go_ret
  exact HR.out

set_option maxHeartbeats 4000000 in
theorem told1 (P : Nat → Prop) (w : World) (node : Int) (row : List V) (t1 t2 diff : Int) (front : List T) (fuel : Int) (sheet : List Int) (ra : Option Addr) (rc : Nat) (fa : Option Addr) (fc : Nat) (sa : Option Addr) (sc : Nat) (h : CmR P w ⟨1, node, row, (t1, t2), diff, front, fuel, sheet⟩ ⟨ra, rc, fa, fc, sa, sc⟩) (hn : CmN ⟨1, node, row, (t1, t2), diff, front, fuel, sheet⟩) (hc : chk ⟨1, node, row, (t1, t2), diff, front, fuel, sheet⟩ = 0) :
    Calls Try.prog 31 #[cmV ⟨1, node, row, (t1, t2), diff, front, fuel, sheet⟩ ⟨ra, rc, fa, fc, sa, sc⟩] w (BAns (cmdB ⟨1, node, row, (t1, t2), diff, front, fuel, sheet⟩) w) := by
  have hlen := len_cmd hc hn
  have TS0 := hid' (TS.start h 1 (by omega))
  have RN := hid' hn.node
  have RRW := hid' hn.row
  have CRW := hid' (chk_row hc rfl)
  have RTM := hid' hn.time
  have RDF := hid' hn.diff
  have HF : Hid ((((([1] ++ oneB node) ++ rowB row) ++ timeB (t1, t2)) ++ oneB diff) = cmdB ⟨1, node, row, (t1, t2), diff, front, fuel, sheet⟩) := by unfold Hid; simp [cmdB, tailB]
  have HLEN : Hid (((((([1] ++ oneB node) ++ rowB row) ++ timeB (t1, t2)) ++ oneB diff)).length ≤ 66000) := by unfold Hid; rw [HF.out]; exact hlen
  unfold cmO at TS0
  unfold cmV
  unfold cmA at TS0 ⊢
  simp only at TS0 ⊢
  clear h hn hc hlen
  go_enter Try.func31, Try.ntmps31
  go_wp2_with fail
  refine (usedBy_at 1 57 (by decide) _).mono ?_
  rintro e w1 ⟨rfl, rfl⟩
  go_wp2_with fail
  refine (has_at 57 1 true (by decide) _).mono ?_
  rintro e wx ⟨rfl, rfl⟩
  go_wp2_with fail
  refine (putNumber_any w.heap.size _ _ [1] node TS0.out.size TS0.out.own RN.out (by have := HLEN.out; simp only [List.length_append] at this ⊢; omega)).mono ?_
  rintro e w1 ⟨v1, rfl, o1, k1⟩
  have TS1 := hid' (TS0.out.put o1 (byt_one _) k1)
  clear o1 k1 TS0
  have q1_2 : w1.cell? ⟨w.heap.size, 2, none⟩ = some (.slice ra row.length rc) := TS1.out.bx.cell 2
  have q1_3 : w1.cell? ⟨w.heap.size, 3, none⟩ = some (.int .i64 t1) := TS1.out.bx.cell 3
  have q1_4 : w1.cell? ⟨w.heap.size, 4, none⟩ = some (.int .i64 t2) := TS1.out.bx.cell 4
  have q1_5 : w1.cell? ⟨w.heap.size, 5, none⟩ = some (.int .i64 diff) := TS1.out.bx.cell 5
  go_wp2_with fail
  refine (has_at 57 2 false (by decide) _).mono ?_
  rintro e wx ⟨rfl, rfl⟩
  go_wp2_with fail
  refine (has_at 57 4 false (by decide) _).mono ?_
  rintro e wx ⟨rfl, rfl⟩
  go_wp2_with fail
  refine (has_at 57 8 true (by decide) _).mono ?_
  rintro e wx ⟨rfl, rfl⟩
  go_wp2_with fail
  obtain ⟨a2, c2, hv2, hc2, hb2, _⟩ := TS1.out.own.bts TS1.out.byt
  rw [hv2]
  refine (rowPut_any P _ a2 c2 ([1] ++ oneB node) ra rc row hb2 TS1.out.vp CRW.out RRW.out (by have := HLEN.out; simp only [List.length_append] at this ⊢; omega)).mono ?_
  rintro e w2 ⟨v2, rfl, o2, k2⟩
  have TS2 := hid' (TS1.out.new o2 (byt_row _ CRW.out) k2)
  clear o2 k2 hb2 hc2 hv2 TS1
  have q2_3 : w2.cell? ⟨w.heap.size, 3, none⟩ = some (.int .i64 t1) := TS2.out.bx.cell 3
  have q2_4 : w2.cell? ⟨w.heap.size, 4, none⟩ = some (.int .i64 t2) := TS2.out.bx.cell 4
  have q2_5 : w2.cell? ⟨w.heap.size, 5, none⟩ = some (.int .i64 diff) := TS2.out.bx.cell 5
  go_wp2_with fail
  refine (has_at 57 16 true (by decide) _).mono ?_
  rintro e wx ⟨rfl, rfl⟩
  go_wp2_with fail
  refine (putTime_any w.heap.size _ _ (([1] ++ oneB node) ++ rowB row) (t1, t2) TS2.out.size TS2.out.own RTM.out (by have := HLEN.out; simp only [List.length_append] at this ⊢; omega)).mono ?_
  rintro e w3 ⟨v3, rfl, o3, k3⟩
  have TS3 := hid' (TS2.out.put o3 (byt_time _) k3)
  clear o3 k3 TS2
  have q3_5 : w3.cell? ⟨w.heap.size, 5, none⟩ = some (.int .i64 diff) := TS3.out.bx.cell 5
  go_wp2_with fail
  refine (has_at 57 32 true (by decide) _).mono ?_
  rintro e wx ⟨rfl, rfl⟩
  go_wp2_with fail
  refine (putNumber_any w.heap.size _ _ ((([1] ++ oneB node) ++ rowB row) ++ timeB (t1, t2)) diff TS3.out.size TS3.out.own RDF.out (by have := HLEN.out; simp only [List.length_append] at this ⊢; omega)).mono ?_
  rintro e w4 ⟨v4, rfl, o4, k4⟩
  have TS4 := hid' (TS3.out.put o4 (byt_one _) k4)
  clear o4 k4 TS3
  go_wp2_with fail
  refine (has_at 57 64 false (by decide) _).mono ?_
  rintro e wx ⟨rfl, rfl⟩
  have HR := hid' (TS4.out.done HF.out)
  clear TS4 HLEN HF
  go_wp2
  go_ret
  exact HR.out

set_option maxHeartbeats 4000000 in
theorem told2 (P : Nat → Prop) (w : World) (node : Int) (row : List V) (t1 t2 diff : Int) (front : List T) (fuel : Int) (sheet : List Int) (ra : Option Addr) (rc : Nat) (fa : Option Addr) (fc : Nat) (sa : Option Addr) (sc : Nat) (h : CmR P w ⟨2, node, row, (t1, t2), diff, front, fuel, sheet⟩ ⟨ra, rc, fa, fc, sa, sc⟩) (hn : CmN ⟨2, node, row, (t1, t2), diff, front, fuel, sheet⟩) (hc : chk ⟨2, node, row, (t1, t2), diff, front, fuel, sheet⟩ = 0) :
    Calls Try.prog 31 #[cmV ⟨2, node, row, (t1, t2), diff, front, fuel, sheet⟩ ⟨ra, rc, fa, fc, sa, sc⟩] w (BAns (cmdB ⟨2, node, row, (t1, t2), diff, front, fuel, sheet⟩) w) := by
  have hlen := len_cmd hc hn
  have TS0 := hid' (TS.start h 2 (by omega))
  have RN := hid' hn.node
  have RFR := hid' hn.front
  have CFR := hid' (chk_front hc (by simp))
  have HF : Hid ((([2] ++ oneB node) ++ frontB front) = cmdB ⟨2, node, row, (t1, t2), diff, front, fuel, sheet⟩) := by unfold Hid; simp [cmdB, tailB]
  have HLEN : Hid (((([2] ++ oneB node) ++ frontB front)).length ≤ 66000) := by unfold Hid; rw [HF.out]; exact hlen
  unfold cmO at TS0
  unfold cmV
  unfold cmA at TS0 ⊢
  simp only at TS0 ⊢
  clear h hn hc hlen
  go_enter Try.func31, Try.ntmps31
  go_wp2_with fail
  refine (usedBy_at 2 65 (by decide) _).mono ?_
  rintro e w1 ⟨rfl, rfl⟩
  go_wp2_with fail
  refine (has_at 65 1 true (by decide) _).mono ?_
  rintro e wx ⟨rfl, rfl⟩
  go_wp2_with fail
  refine (putNumber_any w.heap.size _ _ [2] node TS0.out.size TS0.out.own RN.out (by have := HLEN.out; simp only [List.length_append] at this ⊢; omega)).mono ?_
  rintro e w1 ⟨v1, rfl, o1, k1⟩
  have TS1 := hid' (TS0.out.put o1 (byt_one _) k1)
  clear o1 k1 TS0
  have q1_6 : w1.cell? ⟨w.heap.size, 6, none⟩ = some (.slice fa front.length fc) := TS1.out.bx.cell 6
  go_wp2_with fail
  refine (has_at 65 2 false (by decide) _).mono ?_
  rintro e wx ⟨rfl, rfl⟩
  go_wp2_with fail
  refine (has_at 65 4 false (by decide) _).mono ?_
  rintro e wx ⟨rfl, rfl⟩
  go_wp2_with fail
  refine (has_at 65 8 false (by decide) _).mono ?_
  rintro e wx ⟨rfl, rfl⟩
  go_wp2_with fail
  refine (has_at 65 16 false (by decide) _).mono ?_
  rintro e wx ⟨rfl, rfl⟩
  go_wp2_with fail
  refine (has_at 65 32 false (by decide) _).mono ?_
  rintro e wx ⟨rfl, rfl⟩
  go_wp2_with fail
  refine (has_at 65 64 true (by decide) _).mono ?_
  rintro e wx ⟨rfl, rfl⟩
  go_wp2_with fail
  obtain ⟨a2, c2, hv2, hc2, hb2, _⟩ := TS1.out.own.bts TS1.out.byt
  rw [hv2]
  refine (putFront_any P _ a2 c2 ([2] ++ oneB node) fa fc front hb2 TS1.out.tp RFR.out (by have := HLEN.out; simp only [List.length_append] at this ⊢; omega) (Nat.le_trans CFR.out (by omega))).mono ?_
  rintro e w2 ⟨v2, rfl, o2, k2⟩
  have TS2 := hid' (TS1.out.new o2 (byt_front _) k2)
  clear o2 k2 hb2 hc2 hv2 TS1
  have HR := hid' (TS2.out.done HF.out)
  clear TS2 HLEN HF
  go_wp2
  go_ret
  exact HR.out

set_option maxHeartbeats 4000000 in
theorem told3 (P : Nat → Prop) (w : World) (node : Int) (row : List V) (t1 t2 diff : Int) (front : List T) (fuel : Int) (sheet : List Int) (ra : Option Addr) (rc : Nat) (fa : Option Addr) (fc : Nat) (sa : Option Addr) (sc : Nat) (h : CmR P w ⟨3, node, row, (t1, t2), diff, front, fuel, sheet⟩ ⟨ra, rc, fa, fc, sa, sc⟩) (hn : CmN ⟨3, node, row, (t1, t2), diff, front, fuel, sheet⟩) (hc : chk ⟨3, node, row, (t1, t2), diff, front, fuel, sheet⟩ = 0) :
    Calls Try.prog 31 #[cmV ⟨3, node, row, (t1, t2), diff, front, fuel, sheet⟩ ⟨ra, rc, fa, fc, sa, sc⟩] w (BAns (cmdB ⟨3, node, row, (t1, t2), diff, front, fuel, sheet⟩) w) := by
  have hlen := len_cmd hc hn
  have TS0 := hid' (TS.start h 3 (by omega))
  have RN := hid' hn.node
  have RF := hid' hn.fuel
  have HF : Hid ((([3] ++ oneB node) ++ oneB fuel) = cmdB ⟨3, node, row, (t1, t2), diff, front, fuel, sheet⟩) := by unfold Hid; simp [cmdB, tailB]
  have HLEN : Hid (((([3] ++ oneB node) ++ oneB fuel)).length ≤ 66000) := by unfold Hid; rw [HF.out]; exact hlen
  unfold cmO at TS0
  unfold cmV
  unfold cmA at TS0 ⊢
  simp only at TS0 ⊢
  clear h hn hc hlen
  go_enter Try.func31, Try.ntmps31
  go_wp2_with fail
  refine (usedBy_at 3 3 (by decide) _).mono ?_
  rintro e w1 ⟨rfl, rfl⟩
  go_wp2_with fail
  refine (has_at 3 1 true (by decide) _).mono ?_
  rintro e wx ⟨rfl, rfl⟩
  go_wp2_with fail
  refine (putNumber_any w.heap.size _ _ [3] node TS0.out.size TS0.out.own RN.out (by have := HLEN.out; simp only [List.length_append] at this ⊢; omega)).mono ?_
  rintro e w1 ⟨v1, rfl, o1, k1⟩
  have TS1 := hid' (TS0.out.put o1 (byt_one _) k1)
  clear o1 k1 TS0
  have q1_7 : w1.cell? ⟨w.heap.size, 7, none⟩ = some (.int .i64 fuel) := TS1.out.bx.cell 7
  go_wp2_with fail
  refine (has_at 3 2 true (by decide) _).mono ?_
  rintro e wx ⟨rfl, rfl⟩
  go_wp2_with fail
  refine (putNumber_any w.heap.size _ _ ([3] ++ oneB node) fuel TS1.out.size TS1.out.own RF.out (by have := HLEN.out; simp only [List.length_append] at this ⊢; omega)).mono ?_
  rintro e w2 ⟨v2, rfl, o2, k2⟩
  have TS2 := hid' (TS1.out.put o2 (byt_one _) k2)
  clear o2 k2 TS1
  go_wp2_with fail
  refine (has_at 3 4 false (by decide) _).mono ?_
  rintro e wx ⟨rfl, rfl⟩
  go_wp2_with fail
  refine (has_at 3 8 false (by decide) _).mono ?_
  rintro e wx ⟨rfl, rfl⟩
  go_wp2_with fail
  refine (has_at 3 16 false (by decide) _).mono ?_
  rintro e wx ⟨rfl, rfl⟩
  go_wp2_with fail
  refine (has_at 3 32 false (by decide) _).mono ?_
  rintro e wx ⟨rfl, rfl⟩
  go_wp2_with fail
  refine (has_at 3 64 false (by decide) _).mono ?_
  rintro e wx ⟨rfl, rfl⟩
  have HR := hid' (TS2.out.done HF.out)
  clear TS2 HLEN HF
  go_wp2
  go_ret
  exact HR.out

set_option maxHeartbeats 4000000 in
theorem told4 (P : Nat → Prop) (w : World) (node : Int) (row : List V) (t1 t2 diff : Int) (front : List T) (fuel : Int) (sheet : List Int) (ra : Option Addr) (rc : Nat) (fa : Option Addr) (fc : Nat) (sa : Option Addr) (sc : Nat) (h : CmR P w ⟨4, node, row, (t1, t2), diff, front, fuel, sheet⟩ ⟨ra, rc, fa, fc, sa, sc⟩) (hn : CmN ⟨4, node, row, (t1, t2), diff, front, fuel, sheet⟩) (hc : chk ⟨4, node, row, (t1, t2), diff, front, fuel, sheet⟩ = 0) :
    Calls Try.prog 31 #[cmV ⟨4, node, row, (t1, t2), diff, front, fuel, sheet⟩ ⟨ra, rc, fa, fc, sa, sc⟩] w (BAns (cmdB ⟨4, node, row, (t1, t2), diff, front, fuel, sheet⟩) w) := by
  have hlen := len_cmd hc hn
  have TS0 := hid' (TS.start h 4 (by omega))
  have RN := hid' hn.node
  have RFR := hid' hn.front
  have CFR := hid' (chk_front hc (by simp))
  have HF : Hid ((([4] ++ oneB node) ++ frontB front) = cmdB ⟨4, node, row, (t1, t2), diff, front, fuel, sheet⟩) := by unfold Hid; simp [cmdB, tailB]
  have HLEN : Hid (((([4] ++ oneB node) ++ frontB front)).length ≤ 66000) := by unfold Hid; rw [HF.out]; exact hlen
  unfold cmO at TS0
  unfold cmV
  unfold cmA at TS0 ⊢
  simp only at TS0 ⊢
  clear h hn hc hlen
  go_enter Try.func31, Try.ntmps31
  go_wp2_with fail
  refine (usedBy_at 4 65 (by decide) _).mono ?_
  rintro e w1 ⟨rfl, rfl⟩
  go_wp2_with fail
  refine (has_at 65 1 true (by decide) _).mono ?_
  rintro e wx ⟨rfl, rfl⟩
  go_wp2_with fail
  refine (putNumber_any w.heap.size _ _ [4] node TS0.out.size TS0.out.own RN.out (by have := HLEN.out; simp only [List.length_append] at this ⊢; omega)).mono ?_
  rintro e w1 ⟨v1, rfl, o1, k1⟩
  have TS1 := hid' (TS0.out.put o1 (byt_one _) k1)
  clear o1 k1 TS0
  have q1_6 : w1.cell? ⟨w.heap.size, 6, none⟩ = some (.slice fa front.length fc) := TS1.out.bx.cell 6
  go_wp2_with fail
  refine (has_at 65 2 false (by decide) _).mono ?_
  rintro e wx ⟨rfl, rfl⟩
  go_wp2_with fail
  refine (has_at 65 4 false (by decide) _).mono ?_
  rintro e wx ⟨rfl, rfl⟩
  go_wp2_with fail
  refine (has_at 65 8 false (by decide) _).mono ?_
  rintro e wx ⟨rfl, rfl⟩
  go_wp2_with fail
  refine (has_at 65 16 false (by decide) _).mono ?_
  rintro e wx ⟨rfl, rfl⟩
  go_wp2_with fail
  refine (has_at 65 32 false (by decide) _).mono ?_
  rintro e wx ⟨rfl, rfl⟩
  go_wp2_with fail
  refine (has_at 65 64 true (by decide) _).mono ?_
  rintro e wx ⟨rfl, rfl⟩
  go_wp2_with fail
  obtain ⟨a2, c2, hv2, hc2, hb2, _⟩ := TS1.out.own.bts TS1.out.byt
  rw [hv2]
  refine (putFront_any P _ a2 c2 ([4] ++ oneB node) fa fc front hb2 TS1.out.tp RFR.out (by have := HLEN.out; simp only [List.length_append] at this ⊢; omega) (Nat.le_trans CFR.out (by omega))).mono ?_
  rintro e w2 ⟨v2, rfl, o2, k2⟩
  have TS2 := hid' (TS1.out.new o2 (byt_front _) k2)
  clear o2 k2 hb2 hc2 hv2 TS1
  have HR := hid' (TS2.out.done HF.out)
  clear TS2 HLEN HF
  go_wp2
  go_ret
  exact HR.out

set_option maxHeartbeats 4000000 in
theorem told5 (P : Nat → Prop) (w : World) (node : Int) (row : List V) (t1 t2 diff : Int) (front : List T) (fuel : Int) (sheet : List Int) (ra : Option Addr) (rc : Nat) (fa : Option Addr) (fc : Nat) (sa : Option Addr) (sc : Nat) (h : CmR P w ⟨5, node, row, (t1, t2), diff, front, fuel, sheet⟩ ⟨ra, rc, fa, fc, sa, sc⟩) (hn : CmN ⟨5, node, row, (t1, t2), diff, front, fuel, sheet⟩) (hc : chk ⟨5, node, row, (t1, t2), diff, front, fuel, sheet⟩ = 0) :
    Calls Try.prog 31 #[cmV ⟨5, node, row, (t1, t2), diff, front, fuel, sheet⟩ ⟨ra, rc, fa, fc, sa, sc⟩] w (BAns (cmdB ⟨5, node, row, (t1, t2), diff, front, fuel, sheet⟩) w) := by
  have hlen := len_cmd hc hn
  have TS0 := hid' (TS.start h 5 (by omega))
  have RN := hid' hn.node
  have RTM := hid' hn.time
  have HF : Hid ((([5] ++ oneB node) ++ timeB (t1, t2)) = cmdB ⟨5, node, row, (t1, t2), diff, front, fuel, sheet⟩) := by unfold Hid; simp [cmdB, tailB]
  have HLEN : Hid (((([5] ++ oneB node) ++ timeB (t1, t2))).length ≤ 66000) := by unfold Hid; rw [HF.out]; exact hlen
  unfold cmO at TS0
  unfold cmV
  unfold cmA at TS0 ⊢
  simp only at TS0 ⊢
  clear h hn hc hlen
  go_enter Try.func31, Try.ntmps31
  go_wp2_with fail
  refine (usedBy_at 5 17 (by decide) _).mono ?_
  rintro e w1 ⟨rfl, rfl⟩
  go_wp2_with fail
  refine (has_at 17 1 true (by decide) _).mono ?_
  rintro e wx ⟨rfl, rfl⟩
  go_wp2_with fail
  refine (putNumber_any w.heap.size _ _ [5] node TS0.out.size TS0.out.own RN.out (by have := HLEN.out; simp only [List.length_append] at this ⊢; omega)).mono ?_
  rintro e w1 ⟨v1, rfl, o1, k1⟩
  have TS1 := hid' (TS0.out.put o1 (byt_one _) k1)
  clear o1 k1 TS0
  have q1_3 : w1.cell? ⟨w.heap.size, 3, none⟩ = some (.int .i64 t1) := TS1.out.bx.cell 3
  have q1_4 : w1.cell? ⟨w.heap.size, 4, none⟩ = some (.int .i64 t2) := TS1.out.bx.cell 4
  go_wp2_with fail
  refine (has_at 17 2 false (by decide) _).mono ?_
  rintro e wx ⟨rfl, rfl⟩
  go_wp2_with fail
  refine (has_at 17 4 false (by decide) _).mono ?_
  rintro e wx ⟨rfl, rfl⟩
  go_wp2_with fail
  refine (has_at 17 8 false (by decide) _).mono ?_
  rintro e wx ⟨rfl, rfl⟩
  go_wp2_with fail
  refine (has_at 17 16 true (by decide) _).mono ?_
  rintro e wx ⟨rfl, rfl⟩
  go_wp2_with fail
  refine (putTime_any w.heap.size _ _ ([5] ++ oneB node) (t1, t2) TS1.out.size TS1.out.own RTM.out (by have := HLEN.out; simp only [List.length_append] at this ⊢; omega)).mono ?_
  rintro e w2 ⟨v2, rfl, o2, k2⟩
  have TS2 := hid' (TS1.out.put o2 (byt_time _) k2)
  clear o2 k2 TS1
  go_wp2_with fail
  refine (has_at 17 32 false (by decide) _).mono ?_
  rintro e wx ⟨rfl, rfl⟩
  go_wp2_with fail
  refine (has_at 17 64 false (by decide) _).mono ?_
  rintro e wx ⟨rfl, rfl⟩
  have HR := hid' (TS2.out.done HF.out)
  clear TS2 HLEN HF
  go_wp2
  go_ret
  exact HR.out

set_option maxHeartbeats 4000000 in
theorem told6 (P : Nat → Prop) (w : World) (node : Int) (row : List V) (t1 t2 diff : Int) (front : List T) (fuel : Int) (sheet : List Int) (ra : Option Addr) (rc : Nat) (fa : Option Addr) (fc : Nat) (sa : Option Addr) (sc : Nat) (h : CmR P w ⟨6, node, row, (t1, t2), diff, front, fuel, sheet⟩ ⟨ra, rc, fa, fc, sa, sc⟩) (hn : CmN ⟨6, node, row, (t1, t2), diff, front, fuel, sheet⟩) (hc : chk ⟨6, node, row, (t1, t2), diff, front, fuel, sheet⟩ = 0) :
    Calls Try.prog 31 #[cmV ⟨6, node, row, (t1, t2), diff, front, fuel, sheet⟩ ⟨ra, rc, fa, fc, sa, sc⟩] w (BAns (cmdB ⟨6, node, row, (t1, t2), diff, front, fuel, sheet⟩) w) := by
  have hlen := len_cmd hc hn
  have TS0 := hid' (TS.start h 6 (by omega))
  have RN := hid' hn.node
  have HF : Hid (([6] ++ oneB node) = cmdB ⟨6, node, row, (t1, t2), diff, front, fuel, sheet⟩) := by unfold Hid; simp [cmdB, tailB]
  have HLEN : Hid ((([6] ++ oneB node)).length ≤ 66000) := by unfold Hid; rw [HF.out]; exact hlen
  unfold cmO at TS0
  unfold cmV
  unfold cmA at TS0 ⊢
  simp only at TS0 ⊢
  clear h hn hc hlen
  go_enter Try.func31, Try.ntmps31
  go_wp2_with fail
  refine (usedBy_at 6 1 (by decide) _).mono ?_
  rintro e w1 ⟨rfl, rfl⟩
  go_wp2_with fail
  refine (has_at 1 1 true (by decide) _).mono ?_
  rintro e wx ⟨rfl, rfl⟩
  go_wp2_with fail
  refine (putNumber_any w.heap.size _ _ [6] node TS0.out.size TS0.out.own RN.out (by have := HLEN.out; simp only [List.length_append] at this ⊢; omega)).mono ?_
  rintro e w1 ⟨v1, rfl, o1, k1⟩
  have TS1 := hid' (TS0.out.put o1 (byt_one _) k1)
  clear o1 k1 TS0
  go_wp2_with fail
  refine (has_at 1 2 false (by decide) _).mono ?_
  rintro e wx ⟨rfl, rfl⟩
  go_wp2_with fail
  refine (has_at 1 4 false (by decide) _).mono ?_
  rintro e wx ⟨rfl, rfl⟩
  go_wp2_with fail
  refine (has_at 1 8 false (by decide) _).mono ?_
  rintro e wx ⟨rfl, rfl⟩
  go_wp2_with fail
  refine (has_at 1 16 false (by decide) _).mono ?_
  rintro e wx ⟨rfl, rfl⟩
  go_wp2_with fail
  refine (has_at 1 32 false (by decide) _).mono ?_
  rintro e wx ⟨rfl, rfl⟩
  go_wp2_with fail
  refine (has_at 1 64 false (by decide) _).mono ?_
  rintro e wx ⟨rfl, rfl⟩
  have HR := hid' (TS1.out.done HF.out)
  clear TS1 HLEN HF
  go_wp2
  go_ret
  exact HR.out

theorem told_any (P : Nat → Prop) (w : World) (c : Cm) (s : CmS) (h : CmR P w c s) (hn : CmN c) (hc : chk c = 0) : Calls Try.prog 31 #[cmV c s] w (BAns (cmdB c) w) := by
  obtain ⟨l0, l1⟩ := chk_lo hc
  obtain ⟨op, node, row, ⟨t1, t2⟩, diff, front, fuel, sheet⟩ := c
  obtain ⟨ra, rc, fa, fc, sa, sc⟩ := s
  simp only at l0 l1
  rcases op_cases l0 l1 with rfl | rfl | rfl | rfl | rfl | rfl | rfl
  · exact told0 P w node row t1 t2 diff front fuel sheet ra rc fa fc sa sc h hn hc
  · exact told1 P w node row t1 t2 diff front fuel sheet ra rc fa fc sa sc h hn hc
  · exact told2 P w node row t1 t2 diff front fuel sheet ra rc fa fc sa sc h hn hc
  · exact told3 P w node row t1 t2 diff front fuel sheet ra rc fa fc sa sc h hn hc
  · exact told4 P w node row t1 t2 diff front fuel sheet ra rc fa fc sa sc h hn hc
  · exact told5 P w node row t1 t2 diff front fuel sheet ra rc fa fc sa sc h hn hc
  · exact told6 P w node row t1 t2 diff front fuel sheet ra rc fa fc sa sc h hn hc

end Go.Proofs.Ytgalmkhgbokidaa
