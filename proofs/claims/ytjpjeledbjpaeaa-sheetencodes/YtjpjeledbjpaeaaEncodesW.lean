/-
  What is proved here: the law SheetEncodes answers true at every plan in memory and writes nothing that was there.
-/
import Derived.Test.YtjpjeledbjpaeaaSameW
import Derived.Test.YtjpjeledbjpaeaaDec
import Derived.Test.YtjpjeledbjpaeaaRPB
namespace Go.Proofs.Ytjpjeledbjpaeaa
open Go.RowKit Go.Proofs
set_option maxRecDepth 20000
set_option linter.unusedVariables false
set_option linter.unusedSimpArgs false

theorem code_newB (w : World) (n : Int) : Calls Try.prog 10 #[.int .i64 n] w fun e w' => ∃ v, e = .returned v ∧ Below w.heap.size w w' ∧ PB.E (.int .i64 n) v w' := by
  refine (code_any n w).mono ?_
  rintro e w' ⟨rfl, rfl⟩
  exact ⟨_, rfl, Below.refl _ _, rfl⟩

theorem newIs_lastsB (l : List Int) : PB.Lasts (NewIs l) := by
  rintro v w w' ⟨g, c, rfl, hb⟩ hbel
  exact ⟨g, c, rfl, (hb.keep hbel).mono hbel.size⟩

theorem newIs_convB {l : List Int} {v : Value} {w : World} (h : NewIs l v w) : (convert 28 9 v).run Try.prog w = .ok (.string (strOfNums l)) w := by
  obtain ⟨g, c, rfl, hb⟩ := h
  exact hb.conv _ _ rfl

theorem run_eq_sameB (w : World) (A : ByteArray) (x y : Operand) : ((do eqGuard .eql 9 x y (.string A) (.string A); binOp .eql 9 (.string A) (.string A) : Sem Value)).run Try.prog w = .ok (.bool true) w := by
  go_simp

theorem run_eq_zero (w : World) (x y : Operand) : ((do eqGuard .eql 3 x y (.int .i64 0) (.int .i64 0); binOp .eql 3 (.int .i64 0) (.int .i64 0) : Sem Value)).run Try.prog w = .ok (.bool true) w := by
  go_simp

theorem PlOK.cnt {p : Pl} (h : PlOK p) : PlCnt p := by
  refine ⟨by have := h.m1; omega, by have := h.m2; omega, fun x hx => ?_⟩
  have hx := h.nodes x hx
  exact ⟨by have := hx.n1; omega, by have := hx.n2; omega, ⟨by have := hx.n3; omega, fun e he => by have := (hx.exprs e he).1; omega⟩, by have := hx.n4; omega⟩

theorem planB_ne (p : Pl) : planB p ≠ [] := by rw [planB_eq]; simp

set_option maxHeartbeats 8000000 in
theorem encodes_walk (w : World) (p : Pl) (s : PlS) (hp : PlR w.heap.size w p s) (hr : PlRng p) :
    Calls Try.prog 3 #[plV p s] w fun e w' => e = .returned (.bool true) ∧ Below w.heap.size w w' := by
  have G := hid' ((Gr.refl w).alloc (plObj p s))
  have BX := hid' (PlB.new w p s)
  have HX := hid' hp
  have HRG := hid' hr
  have HL1 := hid' (Long_any _ p s (hp.gr G.out))
  clear hp hr
  unfold plObj at G BX HL1
  unfold plV at HL1 ⊢
  go_enter Try.func3, Try.ntmps3
  go_wp2_with fail
  refine HL1.out.mono ?_
  rintro e w1 ⟨b1, rfl, hb1, hg1⟩
  cases b1 with
  | true =>
    have HB := hid' (G.out.trans hg1)
    clear hb1 hg1 HX BX G HL1
    go_wp2_with fail
    refine (live_any w1).mono ?_
    rintro e w3 ⟨rfl, hb3⟩
    go_wp2
    go_ret
    exact ⟨rfl, HB.out.below.trans (hb3.mono HB.out.below.size)⟩
  | false =>
    have SP := hid' (hb1 rfl)
    have B1 := hid' (G.out.trans hg1).below
    have X1 := hid' (BX.out.gr hg1)
    have k0 := X1.out.k0
    have k1 := X1.out.k1
    have k2 := X1.out.k2
    have R1 := hid' ((HX.out.keep B1.out).mono B1.out.size)
    have H := hid' (Encode_any w1 p s R1.out HRG.out)
    unfold plV at H
    clear hb1 hg1 HL1 G BX
    go_wp2_with fail
    refine H.out.mono ?_
    intro e w2 hans
    by_cases hc : plChk p = 0
    · rcases hans with ⟨h, _⟩ | ⟨_, vb, rfl, hown, hbel⟩
      · exact absurd hc h
      have OK := hid' (HRG.out.ok hc)
      obtain ⟨gb, cb, hvb, hcb, hbt⟩ := hown.bts (byt_plan p) (planB_ne p)
      subst hvb
      have B2 := hid' (bel_trans' B1.out hbel)
      have X2 := hid' (X1.out.below hbel)
      have R2 := hid' ((R1.out.keep hbel).mono hbel.size)
      have HBT := hid' hbt
      have HC := hid' (rCheck_any w2 p s R2.out)
      rw [hc] at HC
      unfold plV at HC
      clear k0 k1 k2
      have k0 := X2.out.k0
      have k1 := X2.out.k1
      have k2 := X2.out.k2
      clear hown hbel hbt H B1 X1 R1
      go_wp2_with fail
      refine HC.out.mono ?_
      rintro e w3 ⟨rfl, hg3⟩
      have B3 := hid' (bel_trans' B2.out hg3.below)
      have X3 := hid' (X2.out.below hg3.below)
      have R3 := hid' ((R2.out.keep hg3.below).mono hg3.below.size)
      have T3 := hid' ((HBT.out.keep hg3.below).mono hg3.below.size)
      clear hg3 HC B2 X2 R2 HBT k0 k1 k2
      have k0 := X3.out.k0
      have k1 := X3.out.k1
      have k2 := X3.out.k2
      have HC := hid' (Check_any w3 p s R3.out)
      rw [hc] at HC
      unfold plV at HC
      go_wp2_with fail
      refine (code_any 0 w3).mono ?_
      rintro e w3' ⟨rfl, rfl⟩
      go_wp2_with fail
      refine HC.out.mono ?_
      rintro e w4 ⟨rfl, hg4⟩
      have B4 := hid' (bel_trans' B3.out hg4.below)
      have X4 := hid' (X3.out.below hg4.below)
      have R4 := hid' ((R3.out.keep hg4.below).mono hg4.below.size)
      have T4 := hid' ((T3.out.keep hg4.below).mono hg4.below.size)
      clear hg4 HC B3 X3 R3 T3 k0 k1 k2
      have HD := hid' (Decode_any w4 (some ⟨gb, 0, none⟩) cb (planB p) T4.out hcb (by have := len_plan OK.out; omega))
      generalize hpl : (planB p).length = pl at *
      have HPL := hid' hpl
      clear hpl
      go_wp2_with fail
      refine (code_any 0 w4).mono ?_
      rintro e w4' ⟨rfl, rfl⟩
      go_wp2_with fail
      refine HD.out.mono ?_
      rintro e w5 (⟨q, sq, hqok, hqe, rfl, hrq, hbel⟩ | ⟨hno, _⟩)
      · obtain ⟨hpq, _⟩ := pf_plan p q [] [] OK.out hqok (by rw [hqe])
        subst hpq
        have B5 := hid' (bel_trans' B4.out hbel)
        have X5 := hid' (X4.out.below hbel)
        have R5 := hid' ((R4.out.keep hbel).mono hbel.size)
        have T5 := hid' ((T4.out.keep hbel).mono hbel.size)
        have BA : Below w5.heap.size w5 (w5.alloc (plObj p sq)) := (Below.refl _ _).alloc (Nat.le_refl _) _
        have B6 := hid' (bel_trans' B5.out BA)
        have X6 := hid' (X5.out.below BA)
        have R6 := hid' ((R5.out.keep BA).mono BA.size)
        have Q6 := hid' ((hrq.keep BA).mono BA.size)
        have T6 := hid' ((T5.out.keep BA).mono BA.size)
        have Y6 := hid' (PlB.new w5 p sq)
        unfold plObj at B6 X6 R6 Q6 T6 Y6
        clear hbel hrq HD B4 X4 R4 T4 B5 X5 R5 T5 BA hqe hqok
        unfold plV
        obtain ⟨w6, hw6⟩ : ∃ z, w5.alloc (Obj.cells #[.slice sq.a1 p.nodes.length sq.c1, .slice sq.a2 p.outs.length sq.c2, .int .i64 p.room] 25) = z := ⟨_, rfl⟩
        have HW6 := hid' hw6
        rw [hw6] at B6 X6 R6 Q6 T6 Y6
        clear hw6
        have HCX : Hid (∀ W : World, Below w6.heap.size w6 W → (convert 28 9 (.slice (some ⟨gb, 0, none⟩) pl cb)).run Try.prog W = .ok (.string (strOfNums (planB p))) W) := fun W hW => ((T6.out.keep hW).conv pl cb HPL.out)
        have HPB : Hid (∀ W, Below w6.heap.size w6 W → Calls Try.prog 13 #[plV p s] W fun e w' => ∃ v, e = .returned v ∧ Below W.heap.size W w' ∧ NewIs (planB p) v w') := fun W hW => (rPlanBytes_any W p s ((R6.out.keep hW).mono hW.size) OK.out).mono (by
          rintro e w' ⟨v, rfl, ho, hb⟩
          obtain ⟨g, c, rfl, _, ht⟩ := ho.bts (byt_plan p) (planB_ne p)
          exact ⟨_, rfl, hb, g, c, rfl, ht⟩)
        have HRS : Hid (∀ W, Below w6.heap.size w6 W → Calls Try.prog 14 #[plV p s, plV p sq] W fun e w' => ∃ v, e = .returned v ∧ Below W.heap.size W w' ∧ PB.E (.bool true) v w') := fun W hW => (rSame_any W p p s sq ((R6.out.keep hW).mono hW.size) ((Q6.out.keep hW).mono hW.size) OK.out.cnt OK.out.cnt (by have := OK.out.m1; omega)).mono (by
          rintro e w' ⟨rfl, hb⟩
          exact ⟨_, rfl, hb, by rw [decide_eq_true rfl]; rfl⟩)
        go_wp2_with fail
        rw [HW6.out]
        refine PB.wp_region_plan (PB.phi [PB.E (.slice (some ⟨gb, 0, none⟩) pl cb), PB.E (.string (strOfNums (planB p))), PB.E (plV p s), NewIs (planB p), PB.E (.string (strOfNums (planB p))), PB.E (.bool true), PB.E (.bool true), PB.E (.int .i64 0), PB.E (.int .i64 0), PB.E (.bool true), PB.E (.bool true), PB.E (.bool true), PB.E (plV p s), PB.E (plV p sq), PB.E (.bool true), PB.E (.bool true), PB.E (.bool true), PB.E (.bool true), PB.E (.bool true), PB.E (.bool true)]) mixed (by kernel_rfl)
          (PB.phi_lasts _ ⟨PB.E_lasts _, PB.E_lasts _, PB.E_lasts _, newIs_lastsB _, PB.E_lasts _, PB.E_lasts _, PB.E_lasts _, PB.E_lasts _, PB.E_lasts _, PB.E_lasts _, PB.E_lasts _, PB.E_lasts _, PB.E_lasts _, PB.E_lasts _, PB.E_lasts _, PB.E_lasts _, PB.E_lasts _, PB.E_lasts _, PB.E_lasts _, PB.E_lasts _, trivial⟩) ?_ ?_
        · refine ⟨?_, ?_, ?_, ?_, ?_, ?_, ?_, ?_, ?_, ?_, ?_, ?_, ?_, ?_, ?_, ?_, ?_, ?_, ?_, ?_, trivial⟩ <;> intro A W hB hS hA hF
          · exact PB.does_move (PB.wanted_free rfl) rfl (hS.slots 3 rfl)
          · exact PB.does_convertOf (PB.wanted_free rfl) rfl (hA 0 rfl) (HCX.out W hB) rfl
          · exact PB.does_run (PB.wanted_free rfl) (run_loadPl (g := w.heap.size) W (hS.slots 1 rfl) (X6.out.below hB)) rfl
          · exact PB.does_call #[plV p s] (PB.wanted_free rfl) rfl Try.func13 rfl rfl (congrArg (fun x => [x]) (hA 2 rfl)) (HPB.out W hB)
          · exact PB.does_convert (PB.wanted_free rfl) rfl (newIs_convB (hA 3 rfl)) rfl
          · exact PB.does_bin (PB.wanted_free rfl) rfl (hA 1 rfl) (hA 4 rfl) (run_eq_sameB W _ _ _) rfl
          · exact PB.does_move (PB.wanted_free rfl) rfl (hA 5 rfl)
          · exact PB.does_move (PB.wanted_by rfl rfl (hA 6 rfl)) rfl (hS.slots 7 rfl)
          · exact PB.does_call #[.int .i64 0] (PB.wanted_by rfl rfl (hA 6 rfl)) rfl Try.func10 rfl rfl (congrArg (fun x => [x]) (hA 7 rfl)) (code_newB W 0)
          · exact PB.does_bin2 (PB.wanted_by rfl rfl (hA 6 rfl)) rfl (hA 8 rfl) rfl (run_eq_zero W _ _) rfl
          · exact PB.does_pick (PB.wanted_free rfl) rfl (hA 6 rfl) (hA 9 rfl)
          · exact PB.does_move (PB.wanted_free rfl) rfl (hA 10 rfl)
          · exact PB.does_run (PB.wanted_by rfl rfl (hA 11 rfl)) (run_loadPl (g := w.heap.size) W (hS.slots 1 rfl) (X6.out.below hB)) rfl
          · exact PB.does_run (PB.wanted_by rfl rfl (hA 11 rfl)) (run_loadPl (g := w5.heap.size) W (hS.slots 6 rfl) (Y6.out.below hB)) rfl
          · exact PB.does_call #[plV p s, plV p sq] (PB.wanted_by rfl rfl (hA 11 rfl)) rfl Try.func14 rfl rfl (by show [PB.slot A 54, PB.slot A 55] = _; rw [show PB.slot A 54 = plV p s from hA 12 rfl, show PB.slot A 55 = plV p sq from hA 13 rfl]) (HRS.out W hB)
          · exact PB.does_pick (PB.wanted_free rfl) rfl (hA 11 rfl) (hA 14 rfl)
          · exact PB.does_move (PB.wanted_free rfl) rfl (hA 15 rfl)
          · exact PB.does_call #[] (PB.wanted_by rfl rfl (hA 16 rfl)) rfl Try.func7 rfl rfl rfl (live_newB W)
          · exact PB.does_pick (PB.wanted_free rfl) rfl (hA 16 rfl) (hA 17 rfl)
          · exact PB.does_assign (PB.wanted_free rfl) rfl (hA 18 rfl)
        · intro A W hB hS hL
          have h19 : PB.slot A 2 = .bool true := hL 19 (by decide)
          obtain ⟨tmps, defers⟩ := A
          have hd : defers = [] := hS.defers
          subst hd
          go_wp2
          go_ret
          exact ⟨congrArg Ending.returned h19, bel_trans' B6.out hB⟩
      · exact absurd rfl (hno p OK.out)
    · rcases hans with ⟨_, rfl, hbel⟩ | ⟨h, _⟩
      · have B2 := hid' (bel_trans' B1.out hbel)
        have X2 := hid' (X1.out.below hbel)
        have R2 := hid' ((R1.out.keep hbel).mono hbel.size)
        have HC := hid' (rCheck_any w2 p s R2.out)
        have eb : (plChk p != 0) = true := by simpa using hc
        have HC2 := hid' (fun W (g : Gr w2 W) => Check_any W p s (R2.out.gr g))
        unfold plV at HC HC2
        clear k0 k1 k2
        have k0 := X2.out.k0
        have k1 := X2.out.k1
        have k2 := X2.out.k2
        generalize plChk p = cc at *
        clear hbel H B1 X1 R1 hc
        go_wp2_with fail
        refine HC.out.mono ?_
        rintro e w3 ⟨rfl, hg3⟩
        clear k0 k1 k2
        have k0 := (X2.out.gr hg3).k0
        have k1 := (X2.out.gr hg3).k1
        have k2 := (X2.out.gr hg3).k2
        have H3 := hid' (HC2.out w3 hg3)
        have B3 := hid' (bel_trans' B2.out hg3.below)
        clear hg3 HC HC2 B2 X2 R2
        go_wp2_with fail
        refine (code_any cc w3).mono ?_
        rintro e w3' ⟨rfl, rfl⟩
        go_wp2_with fail
        refine H3.out.mono ?_
        rintro e w4 ⟨rfl, hg4⟩
        have B4 := hid' (bel_trans' B3.out hg4.below)
        clear hg4 H3 B3 k0 k1 k2
        go_wp2_with fail
        refine (code_any cc w4).mono ?_
        rintro e w4' ⟨rfl, rfl⟩
        go_wp2_with fail
        refine (live_any w4').mono ?_
        rintro e w5 ⟨rfl, hb5⟩
        go_wp2
        go_ret
        exact ⟨rfl, bel_trans' B4.out hb5⟩
      · exact absurd h hc

end Go.Proofs.Ytjpjeledbjpaeaa
