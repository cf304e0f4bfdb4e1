/-
  What is proved here: the law SheetSame answers true at every two plans in memory and writes nothing that was there.
-/
import Derived.Test.YtjpjeledbjpaeaaRSame
import Derived.Test.YtjpjeledbjpaeaaEnc3
namespace Go.Proofs.Ytjpjeledbjpaeaa
open Go.RowKit Go.Proofs
set_option maxRecDepth 20000
set_option linter.unusedVariables false
set_option linter.unusedSimpArgs false

section
variable {a : Act} {t u c : Nat} {dst : Option Tmp} {ty : TypeId} {pos : String} {aft : Array Edge} {guard : Option (Nat × Bool)}

theorem run_loadPl {g : Nat} {p : Pl} {s : PlS} (w : World) (h : PB.slot a t = ptr g) (hc : PlB w g p s) :
    (execOp a.eval { dst := dst, op := .load 25 (.tmp t), type := ty, pos := pos, after := aft, guard := guard }).run Try.prog w = .ok (.value (plV p s)) w := by
  have h0 : a.tmps[t]?.getD undef = ptr g := by rw [← Array.getD_eq_getD_getElem?]; exact h
  obtain ⟨p0, p1, p2, _⟩ := hc
  unfold plV
  unfold ptr at h0
  go_simp
end

theorem run_eq_bool (w : World) (b : Bool) (x y : Operand) : ((do eqGuard .eql 4 x y (.bool b) (.bool b); binOp .eql 4 (.bool b) (.bool b) : Sem Value)).run Try.prog w = .ok (.bool true) w := by
  cases b <;> go_simp

theorem live_newB (w : World) : Calls Try.prog 7 #[] w fun e w' => ∃ v, e = .returned v ∧ Below w.heap.size w w' ∧ PB.E (.bool true) v w' :=
  (live_any w).mono fun e w' ⟨he, hb⟩ => ⟨_, he, hb, rfl⟩

set_option maxHeartbeats 4000000 in
theorem same_walk (w : World) (p q : Pl) (s t : PlS) (hp : PlR w.heap.size w p s) (hq : PlR w.heap.size w q t) :
    Calls Try.prog 5 #[plV p s, plV q t] w fun e w' => e = .returned (.bool true) ∧ Below w.heap.size w w' := by
  have G := hid' ((((Gr.refl w).alloc (plObj p s)).alloc (plObj q t)))
  have BX := hid' ((PlB.new w p s).gr ((Gr.refl _).alloc (plObj q t)))
  have BY := hid' (PlB.new (w.alloc (plObj p s)) q t)
  have HX := hid' hp
  have HY := hid' hq
  have HL1 := hid' (Long_any _ p s (hp.gr G.out))
  rw [sz1] at BY
  clear hp hq
  unfold plObj at G BX BY HL1
  unfold plV at HL1 ⊢
  go_enter Try.func5, Try.ntmps5
  go_wp2_with fail
  refine HL1.out.mono ?_
  rintro e w1 ⟨b1, rfl, hb1, hg1⟩
  cases b1 with
  | true =>
    have HB := hid' (G.out.trans hg1)
    clear hb1 hg1 HX HY BX BY G HL1
    go_wp2_with fail
    refine (live_any w1).mono ?_
    rintro e w3 ⟨rfl, hb3⟩
    go_wp2
    go_ret
    exact ⟨rfl, HB.out.below.trans (hb3.mono HB.out.below.size)⟩
  | false =>
    have SP := hid' (hb1 rfl)
    have G1 := hid' (G.out.trans hg1)
    have BX1 := hid' (BX.out.gr hg1)
    have BY1 := hid' (BY.out.gr hg1)
    have HL2 := hid' (Long_any w1 q t (HY.out.gr G1.out))
    have c0 := BY1.out.k0
    have c1 := BY1.out.k1
    have c2 := BY1.out.k2
    clear hb1 hg1 HL1 G BX BY
    unfold plV at HL2
    go_wp2_with fail
    refine HL2.out.mono ?_
    rintro e w2 ⟨b2, rfl, hb2, hg2⟩
    clear c0 c1 c2
    cases b2 with
    | true =>
      have HB := hid' (G1.out.trans hg2)
      clear hb2 hg2 HX HY BX1 BY1 G1 HL2
      go_wp2_with fail
      refine (live_any w2).mono ?_
      rintro e w3 ⟨rfl, hb3⟩
      go_wp2
      go_ret
      exact ⟨rfl, HB.out.below.trans (hb3.mono HB.out.below.size)⟩
    | false =>
      have SQ := hid' (hb2 rfl)
      have G2 := hid' (G1.out.trans hg2)
      have B1 := hid' (BX1.out.gr hg2)
      have B2 := hid' (BY1.out.gr hg2)
      have HS := hid' (fun W (hb : Below w2.heap.size w2 W) => (Same_any W p q s t ((HX.out.gr G2.out).keep hb |>.mono hb.size) ((HY.out.gr G2.out).keep hb |>.mono hb.size) SP.out.cnt SQ.out.cnt).mono (fun e w' (h : e = .returned (.bool (decide (p = q))) ∧ Gr W w') => (⟨_, h.1, h.2.below, rfl⟩ : ∃ v, e = .returned v ∧ Below W.heap.size W w' ∧ PB.E (.bool (decide (p = q))) v w')))
      have HR := hid' (fun W (hb : Below w2.heap.size w2 W) => (rSame_any W p q s t ((HX.out.gr G2.out).keep hb |>.mono hb.size) ((HY.out.gr G2.out).keep hb |>.mono hb.size) SP.out.cnt SQ.out.cnt (by have := SP.out.nodes; omega)).mono (fun e w' (h : e = .returned (.bool (decide (p = q))) ∧ Below W.heap.size W w') => (⟨_, h.1, h.2, rfl⟩ : ∃ v, e = .returned v ∧ Below W.heap.size W w' ∧ PB.E (.bool (decide (p = q))) v w')))
      have HP := hid' (fun W (hb : Below w2.heap.size w2 W) => (Same_any W p p s s ((HX.out.gr G2.out).keep hb |>.mono hb.size) ((HX.out.gr G2.out).keep hb |>.mono hb.size) SP.out.cnt SP.out.cnt).mono (fun e w' (h : e = .returned (.bool (decide (p = p))) ∧ Gr W w') => (⟨_, by rw [h.1, decide_eq_true rfl], h.2.below, rfl⟩ : ∃ v, e = .returned v ∧ Below W.heap.size W w' ∧ PB.E (.bool true) v w')))
      generalize decide (p = q) = d at HS HR
      clear hb2 hg2 HX HY BX1 BY1 HL2 G1 SP SQ
      go_wp2_with fail
      refine PB.wp_region_plan (PB.phi [PB.E (plV p s), PB.E (plV q t), PB.E (.bool d), PB.E (plV p s), PB.E (plV q t), PB.E (.bool d), PB.E (.bool true), PB.E (.bool true), PB.E (plV p s), PB.E (plV p s), PB.E (.bool true), PB.E (.bool true), PB.E (.bool true), PB.E (.bool true), PB.E (.bool true), PB.E (.bool true)]) mixed (by kernel_rfl)
        (PB.phi_lasts _ ⟨PB.E_lasts _, PB.E_lasts _, PB.E_lasts _, PB.E_lasts _, PB.E_lasts _, PB.E_lasts _, PB.E_lasts _, PB.E_lasts _, PB.E_lasts _, PB.E_lasts _, PB.E_lasts _, PB.E_lasts _, PB.E_lasts _, PB.E_lasts _, PB.E_lasts _, PB.E_lasts _, trivial⟩) ?_ ?_
      · refine ⟨?_, ?_, ?_, ?_, ?_, ?_, ?_, ?_, ?_, ?_, ?_, ?_, ?_, ?_, ?_, ?_, trivial⟩ <;> intro A W hB hS hA hF
        · exact PB.does_run (PB.wanted_free rfl) (run_loadPl (g := w.heap.size) W (hS.slots 2 rfl) (B1.out.below hB)) rfl
        · exact PB.does_run (PB.wanted_free rfl) (run_loadPl (g := w.heap.size + 1) W (hS.slots 3 rfl) (B2.out.below hB)) rfl
        · exact PB.does_call #[plV p s, plV q t] (PB.wanted_free rfl) rfl Try.func16 rfl rfl (by show [PB.slot A 12, PB.slot A 13] = _; rw [show PB.slot A 12 = plV p s from hA 0 rfl, show PB.slot A 13 = plV q t from hA 1 rfl]) (HS.out W hB)
        · exact PB.does_run (PB.wanted_free rfl) (run_loadPl (g := w.heap.size) W (hS.slots 2 rfl) (B1.out.below hB)) rfl
        · exact PB.does_run (PB.wanted_free rfl) (run_loadPl (g := w.heap.size + 1) W (hS.slots 3 rfl) (B2.out.below hB)) rfl
        · exact PB.does_call #[plV p s, plV q t] (PB.wanted_free rfl) rfl Try.func14 rfl rfl (by show [PB.slot A 15, PB.slot A 16] = _; rw [show PB.slot A 15 = plV p s from hA 3 rfl, show PB.slot A 16 = plV q t from hA 4 rfl]) (HR.out W hB)
        · exact PB.does_bin (PB.wanted_free rfl) rfl (hA 2 rfl) (hA 5 rfl) (run_eq_bool W d _ _) rfl
        · exact PB.does_move (PB.wanted_free rfl) rfl (hA 6 rfl)
        · exact PB.does_run (PB.wanted_by rfl rfl (hA 7 rfl)) (run_loadPl (g := w.heap.size) W (hS.slots 2 rfl) (B1.out.below hB)) rfl
        · exact PB.does_run (PB.wanted_by rfl rfl (hA 7 rfl)) (run_loadPl (g := w.heap.size) W (hS.slots 2 rfl) (B1.out.below hB)) rfl
        · exact PB.does_call #[plV p s, plV p s] (PB.wanted_by rfl rfl (hA 7 rfl)) rfl Try.func16 rfl rfl (by show [PB.slot A 20, PB.slot A 21] = _; rw [show PB.slot A 20 = plV p s from hA 8 rfl, show PB.slot A 21 = plV p s from hA 9 rfl]) (HP.out W hB)
        · exact PB.does_pick (PB.wanted_free rfl) rfl (hA 7 rfl) (hA 10 rfl)
        · exact PB.does_move (PB.wanted_free rfl) rfl (hA 11 rfl)
        · exact PB.does_call #[] (PB.wanted_by rfl rfl (hA 12 rfl)) rfl Try.func7 rfl rfl rfl (live_newB W)
        · exact PB.does_pick (PB.wanted_free rfl) rfl (hA 12 rfl) (hA 13 rfl)
        · exact PB.does_assign (PB.wanted_free rfl) rfl (hA 14 rfl)
      · intro A W hB hS hL
        have h15 : PB.slot A 4 = .bool true := hL 15 (by decide)
        obtain ⟨tmps, defers⟩ := A
        have hd : defers = [] := hS.defers
        subst hd
        go_wp2
        go_ret
        exact ⟨congrArg Ending.returned h15, G2.out.below.trans (hB.mono G2.out.below.size)⟩

end Go.Proofs.Ytjpjeledbjpaeaa
