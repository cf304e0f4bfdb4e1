/-
  What is proved here: the law MomentPartial answers true at any three times.
-/
import Derived.Test.YtpgiekjkmfbmaaaPartRun
import Derived.Deep.DeepCutAuto
namespace Go.Proofs.Ytpgiekjkmfbmaaa
open Go.RowKit Go.Proofs
set_option linter.unusedVariables false
set_option linter.unusedSimpArgs false

theorem frame_of {A : Act} {n : Nat} (h : A.tmps.size = n) : A = { tmps := ((List.range n).map (PB.slot A)).toArray, defers := A.defers } := by
  obtain ⟨⟨tl⟩, d⟩ := A
  have hl : tl.length = n := h
  have e : tl = (List.range n).map (PB.slot ⟨⟨tl⟩, d⟩) := by
    apply List.ext_getElem (by simp [hl])
    intro i h1 h2
    simp [PB.slot, Array.getD, h1]
  conv => lhs; rw [e]

set_option maxRecDepth 100000 in
set_option maxHeartbeats 4000000 in
theorem partial_walk (w : World) (a1 a2 b1 b2 c1 c2 : Int) :
    Calls Try.prog 5 #[.agg #[.int .i64 a1, .int .i64 a2], .agg #[.int .i64 b1, .int .i64 b2], .agg #[.int .i64 c1, .int .i64 c2]] w fun e w' => e = .returned (.bool true) ∧ Below w.heap.size w w' := by
  have mixed : Try.prog.follows .mixedOrders = true := by kernel_rfl
  have Haa := hid' (fun W => lessEq_any (a1, a2) (a1, a2) W)
  have Hab := hid' (fun W => lessEq_any (a1, a2) (b1, b2) W)
  have Hba := hid' (fun W => lessEq_any (b1, b2) (a1, a2) W)
  have Hbc := hid' (fun W => lessEq_any (b1, b2) (c1, c2) W)
  have Hac := hid' (fun W => lessEq_any (a1, a2) (c1, c2) W)
  rw [le2_refl] at Haa
  obtain ⟨ab, hab⟩ : ∃ q, le2 (a1, a2) (b1, b2) = q := ⟨_, rfl⟩
  obtain ⟨ba, hba⟩ : ∃ q, le2 (b1, b2) (a1, a2) = q := ⟨_, rfl⟩
  obtain ⟨bc, hbc⟩ : ∃ q, le2 (b1, b2) (c1, c2) = q := ⟨_, rfl⟩
  obtain ⟨ac, hac⟩ : ∃ q, le2 (a1, a2) (c1, c2) = q := ⟨_, rfl⟩
  rw [hab] at Hab
  rw [hba] at Hba
  rw [hbc] at Hbc
  rw [hac] at Hac
  simp only at Haa Hab Hba Hbc Hac
  have QAB := hid' hab
  have QBA := hid' hba
  have QBC := hid' hbc
  have QAC := hid' hac
  clear hab hba hbc hac
  go_enter Try.func5, Try.ntmps5
  go_upto_region 1 with fail
  have hs0 : Gr w (((w.alloc (.cells #[.int .i64 a1, .int .i64 a2] 23)).alloc (.cells #[.int .i64 b1, .int .i64 b2] 23)).alloc (.cells #[.int .i64 c1, .int .i64 c2] 23)) := (((Gr.refl w).alloc _).alloc _).alloc _
  obtain ⟨W0, hW0⟩ : ∃ W0, ((w.alloc (.cells #[.int .i64 a1, .int .i64 a2] 23)).alloc (.cells #[.int .i64 b1, .int .i64 b2] 23)).alloc (.cells #[.int .i64 c1, .int .i64 c2] 23) = W0 := ⟨_, rfl⟩
  have l1 : w.heap.size + 1 + 1 < W0.heap.size := by rw [← hW0]; simp
  have o1 : W0.heap[w.heap.size]? = some (.cells #[.int .i64 a1, .int .i64 a2] 23 (0, 0)) := by rw [← hW0]; exact (Below.heap_alloc _ _ _ (by simp; omega)).trans (heap_alloc2_old w _ _)
  have o2 : W0.heap[w.heap.size + 1]? = some (.cells #[.int .i64 b1, .int .i64 b2] 23 (0, 0)) := by rw [← hW0]; exact (Below.heap_alloc _ _ _ (by simp)).trans (heap_alloc2_new w _ _)
  have o3 : W0.heap[w.heap.size + 1 + 1]? = some (.cells #[.int .i64 c1, .int .i64 c2] 23 (0, 0)) := by rw [← hW0]; have := World.alloc_heap_new ((w.alloc (.cells #[.int .i64 a1, .int .i64 a2] 23)).alloc (.cells #[.int .i64 b1, .int .i64 b2] 23)) (.cells #[.int .i64 c1, .int .i64 c2] 23); simpa using this
  rw [hW0] at hs0 ⊢
  clear hW0
  have KD : Hid (∀ W, Below W0.heap.size W0 W → W.cell? ⟨w.heap.size, 0, none⟩ = some (.int .i64 a1) ∧ W.cell? ⟨w.heap.size, 1, none⟩ = some (.int .i64 a2) ∧ W.cell? ⟨w.heap.size + 1, 0, none⟩ = some (.int .i64 b1) ∧ W.cell? ⟨w.heap.size + 1, 1, none⟩ = some (.int .i64 b2) ∧ W.cell? ⟨w.heap.size + 1 + 1, 0, none⟩ = some (.int .i64 c1) ∧ W.cell? ⟨w.heap.size + 1 + 1, 1, none⟩ = some (.int .i64 c2)) := fun W h => by
    have e1 := (h.block _ (show w.heap.size < W0.heap.size by omega)).trans o1
    have e2 := (h.block _ (show w.heap.size + 1 < W0.heap.size by omega)).trans o2
    have e3 := (h.block _ l1).trans o3
    rw [cell_of_row _ _ _ _ _ _ e1, cell_of_row _ _ _ _ _ _ e1, cell_of_row _ _ _ _ _ _ e2, cell_of_row _ _ _ _ _ _ e2, cell_of_row _ _ _ _ _ _ e3, cell_of_row _ _ _ _ _ _ e3]
    exact ⟨rfl, rfl, rfl, rfl, rfl, rfl⟩
  have KC := hid' (fun W (h : Gr W0 W) => KD.out W h.below)
  clear o1 o2 o3
  go_cut [43] (fun s43 wx => s43 = .bool false ∧ Gr W0 wx)
  case first =>
    have g0 : Gr W0 W0 := Gr.refl _
    obtain ⟨fa0, fb0, fc0, fd0, fe0, ff0⟩ := KC.out W0 g0
    cases ab with
    | false =>
      go_wp2_with fail
      refine (Haa.out _).mono ?_
      rintro e w1 ⟨rfl, hg1⟩
      have g1 : Gr W0 w1 := g0.trans hg1
      obtain ⟨fa1, fb1, fc1, fd1, fe1, ff1⟩ := KC.out w1 g1
      clear fa0 fb0 fc0 fd0 fe0 ff0 hg1
      go_wp2_with fail
      refine (Hab.out _).mono ?_
      rintro e w2 ⟨rfl, hg2⟩
      have g2 : Gr W0 w2 := g1.trans hg2
      obtain ⟨fa2, fb2, fc2, fd2, fe2, ff2⟩ := KC.out w2 g2
      clear fa1 fb1 fc1 fd1 fe1 ff1 hg2
      go_wp2_with fail
      refine (Hab.out _).mono ?_
      rintro e w3 ⟨rfl, hg3⟩
      have g3 : Gr W0 w3 := g2.trans hg3
      obtain ⟨fa3, fb3, fc3, fd3, fe3, ff3⟩ := KC.out w3 g3
      clear fa2 fb2 fc2 fd2 fe2 ff2 hg3
      go_wp2
      go_meet
      case rel => exact ⟨rfl, g3⟩
    | true =>
      cases ba with
      | false =>
        cases bc with
        | false =>
          go_wp2_with fail
          refine (Haa.out _).mono ?_
          rintro e w1 ⟨rfl, hg1⟩
          have g1 : Gr W0 w1 := g0.trans hg1
          obtain ⟨fa1, fb1, fc1, fd1, fe1, ff1⟩ := KC.out w1 g1
          clear fa0 fb0 fc0 fd0 fe0 ff0 hg1
          go_wp2_with fail
          refine (Hab.out _).mono ?_
          rintro e w2 ⟨rfl, hg2⟩
          have g2 : Gr W0 w2 := g1.trans hg2
          obtain ⟨fa2, fb2, fc2, fd2, fe2, ff2⟩ := KC.out w2 g2
          clear fa1 fb1 fc1 fd1 fe1 ff1 hg2
          go_wp2_with fail
          refine (Hba.out _).mono ?_
          rintro e w3 ⟨rfl, hg3⟩
          have g3 : Gr W0 w3 := g2.trans hg3
          obtain ⟨fa3, fb3, fc3, fd3, fe3, ff3⟩ := KC.out w3 g3
          clear fa2 fb2 fc2 fd2 fe2 ff2 hg3
          go_wp2_with fail
          refine (Hab.out _).mono ?_
          rintro e w4 ⟨rfl, hg4⟩
          have g4 : Gr W0 w4 := g3.trans hg4
          obtain ⟨fa4, fb4, fc4, fd4, fe4, ff4⟩ := KC.out w4 g4
          clear fa3 fb3 fc3 fd3 fe3 ff3 hg4
          go_wp2_with fail
          refine (Hbc.out _).mono ?_
          rintro e w5 ⟨rfl, hg5⟩
          have g5 : Gr W0 w5 := g4.trans hg5
          obtain ⟨fa5, fb5, fc5, fd5, fe5, ff5⟩ := KC.out w5 g5
          clear fa4 fb4 fc4 fd4 fe4 ff4 hg5
          go_wp2
          go_meet
          case rel => exact ⟨rfl, g5⟩
        | true =>
          obtain rfl : ac = true := by rw [← QAC.out]; exact le2_trans QAB.out QBC.out
          go_wp2_with fail
          refine (Haa.out _).mono ?_
          rintro e w1 ⟨rfl, hg1⟩
          have g1 : Gr W0 w1 := g0.trans hg1
          obtain ⟨fa1, fb1, fc1, fd1, fe1, ff1⟩ := KC.out w1 g1
          clear fa0 fb0 fc0 fd0 fe0 ff0 hg1
          go_wp2_with fail
          refine (Hab.out _).mono ?_
          rintro e w2 ⟨rfl, hg2⟩
          have g2 : Gr W0 w2 := g1.trans hg2
          obtain ⟨fa2, fb2, fc2, fd2, fe2, ff2⟩ := KC.out w2 g2
          clear fa1 fb1 fc1 fd1 fe1 ff1 hg2
          go_wp2_with fail
          refine (Hba.out _).mono ?_
          rintro e w3 ⟨rfl, hg3⟩
          have g3 : Gr W0 w3 := g2.trans hg3
          obtain ⟨fa3, fb3, fc3, fd3, fe3, ff3⟩ := KC.out w3 g3
          clear fa2 fb2 fc2 fd2 fe2 ff2 hg3
          go_wp2_with fail
          refine (Hab.out _).mono ?_
          rintro e w4 ⟨rfl, hg4⟩
          have g4 : Gr W0 w4 := g3.trans hg4
          obtain ⟨fa4, fb4, fc4, fd4, fe4, ff4⟩ := KC.out w4 g4
          clear fa3 fb3 fc3 fd3 fe3 ff3 hg4
          go_wp2_with fail
          refine (Hbc.out _).mono ?_
          rintro e w5 ⟨rfl, hg5⟩
          have g5 : Gr W0 w5 := g4.trans hg5
          obtain ⟨fa5, fb5, fc5, fd5, fe5, ff5⟩ := KC.out w5 g5
          clear fa4 fb4 fc4 fd4 fe4 ff4 hg5
          go_wp2_with fail
          refine (Hac.out _).mono ?_
          rintro e w6 ⟨rfl, hg6⟩
          have g6 : Gr W0 w6 := g5.trans hg6
          obtain ⟨fa6, fb6, fc6, fd6, fe6, ff6⟩ := KC.out w6 g6
          clear fa5 fb5 fc5 fd5 fe5 ff5 hg6
          go_wp2
          go_meet
          case rel => exact ⟨rfl, g6⟩
      | true =>
        obtain ⟨rfl, rfl⟩ := Prod.mk.inj (le2_anti QAB.out QBA.out)
        cases bc with
        | false =>
          go_wp2_with fail
          refine (Haa.out _).mono ?_
          rintro e w1 ⟨rfl, hg1⟩
          have g1 : Gr W0 w1 := g0.trans hg1
          obtain ⟨fa1, fb1, fc1, fd1, fe1, ff1⟩ := KC.out w1 g1
          clear fa0 fb0 fc0 fd0 fe0 ff0 hg1
          go_wp2_with fail
          refine (Hab.out _).mono ?_
          rintro e w2 ⟨rfl, hg2⟩
          have g2 : Gr W0 w2 := g1.trans hg2
          obtain ⟨fa2, fb2, fc2, fd2, fe2, ff2⟩ := KC.out w2 g2
          clear fa1 fb1 fc1 fd1 fe1 ff1 hg2
          go_wp2_with fail
          refine (Hba.out _).mono ?_
          rintro e w3 ⟨rfl, hg3⟩
          have g3 : Gr W0 w3 := g2.trans hg3
          obtain ⟨fa3, fb3, fc3, fd3, fe3, ff3⟩ := KC.out w3 g3
          clear fa2 fb2 fc2 fd2 fe2 ff2 hg3
          go_wp2_with fail
          refine (Hab.out _).mono ?_
          rintro e w4 ⟨rfl, hg4⟩
          have g4 : Gr W0 w4 := g3.trans hg4
          obtain ⟨fa4, fb4, fc4, fd4, fe4, ff4⟩ := KC.out w4 g4
          clear fa3 fb3 fc3 fd3 fe3 ff3 hg4
          go_wp2_with fail
          refine (Hbc.out _).mono ?_
          rintro e w5 ⟨rfl, hg5⟩
          have g5 : Gr W0 w5 := g4.trans hg5
          obtain ⟨fa5, fb5, fc5, fd5, fe5, ff5⟩ := KC.out w5 g5
          clear fa4 fb4 fc4 fd4 fe4 ff4 hg5
          go_wp2
          go_meet
          case rel => exact ⟨rfl, g5⟩
        | true =>
          obtain rfl : ac = true := by rw [← QAC.out]; exact le2_trans QAB.out QBC.out
          go_wp2_with fail
          refine (Haa.out _).mono ?_
          rintro e w1 ⟨rfl, hg1⟩
          have g1 : Gr W0 w1 := g0.trans hg1
          obtain ⟨fa1, fb1, fc1, fd1, fe1, ff1⟩ := KC.out w1 g1
          clear fa0 fb0 fc0 fd0 fe0 ff0 hg1
          go_wp2_with fail
          refine (Hab.out _).mono ?_
          rintro e w2 ⟨rfl, hg2⟩
          have g2 : Gr W0 w2 := g1.trans hg2
          obtain ⟨fa2, fb2, fc2, fd2, fe2, ff2⟩ := KC.out w2 g2
          clear fa1 fb1 fc1 fd1 fe1 ff1 hg2
          go_wp2_with fail
          refine (Hba.out _).mono ?_
          rintro e w3 ⟨rfl, hg3⟩
          have g3 : Gr W0 w3 := g2.trans hg3
          obtain ⟨fa3, fb3, fc3, fd3, fe3, ff3⟩ := KC.out w3 g3
          clear fa2 fb2 fc2 fd2 fe2 ff2 hg3
          go_wp2_with fail
          refine (Hab.out _).mono ?_
          rintro e w4 ⟨rfl, hg4⟩
          have g4 : Gr W0 w4 := g3.trans hg4
          obtain ⟨fa4, fb4, fc4, fd4, fe4, ff4⟩ := KC.out w4 g4
          clear fa3 fb3 fc3 fd3 fe3 ff3 hg4
          go_wp2_with fail
          refine (Hbc.out _).mono ?_
          rintro e w5 ⟨rfl, hg5⟩
          have g5 : Gr W0 w5 := g4.trans hg5
          obtain ⟨fa5, fb5, fc5, fd5, fe5, ff5⟩ := KC.out w5 g5
          clear fa4 fb4 fc4 fd4 fe4 ff4 hg5
          go_wp2_with fail
          refine (Hac.out _).mono ?_
          rintro e w6 ⟨rfl, hg6⟩
          have g6 : Gr W0 w6 := g5.trans hg6
          obtain ⟨fa6, fb6, fc6, fd6, fe6, ff6⟩ := KC.out w6 g6
          clear fa5 fb5 fc5 fd5 fe5 ff5 hg6
          go_wp2
          go_meet
          case rel => exact ⟨rfl, g6⟩
  case rest =>
    obtain ⟨rfl, gwc⟩ := hcut
    go_upto_region 3 with fail
    have HKj := hid' (fun W => known (join_any (a1, a2) (b1, b2) W))
    have HKm := hid' (fun W => known (meet_any (a1, a2) (b1, b2) W))
    obtain ⟨⟨j1, j2⟩, hj⟩ : ∃ z, joinT (a1, a2) (b1, b2) = z := ⟨_, rfl⟩
    obtain ⟨⟨m1, m2⟩, hm⟩ : ∃ z, meetT (a1, a2) (b1, b2) = z := ⟨_, rfl⟩
    rw [hj] at HKj
    rw [hm] at HKm
    have QJ := hid' hj
    have QM := hid' hm
    simp only [tv] at HKj HKm
    clear hj hm
    have KW : Hid (∀ W, Below wc.heap.size wc W → Below W0.heap.size W0 W) := fun W h => gwc.below.trans (h.mono gwc.below.size)
    refine PB.wp_region_invT (R3 w.heap.size (a1, a2) (b1, b2) (j1, j2) (m1, m2) wc) mixed (by kernel_rfl)
      ⟨rfl, rfl, rfl, rfl, rfl, rfl, (Below.refl _ _).drew, fun k v _ h => (by cases h), fun h => (by cases h), fun h => (by cases h), fun h => (by cases h), fun h => (by cases h), fun h => (by cases h), fun h => (by cases h), fun h => (by cases h)⟩ ?_ ?_
    · refine ⟨?_, ?_, ?_, ?_, ?_, ?_, ?_, ?_, ?_, ?_, trivial⟩ <;> intro L A W hl hw hI
      · exact PB.inv_does (v := tv (a1, a2)) (PB.does_run (PB.wanted_free rfl) (run_load23 W hI.s3 (KD.out W (KW.out W hI.below)).1 (KD.out W (KW.out W hI.below)).2.1) rfl) (fun w' hb => hI.pure (i := 0) (by omega) rfl hb)
      · exact PB.inv_does (v := tv (b1, b2)) (PB.does_run (PB.wanted_free rfl) (run_load23 W hI.s4 (KD.out W (KW.out W hI.below)).2.2.1 (KD.out W (KW.out W hI.below)).2.2.2.1) rfl) (fun w' hb => hI.pure (i := 1) (by omega) rfl hb)
      · exact PB.inv_does (v := tv (j1, j2)) (PB.does_call #[tv (a1, a2), tv (b1, b2)] (PB.wanted_free rfl) rfl Try.func11 rfl rfl (by show [PB.slot A 44, PB.slot A 45] = _; rw [show PB.slot A 44 = tv (a1, a2) from hI.vals 0 _ rfl (hw 0 rfl), show PB.slot A 45 = tv (b1, b2) from hI.vals 1 _ rfl (hw 1 rfl)]) (HKj.out W)) (fun w' hb => hI.pure (i := 2) (by omega) rfl hb)
      · exact PB.inv_does (v := tv (a1, a2)) (PB.does_run (PB.wanted_free rfl) (run_load23 W hI.s3 (KD.out W (KW.out W hI.below)).1 (KD.out W (KW.out W hI.below)).2.1) rfl) (fun w' hb => hI.pure (i := 3) (by omega) rfl hb)
      · exact PB.inv_does (v := tv (b1, b2)) (PB.does_run (PB.wanted_free rfl) (run_load23 W hI.s4 (KD.out W (KW.out W hI.below)).2.2.1 (KD.out W (KW.out W hI.below)).2.2.2.1) rfl) (fun w' hb => hI.pure (i := 4) (by omega) rfl hb)
      · exact PB.inv_does (v := tv (m1, m2)) (PB.does_call #[tv (a1, a2), tv (b1, b2)] (PB.wanted_free rfl) rfl Try.func13 rfl rfl (by show [PB.slot A 47, PB.slot A 48] = _; rw [show PB.slot A 47 = tv (a1, a2) from hI.vals 3 _ rfl (hw 3 rfl), show PB.slot A 48 = tv (b1, b2) from hI.vals 4 _ rfl (hw 4 rfl)]) (HKm.out W)) (fun w' hb => hI.pure (i := 5) (by omega) rfl hb)
      · exact PB.inv_value (PB.wanted_free rfl) (run_alloc23 W) (hI.new7 hl)
      · exact PB.inv_value (PB.wanted_free rfl) (run_alloc23 W) (hI.new8 hl)
      · obtain ⟨g, x, e, hg, hb⟩ := hI.p7 (hw 6 rfl)
        exact PB.inv_skip (PB.wanted_free rfl) rfl (run_store23 W e (hI.vals 2 _ rfl (hw 2 rfl)) hb) (hI.store8 (hw 6 rfl) (hw 7 rfl) e hg hb)
      · obtain ⟨g, x, e, hg, hb⟩ := hI.p8 (hw 7 rfl)
        exact PB.inv_skip (PB.wanted_free rfl) rfl (run_store23 W e (hI.vals 5 _ rfl (hw 5 rfl)) hb) (hI.store9 (hw 6 rfl) (hw 7 rfl) e hg hb)
    · intro L A W hall hI
      obtain ⟨g7, e7, x7⟩ := hI.b8 (hall 8 (by decide))
      obtain ⟨g8, e8, x8⟩ := hI.b9 (hall 9 (by decide))
      have hBW : Below W0.heap.size W0 W := KW.out W hI.below
      obtain ⟨d, s3', s4', s5', s6', sz⟩ := (⟨hI.defers, hI.s3, hI.s4, hI.s5, hI.s6, hI.size⟩ : _ ∧ _ ∧ _ ∧ _ ∧ _ ∧ _)
      clear hI hall
      have hA := frame_of sz
      rw [d] at hA
      obtain ⟨f, hf⟩ : ∃ f, PB.slot A = f := ⟨_, rfl⟩
      rw [hf] at hA s3' s4' s5' s6' e7 e8
      rw [hA]
      clear hA hf sz d
      simp only [List.range, List.range.loop, List.map_cons, List.map_nil, s3', s4', s5', s6', e7, e8, ptr]
      have hjj : le2 (a1, a2) (j1, j2) = true ∧ le2 (b1, b2) (j1, j2) = true := by
        rw [← QJ.out]
        unfold le2 joinT
        simp only [Bool.and_eq_true, decide_eq_true_eq]
        omega
      have hmm : le2 (m1, m2) (a1, a2) = true ∧ le2 (m1, m2) (b1, b2) = true := by
        rw [← QM.out]
        unfold le2 meetT
        simp only [Bool.and_eq_true, decide_eq_true_eq]
        omega
      have Haj := hid' (fun W => lessEq_any (a1, a2) (j1, j2) W)
      have Hbj := hid' (fun W => lessEq_any (b1, b2) (j1, j2) W)
      have Hma := hid' (fun W => lessEq_any (m1, m2) (a1, a2) W)
      have Hmb := hid' (fun W => lessEq_any (m1, m2) (b1, b2) W)
      rw [hjj.1] at Haj
      rw [hjj.2] at Hbj
      rw [hmm.1] at Hma
      rw [hmm.2] at Hmb
      simp only at Haj Hbj Hma Hmb
      clear hjj hmm
      have KE : Hid (∀ V, Gr W V → V.cell? ⟨w.heap.size, 0, none⟩ = some (.int .i64 a1) ∧ V.cell? ⟨w.heap.size, 1, none⟩ = some (.int .i64 a2) ∧ V.cell? ⟨w.heap.size + 1, 0, none⟩ = some (.int .i64 b1) ∧ V.cell? ⟨w.heap.size + 1, 1, none⟩ = some (.int .i64 b2) ∧ V.cell? ⟨w.heap.size + 1 + 1, 0, none⟩ = some (.int .i64 c1) ∧ V.cell? ⟨w.heap.size + 1 + 1, 1, none⟩ = some (.int .i64 c2) ∧ V.cell? ⟨g7, 0, none⟩ = some (.int .i64 j1) ∧ V.cell? ⟨g7, 1, none⟩ = some (.int .i64 j2) ∧ V.cell? ⟨g8, 0, none⟩ = some (.int .i64 m1) ∧ V.cell? ⟨g8, 1, none⟩ = some (.int .i64 m2)) := fun V h => by
        obtain ⟨f1, f2, f3, f4, f5, f6⟩ := KD.out V (hBW.trans (h.below.mono hBW.size))
        have y7 := x7.keep h.below
        have y8 := x8.keep h.below
        unfold Box at y7 y8
        refine ⟨f1, f2, f3, f4, f5, f6, ?_, ?_, ?_, ?_⟩
        · rw [cell_of_row _ _ _ _ _ _ y7]; rfl
        · rw [cell_of_row _ _ _ _ _ _ y7]; rfl
        · rw [cell_of_row _ _ _ _ _ _ y8]; rfl
        · rw [cell_of_row _ _ _ _ _ _ y8]; rfl
      have g0 : Gr W W := Gr.refl _
      obtain ⟨fa0, fb0, fc0, fd0, fe0, ff0, fg0, fh0, fi0, fj0⟩ := KE.out W g0
      go_wp2_with fail
      refine (Haj.out _).mono ?_
      rintro e w1 ⟨rfl, hg1⟩
      have g1 : Gr W w1 := g0.trans hg1
      obtain ⟨fa1, fb1, fc1, fd1, fe1, ff1, fg1, fh1, fi1, fj1⟩ := KE.out w1 g1
      clear fa0 fb0 fc0 fd0 fe0 ff0 fg0 fh0 fi0 fj0 hg1
      go_wp2_with fail
      refine (Hbj.out _).mono ?_
      rintro e w2 ⟨rfl, hg2⟩
      have g2 : Gr W w2 := g1.trans hg2
      obtain ⟨fa2, fb2, fc2, fd2, fe2, ff2, fg2, fh2, fi2, fj2⟩ := KE.out w2 g2
      clear fa1 fb1 fc1 fd1 fe1 ff1 fg1 fh1 fi1 fj1 hg2
      go_wp2_with fail
      refine (Hma.out _).mono ?_
      rintro e w3 ⟨rfl, hg3⟩
      have g3 : Gr W w3 := g2.trans hg3
      obtain ⟨fa3, fb3, fc3, fd3, fe3, ff3, fg3, fh3, fi3, fj3⟩ := KE.out w3 g3
      clear fa2 fb2 fc2 fd2 fe2 ff2 fg2 fh2 fi2 fj2 hg3
      go_wp2_with fail
      refine (Hmb.out _).mono ?_
      rintro e w4 ⟨rfl, hg4⟩
      have g4 : Gr W w4 := g3.trans hg4
      obtain ⟨fa4, fb4, fc4, fd4, fe4, ff4, fg4, fh4, fi4, fj4⟩ := KE.out w4 g4
      clear fa3 fb3 fc3 fd3 fe3 ff3 fg3 fh3 fi3 fj3 hg4
      go_upto_region 6 with fail
      have hB4 : Below W0.heap.size W0 w4 := hBW.trans (g4.below.mono hBW.size)
      have z7 := x7.keep g4.below
      have z8 := x8.keep g4.below
      obtain ⟨ca, hca⟩ : ∃ q, le2 (c1, c2) (a1, a2) = q := ⟨_, rfl⟩
      obtain ⟨cb, hcb⟩ : ∃ q, le2 (c1, c2) (b1, b2) = q := ⟨_, rfl⟩
      have hjc : le2 (j1, j2) (c1, c2) = (ac && bc) := by rw [← QJ.out, le2_join, QAC.out, QBC.out]
      have hcm : le2 (c1, c2) (m1, m2) = (ca && cb) := by rw [← QM.out, le2_meet, hca, hcb]
      have Ka : Hid (∀ V, Below w4.heap.size w4 V → V.cell? ⟨w.heap.size, 0, none⟩ = some (.int .i64 a1) ∧ V.cell? ⟨w.heap.size, 0 + 1, none⟩ = some (.int .i64 a2)) := fun V h => ⟨(KD.out V (hB4.trans (h.mono hB4.size))).1, (KD.out V (hB4.trans (h.mono hB4.size))).2.1⟩
      have Kb : Hid (∀ V, Below w4.heap.size w4 V → V.cell? ⟨w.heap.size + 1, 0, none⟩ = some (.int .i64 b1) ∧ V.cell? ⟨w.heap.size + 1, 0 + 1, none⟩ = some (.int .i64 b2)) := fun V h => ⟨(KD.out V (hB4.trans (h.mono hB4.size))).2.2.1, (KD.out V (hB4.trans (h.mono hB4.size))).2.2.2.1⟩
      have Kc : Hid (∀ V, Below w4.heap.size w4 V → V.cell? ⟨w.heap.size + 1 + 1, 0, none⟩ = some (.int .i64 c1) ∧ V.cell? ⟨w.heap.size + 1 + 1, 0 + 1, none⟩ = some (.int .i64 c2)) := fun V h => ⟨(KD.out V (hB4.trans (h.mono hB4.size))).2.2.2.2.1, (KD.out V (hB4.trans (h.mono hB4.size))).2.2.2.2.2⟩
      have Kj : Hid (∀ V, Below w4.heap.size w4 V → V.cell? ⟨g7, 0, none⟩ = some (.int .i64 j1) ∧ V.cell? ⟨g7, 0 + 1, none⟩ = some (.int .i64 j2)) := fun V h => by
        have y := z7.keep h
        unfold Box at y
        rw [cell_of_row _ _ _ _ _ _ y, cell_of_row _ _ _ _ _ _ y]
        exact ⟨rfl, rfl⟩
      have Km : Hid (∀ V, Below w4.heap.size w4 V → V.cell? ⟨g8, 0, none⟩ = some (.int .i64 m1) ∧ V.cell? ⟨g8, 0 + 1, none⟩ = some (.int .i64 m2)) := fun V h => by
        have y := z8.keep h
        unfold Box at y
        rw [cell_of_row _ _ _ _ _ _ y, cell_of_row _ _ _ _ _ _ y]
        exact ⟨rfl, rfl⟩
      have Kac := hid' (fun V => known (lessEq_any (a1, a2) (c1, c2) V))
      rw [QAC.out] at Kac
      simp only at Kac
      have Kbc := hid' (fun V => known (lessEq_any (b1, b2) (c1, c2) V))
      rw [QBC.out] at Kbc
      simp only at Kbc
      have Kjc := hid' (fun V => known (lessEq_any (j1, j2) (c1, c2) V))
      rw [hjc] at Kjc
      simp only at Kjc
      have Kca := hid' (fun V => known (lessEq_any (c1, c2) (a1, a2) V))
      rw [hca] at Kca
      simp only at Kca
      have Kcb := hid' (fun V => known (lessEq_any (c1, c2) (b1, b2) V))
      rw [hcb] at Kcb
      simp only at Kcb
      have Kcm := hid' (fun V => known (lessEq_any (c1, c2) (m1, m2) V))
      rw [hcm] at Kcm
      simp only at Kcm
      have Kab := hid' (fun V => known (lessEq_any (a1, a2) (b1, b2) V))
      rw [QAB.out] at Kab
      simp only at Kab
      obtain ⟨od, hodd⟩ : ∃ od, cfT (a1, a2) (b1, b2) = od := ⟨_, rfl⟩
      have hdo : cfT (b1, b2) (a1, a2) = -od := by rw [cf_neg, hodd]
      have hrg : -od = -1 ∨ -od = 0 ∨ -od = 1 := by rw [← hdo]; exact cf_range _ _
      have Kod := hid' (fun V => known (orderF_any (a1, a2) (b1, b2) V))
      rw [hodd] at Kod
      simp only at Kod
      have Kdo := hid' (fun V => known (orderF_any (b1, b2) (a1, a2) V))
      rw [hdo] at Kdo
      simp only at Kdo
      have QOD := hid' hodd
      clear fa4 fb4 fc4 fd4 fe4 ff4 fg4 fh4 fi4 fj4 hca hcb hjc hcm hodd hdo
      have HRG := hid' hrg
      clear hrg
      cases ac with
      | false =>
        cases ca with
        | false =>
          refine PS.wp_region_plan (PS.phi [PS.E (.agg #[.int .i64 a1, .int .i64 a2]), PS.E (.agg #[.int .i64 c1, .int .i64 c2]), PS.E (.bool false), PS.E (.bool false), PS.E undef, PS.E undef, PS.E undef, PS.E undef, PS.E undef, PS.E undef, PS.E undef, PS.E (.bool false), PS.E (.bool false), PS.E (.agg #[.int .i64 c1, .int .i64 c2]), PS.E (.agg #[.int .i64 a1, .int .i64 a2]), PS.E (.bool false), PS.E (.bool false), PS.E undef, PS.E undef, PS.E undef, PS.E undef, PS.E undef, PS.E undef, PS.E undef, PS.E (.bool false), PS.E (.bool false)]) mixed (by kernel_rfl)
            (PS.phi_lasts _ ⟨PS.E_lasts _, PS.E_lasts _, PS.E_lasts _, PS.E_lasts _, PS.E_lasts _, PS.E_lasts _, PS.E_lasts _, PS.E_lasts _, PS.E_lasts _, PS.E_lasts _, PS.E_lasts _, PS.E_lasts _, PS.E_lasts _, PS.E_lasts _, PS.E_lasts _, PS.E_lasts _, PS.E_lasts _, PS.E_lasts _, PS.E_lasts _, PS.E_lasts _, PS.E_lasts _, PS.E_lasts _, PS.E_lasts _, PS.E_lasts _, PS.E_lasts _, PS.E_lasts _, trivial⟩) ?_ ?_
          · refine ⟨?_, ?_, ?_, ?_, ?_, ?_, ?_, ?_, ?_, ?_, ?_, ?_, ?_, ?_, ?_, ?_, ?_, ?_, ?_, ?_, ?_, ?_, ?_, ?_, ?_, ?_, trivial⟩ <;> intro A W hB hS hA hF
            · exact Or.inl (PB.does_run (PB.wanted_free rfl) (run_load23 W (hS.slots 3 rfl) (Ka.out W hB).1 (Ka.out W hB).2) rfl)
            · exact Or.inl (PB.does_run (PB.wanted_free rfl) (run_load23 W (hS.slots 5 rfl) (Kc.out W hB).1 (Kc.out W hB).2) rfl)
            · exact Or.inl (PB.does_call #[.agg #[.int .i64 a1, .int .i64 a2], .agg #[.int .i64 c1, .int .i64 c2]] (PB.wanted_free rfl) rfl Try.func9 rfl rfl (by show [PB.slot A 72, PB.slot A 73] = _; rw [show PB.slot A 72 = .agg #[.int .i64 a1, .int .i64 a2] from hA 0 rfl, show PB.slot A 73 = .agg #[.int .i64 c1, .int .i64 c2] from hA 1 rfl]) (Kac.out W))
            · exact Or.inl (PB.does_move (PB.wanted_free rfl) rfl (hA 2 rfl))
            · exact Or.inr ⟨PS.pass_by rfl rfl (hA 3 rfl) (by decide), rfl⟩
            · exact Or.inr ⟨PS.pass_by rfl rfl (hA 3 rfl) (by decide), rfl⟩
            · exact Or.inr ⟨PS.pass_by rfl rfl (hA 3 rfl) (by decide), rfl⟩
            · exact Or.inr ⟨PS.pass_by rfl rfl (hA 3 rfl) (by decide), rfl⟩
            · exact Or.inr ⟨PS.pass_by rfl rfl (hA 3 rfl) (by decide), rfl⟩
            · exact Or.inr ⟨PS.pass_by rfl rfl (hA 3 rfl) (by decide), rfl⟩
            · exact Or.inr ⟨PS.pass_by rfl rfl (hA 3 rfl) (by decide), rfl⟩
            · exact Or.inl (PB.does_run (PB.wanted_free rfl) (run_pick_elseC W (hA 3 rfl)) rfl)
            · exact Or.inl (PB.does_move (PB.wanted_free rfl) rfl (hA 11 rfl))
            · exact Or.inl (PB.does_run (PB.wanted_by rfl rfl (hA 12 rfl)) (run_load23 W (hS.slots 5 rfl) (Kc.out W hB).1 (Kc.out W hB).2) rfl)
            · exact Or.inl (PB.does_run (PB.wanted_by rfl rfl (hA 12 rfl)) (run_load23 W (hS.slots 3 rfl) (Ka.out W hB).1 (Ka.out W hB).2) rfl)
            · exact Or.inl (PB.does_call #[.agg #[.int .i64 c1, .int .i64 c2], .agg #[.int .i64 a1, .int .i64 a2]] (PB.wanted_by rfl rfl (hA 12 rfl)) rfl Try.func9 rfl rfl (by show [PB.slot A 85, PB.slot A 86] = _; rw [show PB.slot A 85 = .agg #[.int .i64 c1, .int .i64 c2] from hA 13 rfl, show PB.slot A 86 = .agg #[.int .i64 a1, .int .i64 a2] from hA 14 rfl]) (Kca.out W))
            · exact Or.inl (PB.does_move (PB.wanted_by rfl rfl (hA 12 rfl)) rfl (hA 15 rfl))
            · exact Or.inr ⟨PS.pass_by rfl rfl (hA 16 rfl) (by decide), rfl⟩
            · exact Or.inr ⟨PS.pass_by rfl rfl (hA 16 rfl) (by decide), rfl⟩
            · exact Or.inr ⟨PS.pass_by rfl rfl (hA 16 rfl) (by decide), rfl⟩
            · exact Or.inr ⟨PS.pass_by rfl rfl (hA 16 rfl) (by decide), rfl⟩
            · exact Or.inr ⟨PS.pass_by rfl rfl (hA 16 rfl) (by decide), rfl⟩
            · exact Or.inr ⟨PS.pass_by rfl rfl (hA 16 rfl) (by decide), rfl⟩
            · exact Or.inr ⟨PS.pass_by rfl rfl (hA 16 rfl) (by decide), rfl⟩
            · exact Or.inl (PB.does_run (PB.wanted_by rfl rfl (hA 12 rfl)) (run_pick_elseC W (hA 16 rfl)) rfl)
            · exact Or.inl (PB.does_run (PB.wanted_free rfl) (run_pick_else W (hA 12 rfl) (hA 24 rfl)) rfl)
          · intro A W hB hS hL
            have h97 : PB.slot A 97 = .bool false := hL 25 (by decide)
            have q3 : PB.slot A 3 = .pointer (some ⟨w.heap.size, 0, none⟩) := hS.slots 3 rfl
            have q4 : PB.slot A 4 = .pointer (some ⟨w.heap.size + 1, 0, none⟩) := hS.slots 4 rfl
            have q6 : PB.slot A 6 = .bool false := hS.slots 6 rfl
            have hA := frame_of (A := A) (n := 121) hS.size
            have hd : A.defers = [] := hS.defers
            rw [hd] at hA
            obtain ⟨f6, hf⟩ : ∃ f, PB.slot A = f := ⟨_, rfl⟩
            rw [hf] at hA h97 q3 q4 q6
            rw [hA]
            have hBx : Below W0.heap.size W0 W := hB4.trans (hB.mono hB4.size)
            clear hA hf hd hL hS
            simp only [List.range, List.range.loop, List.map_cons, List.map_nil, h97, q3, q4, q6]
            go_upto_region 8 with fail
            have Ka : Hid (∀ V, Below W.heap.size W V → V.cell? ⟨w.heap.size, 0, none⟩ = some (.int .i64 a1) ∧ V.cell? ⟨w.heap.size, 0 + 1, none⟩ = some (.int .i64 a2)) := fun V h => ⟨(KD.out V (hBx.trans (h.mono hBx.size))).1, (KD.out V (hBx.trans (h.mono hBx.size))).2.1⟩
            have Kb : Hid (∀ V, Below W.heap.size W V → V.cell? ⟨w.heap.size + 1, 0, none⟩ = some (.int .i64 b1) ∧ V.cell? ⟨w.heap.size + 1, 0 + 1, none⟩ = some (.int .i64 b2)) := fun V h => ⟨(KD.out V (hBx.trans (h.mono hBx.size))).2.2.1, (KD.out V (hBx.trans (h.mono hBx.size))).2.2.2.1⟩
            have Kc : Hid (∀ V, Below W.heap.size W V → V.cell? ⟨w.heap.size + 1 + 1, 0, none⟩ = some (.int .i64 c1) ∧ V.cell? ⟨w.heap.size + 1 + 1, 0 + 1, none⟩ = some (.int .i64 c2)) := fun V h => ⟨(KD.out V (hBx.trans (h.mono hBx.size))).2.2.2.2.1, (KD.out V (hBx.trans (h.mono hBx.size))).2.2.2.2.2⟩
            have hrg := HRG.out
            cases ab with
            | false =>
              refine PS.wp_region_plan (PS.phi [PS.E (.agg #[.int .i64 a1, .int .i64 a2]), PS.E (.agg #[.int .i64 b1, .int .i64 b2]), PS.E (.bool false), PS.E (.bool true), PS.E (.bool true), PS.E undef, PS.E undef, PS.E undef, PS.E undef, PS.E (.bool true), PS.E (.bool true), PS.E (.agg #[.int .i64 a1, .int .i64 a2]), PS.E (.agg #[.int .i64 b1, .int .i64 b2]), PS.E (.int .i64 od), PS.E (.agg #[.int .i64 b1, .int .i64 b2]), PS.E (.agg #[.int .i64 a1, .int .i64 a2]), PS.E (.int .i64 (-od)), PS.E (.int .i64 (- -od)), PS.E (.bool true), PS.E (.bool true), PS.E (.bool true), PS.E (.bool true), PS.E (.bool true), PS.E (.bool true)]) mixed (by kernel_rfl)
                (PS.phi_lasts _ ⟨PS.E_lasts _, PS.E_lasts _, PS.E_lasts _, PS.E_lasts _, PS.E_lasts _, PS.E_lasts _, PS.E_lasts _, PS.E_lasts _, PS.E_lasts _, PS.E_lasts _, PS.E_lasts _, PS.E_lasts _, PS.E_lasts _, PS.E_lasts _, PS.E_lasts _, PS.E_lasts _, PS.E_lasts _, PS.E_lasts _, PS.E_lasts _, PS.E_lasts _, PS.E_lasts _, PS.E_lasts _, PS.E_lasts _, PS.E_lasts _, trivial⟩) ?_ ?_
              · refine ⟨?_, ?_, ?_, ?_, ?_, ?_, ?_, ?_, ?_, ?_, ?_, ?_, ?_, ?_, ?_, ?_, ?_, ?_, ?_, ?_, ?_, ?_, ?_, ?_, trivial⟩ <;> intro A W hB hS hA hF
                · exact Or.inl (PB.does_run (PB.wanted_free rfl) (run_load23 W (hS.slots 3 rfl) (Ka.out W hB).1 (Ka.out W hB).2) rfl)
                · exact Or.inl (PB.does_run (PB.wanted_free rfl) (run_load23 W (hS.slots 4 rfl) (Kb.out W hB).1 (Kb.out W hB).2) rfl)
                · exact Or.inl (PB.does_call #[.agg #[.int .i64 a1, .int .i64 a2], .agg #[.int .i64 b1, .int .i64 b2]] (PB.wanted_free rfl) rfl Try.func9 rfl rfl (by show [PB.slot A 98, PB.slot A 99] = _; rw [show PB.slot A 98 = .agg #[.int .i64 a1, .int .i64 a2] from hA 0 rfl, show PB.slot A 99 = .agg #[.int .i64 b1, .int .i64 b2] from hA 1 rfl]) (Kab.out W))
                · exact Or.inl (PB.does_run (PB.wanted_free rfl) (run_not W (hA 2 rfl)) rfl)
                · exact Or.inl (PB.does_move (PB.wanted_free rfl) rfl (hA 3 rfl))
                · exact Or.inr ⟨PS.pass_by rfl rfl (hA 4 rfl) (by decide), rfl⟩
                · exact Or.inr ⟨PS.pass_by rfl rfl (hA 4 rfl) (by decide), rfl⟩
                · exact Or.inr ⟨PS.pass_by rfl rfl (hA 4 rfl) (by decide), rfl⟩
                · exact Or.inr ⟨PS.pass_by rfl rfl (hA 4 rfl) (by decide), rfl⟩
                · exact Or.inl (PB.does_run (PB.wanted_free rfl) (run_pick_const W (hA 4 rfl)) rfl)
                · exact Or.inl (PB.does_move (PB.wanted_free rfl) rfl (hA 9 rfl))
                · exact Or.inl (PB.does_run (PB.wanted_by rfl rfl (hA 10 rfl)) (run_load23 W (hS.slots 3 rfl) (Ka.out W hB).1 (Ka.out W hB).2) rfl)
                · exact Or.inl (PB.does_run (PB.wanted_by rfl rfl (hA 10 rfl)) (run_load23 W (hS.slots 4 rfl) (Kb.out W hB).1 (Kb.out W hB).2) rfl)
                · exact Or.inl (PB.does_call #[.agg #[.int .i64 a1, .int .i64 a2], .agg #[.int .i64 b1, .int .i64 b2]] (PB.wanted_by rfl rfl (hA 10 rfl)) rfl Try.func15 rfl rfl (by show [PB.slot A 109, PB.slot A 110] = _; rw [show PB.slot A 109 = .agg #[.int .i64 a1, .int .i64 a2] from hA 11 rfl, show PB.slot A 110 = .agg #[.int .i64 b1, .int .i64 b2] from hA 12 rfl]) (Kod.out W))
                · exact Or.inl (PB.does_run (PB.wanted_by rfl rfl (hA 10 rfl)) (run_load23 W (hS.slots 4 rfl) (Kb.out W hB).1 (Kb.out W hB).2) rfl)
                · exact Or.inl (PB.does_run (PB.wanted_by rfl rfl (hA 10 rfl)) (run_load23 W (hS.slots 3 rfl) (Ka.out W hB).1 (Ka.out W hB).2) rfl)
                · exact Or.inl (PB.does_call #[.agg #[.int .i64 b1, .int .i64 b2], .agg #[.int .i64 a1, .int .i64 a2]] (PB.wanted_by rfl rfl (hA 10 rfl)) rfl Try.func15 rfl rfl (by show [PB.slot A 112, PB.slot A 113] = _; rw [show PB.slot A 112 = .agg #[.int .i64 b1, .int .i64 b2] from hA 14 rfl, show PB.slot A 113 = .agg #[.int .i64 a1, .int .i64 a2] from hA 15 rfl]) (Kdo.out W))
                · exact Or.inl (PB.does_run (PB.wanted_by rfl rfl (hA 10 rfl)) (run_neg W (hA 16 rfl) hrg) rfl)
                · exact Or.inl (PB.does_bin (PB.wanted_by rfl rfl (hA 10 rfl)) rfl (hA 13 rfl) (hA 17 rfl) (run_eqN W od _ _) rfl)
                · exact Or.inl (PB.does_run (PB.wanted_free rfl) (run_pick_then W (hA 10 rfl) (hA 18 rfl)) rfl)
                · exact Or.inl (PB.does_move (PB.wanted_free rfl) rfl (hA 19 rfl))
                · exact Or.inl (PB.does_call #[] (PB.wanted_by rfl rfl (hA 20 rfl)) rfl Try.func17 rfl rfl rfl (live_newB W))
                · exact Or.inl (PB.does_run (PB.wanted_free rfl) (run_pick_then W (hA 20 rfl) (hA 21 rfl)) rfl)
                · exact Or.inl (PB.does_assign (PB.wanted_free rfl) rfl (hA 22 rfl))
              · intro A W hB hS hL
                have h23 : PB.slot A 6 = .bool true := hL 23 (by decide)
                obtain ⟨tmps, defers⟩ := A
                have hd : defers = [] := hS.defers
                subst hd
                go_wp2
                go_ret
                exact ⟨congrArg Ending.returned h23, hs0.below.trans ((hBx.trans (hB.mono hBx.size)).mono hs0.below.size)⟩
            | true =>
              have hod : od ≤ 0 := by rw [← QOD.out]; exact cf_le QAB.out
              refine PS.wp_region_plan (PS.phi [PS.E (.agg #[.int .i64 a1, .int .i64 a2]), PS.E (.agg #[.int .i64 b1, .int .i64 b2]), PS.E (.bool true), PS.E (.bool false), PS.E (.bool false), PS.E (.agg #[.int .i64 a1, .int .i64 a2]), PS.E (.agg #[.int .i64 b1, .int .i64 b2]), PS.E (.int .i64 od), PS.E (.bool true), PS.E (.bool true), PS.E (.bool true), PS.E (.agg #[.int .i64 a1, .int .i64 a2]), PS.E (.agg #[.int .i64 b1, .int .i64 b2]), PS.E (.int .i64 od), PS.E (.agg #[.int .i64 b1, .int .i64 b2]), PS.E (.agg #[.int .i64 a1, .int .i64 a2]), PS.E (.int .i64 (-od)), PS.E (.int .i64 (- -od)), PS.E (.bool true), PS.E (.bool true), PS.E (.bool true), PS.E (.bool true), PS.E (.bool true), PS.E (.bool true)]) mixed (by kernel_rfl)
                (PS.phi_lasts _ ⟨PS.E_lasts _, PS.E_lasts _, PS.E_lasts _, PS.E_lasts _, PS.E_lasts _, PS.E_lasts _, PS.E_lasts _, PS.E_lasts _, PS.E_lasts _, PS.E_lasts _, PS.E_lasts _, PS.E_lasts _, PS.E_lasts _, PS.E_lasts _, PS.E_lasts _, PS.E_lasts _, PS.E_lasts _, PS.E_lasts _, PS.E_lasts _, PS.E_lasts _, PS.E_lasts _, PS.E_lasts _, PS.E_lasts _, PS.E_lasts _, trivial⟩) ?_ ?_
              · refine ⟨?_, ?_, ?_, ?_, ?_, ?_, ?_, ?_, ?_, ?_, ?_, ?_, ?_, ?_, ?_, ?_, ?_, ?_, ?_, ?_, ?_, ?_, ?_, ?_, trivial⟩ <;> intro A W hB hS hA hF
                · exact Or.inl (PB.does_run (PB.wanted_free rfl) (run_load23 W (hS.slots 3 rfl) (Ka.out W hB).1 (Ka.out W hB).2) rfl)
                · exact Or.inl (PB.does_run (PB.wanted_free rfl) (run_load23 W (hS.slots 4 rfl) (Kb.out W hB).1 (Kb.out W hB).2) rfl)
                · exact Or.inl (PB.does_call #[.agg #[.int .i64 a1, .int .i64 a2], .agg #[.int .i64 b1, .int .i64 b2]] (PB.wanted_free rfl) rfl Try.func9 rfl rfl (by show [PB.slot A 98, PB.slot A 99] = _; rw [show PB.slot A 98 = .agg #[.int .i64 a1, .int .i64 a2] from hA 0 rfl, show PB.slot A 99 = .agg #[.int .i64 b1, .int .i64 b2] from hA 1 rfl]) (Kab.out W))
                · exact Or.inl (PB.does_run (PB.wanted_free rfl) (run_not W (hA 2 rfl)) rfl)
                · exact Or.inl (PB.does_move (PB.wanted_free rfl) rfl (hA 3 rfl))
                · exact Or.inl (PB.does_run (PB.wanted_by rfl rfl (hA 4 rfl)) (run_load23 W (hS.slots 3 rfl) (Ka.out W hB).1 (Ka.out W hB).2) rfl)
                · exact Or.inl (PB.does_run (PB.wanted_by rfl rfl (hA 4 rfl)) (run_load23 W (hS.slots 4 rfl) (Kb.out W hB).1 (Kb.out W hB).2) rfl)
                · exact Or.inl (PB.does_call #[.agg #[.int .i64 a1, .int .i64 a2], .agg #[.int .i64 b1, .int .i64 b2]] (PB.wanted_by rfl rfl (hA 4 rfl)) rfl Try.func15 rfl rfl (by show [PB.slot A 103, PB.slot A 104] = _; rw [show PB.slot A 103 = .agg #[.int .i64 a1, .int .i64 a2] from hA 5 rfl, show PB.slot A 104 = .agg #[.int .i64 b1, .int .i64 b2] from hA 6 rfl]) (Kod.out W))
                · exact Or.inl (PB.does_bin2 (PB.wanted_by rfl rfl (hA 4 rfl)) rfl (hA 7 rfl) rfl (run_leq0 W od _ _ hod) rfl)
                · exact Or.inl (PB.does_run (PB.wanted_free rfl) (run_pick_else W (hA 4 rfl) (hA 8 rfl)) rfl)
                · exact Or.inl (PB.does_move (PB.wanted_free rfl) rfl (hA 9 rfl))
                · exact Or.inl (PB.does_run (PB.wanted_by rfl rfl (hA 10 rfl)) (run_load23 W (hS.slots 3 rfl) (Ka.out W hB).1 (Ka.out W hB).2) rfl)
                · exact Or.inl (PB.does_run (PB.wanted_by rfl rfl (hA 10 rfl)) (run_load23 W (hS.slots 4 rfl) (Kb.out W hB).1 (Kb.out W hB).2) rfl)
                · exact Or.inl (PB.does_call #[.agg #[.int .i64 a1, .int .i64 a2], .agg #[.int .i64 b1, .int .i64 b2]] (PB.wanted_by rfl rfl (hA 10 rfl)) rfl Try.func15 rfl rfl (by show [PB.slot A 109, PB.slot A 110] = _; rw [show PB.slot A 109 = .agg #[.int .i64 a1, .int .i64 a2] from hA 11 rfl, show PB.slot A 110 = .agg #[.int .i64 b1, .int .i64 b2] from hA 12 rfl]) (Kod.out W))
                · exact Or.inl (PB.does_run (PB.wanted_by rfl rfl (hA 10 rfl)) (run_load23 W (hS.slots 4 rfl) (Kb.out W hB).1 (Kb.out W hB).2) rfl)
                · exact Or.inl (PB.does_run (PB.wanted_by rfl rfl (hA 10 rfl)) (run_load23 W (hS.slots 3 rfl) (Ka.out W hB).1 (Ka.out W hB).2) rfl)
                · exact Or.inl (PB.does_call #[.agg #[.int .i64 b1, .int .i64 b2], .agg #[.int .i64 a1, .int .i64 a2]] (PB.wanted_by rfl rfl (hA 10 rfl)) rfl Try.func15 rfl rfl (by show [PB.slot A 112, PB.slot A 113] = _; rw [show PB.slot A 112 = .agg #[.int .i64 b1, .int .i64 b2] from hA 14 rfl, show PB.slot A 113 = .agg #[.int .i64 a1, .int .i64 a2] from hA 15 rfl]) (Kdo.out W))
                · exact Or.inl (PB.does_run (PB.wanted_by rfl rfl (hA 10 rfl)) (run_neg W (hA 16 rfl) hrg) rfl)
                · exact Or.inl (PB.does_bin (PB.wanted_by rfl rfl (hA 10 rfl)) rfl (hA 13 rfl) (hA 17 rfl) (run_eqN W od _ _) rfl)
                · exact Or.inl (PB.does_run (PB.wanted_free rfl) (run_pick_then W (hA 10 rfl) (hA 18 rfl)) rfl)
                · exact Or.inl (PB.does_move (PB.wanted_free rfl) rfl (hA 19 rfl))
                · exact Or.inl (PB.does_call #[] (PB.wanted_by rfl rfl (hA 20 rfl)) rfl Try.func17 rfl rfl rfl (live_newB W))
                · exact Or.inl (PB.does_run (PB.wanted_free rfl) (run_pick_then W (hA 20 rfl) (hA 21 rfl)) rfl)
                · exact Or.inl (PB.does_assign (PB.wanted_free rfl) rfl (hA 22 rfl))
              · intro A W hB hS hL
                have h23 : PB.slot A 6 = .bool true := hL 23 (by decide)
                obtain ⟨tmps, defers⟩ := A
                have hd : defers = [] := hS.defers
                subst hd
                go_wp2
                go_ret
                exact ⟨congrArg Ending.returned h23, hs0.below.trans ((hBx.trans (hB.mono hBx.size)).mono hs0.below.size)⟩
        | true =>
          rw [Bool.true_and] at Kcm
          refine PS.wp_region_plan (PS.phi [PS.E (.agg #[.int .i64 a1, .int .i64 a2]), PS.E (.agg #[.int .i64 c1, .int .i64 c2]), PS.E (.bool false), PS.E (.bool false), PS.E undef, PS.E undef, PS.E undef, PS.E undef, PS.E undef, PS.E undef, PS.E undef, PS.E (.bool false), PS.E (.bool false), PS.E (.agg #[.int .i64 c1, .int .i64 c2]), PS.E (.agg #[.int .i64 a1, .int .i64 a2]), PS.E (.bool true), PS.E (.bool true), PS.E (.agg #[.int .i64 c1, .int .i64 c2]), PS.E (.agg #[.int .i64 b1, .int .i64 b2]), PS.E (.bool cb), PS.E (.agg #[.int .i64 c1, .int .i64 c2]), PS.E (.agg #[.int .i64 m1, .int .i64 m2]), PS.E (.bool cb), PS.E (.bool false), PS.E (.bool false), PS.E (.bool false)]) mixed (by kernel_rfl)
            (PS.phi_lasts _ ⟨PS.E_lasts _, PS.E_lasts _, PS.E_lasts _, PS.E_lasts _, PS.E_lasts _, PS.E_lasts _, PS.E_lasts _, PS.E_lasts _, PS.E_lasts _, PS.E_lasts _, PS.E_lasts _, PS.E_lasts _, PS.E_lasts _, PS.E_lasts _, PS.E_lasts _, PS.E_lasts _, PS.E_lasts _, PS.E_lasts _, PS.E_lasts _, PS.E_lasts _, PS.E_lasts _, PS.E_lasts _, PS.E_lasts _, PS.E_lasts _, PS.E_lasts _, PS.E_lasts _, trivial⟩) ?_ ?_
          · refine ⟨?_, ?_, ?_, ?_, ?_, ?_, ?_, ?_, ?_, ?_, ?_, ?_, ?_, ?_, ?_, ?_, ?_, ?_, ?_, ?_, ?_, ?_, ?_, ?_, ?_, ?_, trivial⟩ <;> intro A W hB hS hA hF
            · exact Or.inl (PB.does_run (PB.wanted_free rfl) (run_load23 W (hS.slots 3 rfl) (Ka.out W hB).1 (Ka.out W hB).2) rfl)
            · exact Or.inl (PB.does_run (PB.wanted_free rfl) (run_load23 W (hS.slots 5 rfl) (Kc.out W hB).1 (Kc.out W hB).2) rfl)
            · exact Or.inl (PB.does_call #[.agg #[.int .i64 a1, .int .i64 a2], .agg #[.int .i64 c1, .int .i64 c2]] (PB.wanted_free rfl) rfl Try.func9 rfl rfl (by show [PB.slot A 72, PB.slot A 73] = _; rw [show PB.slot A 72 = .agg #[.int .i64 a1, .int .i64 a2] from hA 0 rfl, show PB.slot A 73 = .agg #[.int .i64 c1, .int .i64 c2] from hA 1 rfl]) (Kac.out W))
            · exact Or.inl (PB.does_move (PB.wanted_free rfl) rfl (hA 2 rfl))
            · exact Or.inr ⟨PS.pass_by rfl rfl (hA 3 rfl) (by decide), rfl⟩
            · exact Or.inr ⟨PS.pass_by rfl rfl (hA 3 rfl) (by decide), rfl⟩
            · exact Or.inr ⟨PS.pass_by rfl rfl (hA 3 rfl) (by decide), rfl⟩
            · exact Or.inr ⟨PS.pass_by rfl rfl (hA 3 rfl) (by decide), rfl⟩
            · exact Or.inr ⟨PS.pass_by rfl rfl (hA 3 rfl) (by decide), rfl⟩
            · exact Or.inr ⟨PS.pass_by rfl rfl (hA 3 rfl) (by decide), rfl⟩
            · exact Or.inr ⟨PS.pass_by rfl rfl (hA 3 rfl) (by decide), rfl⟩
            · exact Or.inl (PB.does_run (PB.wanted_free rfl) (run_pick_elseC W (hA 3 rfl)) rfl)
            · exact Or.inl (PB.does_move (PB.wanted_free rfl) rfl (hA 11 rfl))
            · exact Or.inl (PB.does_run (PB.wanted_by rfl rfl (hA 12 rfl)) (run_load23 W (hS.slots 5 rfl) (Kc.out W hB).1 (Kc.out W hB).2) rfl)
            · exact Or.inl (PB.does_run (PB.wanted_by rfl rfl (hA 12 rfl)) (run_load23 W (hS.slots 3 rfl) (Ka.out W hB).1 (Ka.out W hB).2) rfl)
            · exact Or.inl (PB.does_call #[.agg #[.int .i64 c1, .int .i64 c2], .agg #[.int .i64 a1, .int .i64 a2]] (PB.wanted_by rfl rfl (hA 12 rfl)) rfl Try.func9 rfl rfl (by show [PB.slot A 85, PB.slot A 86] = _; rw [show PB.slot A 85 = .agg #[.int .i64 c1, .int .i64 c2] from hA 13 rfl, show PB.slot A 86 = .agg #[.int .i64 a1, .int .i64 a2] from hA 14 rfl]) (Kca.out W))
            · exact Or.inl (PB.does_move (PB.wanted_by rfl rfl (hA 12 rfl)) rfl (hA 15 rfl))
            · exact Or.inl (PB.does_run (PB.wanted_by rfl rfl (hA 16 rfl)) (run_load23 W (hS.slots 5 rfl) (Kc.out W hB).1 (Kc.out W hB).2) rfl)
            · exact Or.inl (PB.does_run (PB.wanted_by rfl rfl (hA 16 rfl)) (run_load23 W (hS.slots 4 rfl) (Kb.out W hB).1 (Kb.out W hB).2) rfl)
            · exact Or.inl (PB.does_call #[.agg #[.int .i64 c1, .int .i64 c2], .agg #[.int .i64 b1, .int .i64 b2]] (PB.wanted_by rfl rfl (hA 16 rfl)) rfl Try.func9 rfl rfl (by show [PB.slot A 89, PB.slot A 90] = _; rw [show PB.slot A 89 = .agg #[.int .i64 c1, .int .i64 c2] from hA 17 rfl, show PB.slot A 90 = .agg #[.int .i64 b1, .int .i64 b2] from hA 18 rfl]) (Kcb.out W))
            · exact Or.inl (PB.does_run (PB.wanted_by rfl rfl (hA 16 rfl)) (run_load23 W (hS.slots 5 rfl) (Kc.out W hB).1 (Kc.out W hB).2) rfl)
            · exact Or.inl (PB.does_run (PB.wanted_by rfl rfl (hA 16 rfl)) (run_load23 W (hS.slots 8 rfl) (Km.out W hB).1 (Km.out W hB).2) rfl)
            · exact Or.inl (PB.does_call #[.agg #[.int .i64 c1, .int .i64 c2], .agg #[.int .i64 m1, .int .i64 m2]] (PB.wanted_by rfl rfl (hA 16 rfl)) rfl Try.func9 rfl rfl (by show [PB.slot A 92, PB.slot A 93] = _; rw [show PB.slot A 92 = .agg #[.int .i64 c1, .int .i64 c2] from hA 20 rfl, show PB.slot A 93 = .agg #[.int .i64 m1, .int .i64 m2] from hA 21 rfl]) (Kcm.out W))
            · exact Or.inl (PB.does_bin (PB.wanted_by rfl rfl (hA 16 rfl)) rfl (hA 19 rfl) (hA 22 rfl) (run_neB W cb _ _) rfl)
            · exact Or.inl (PB.does_run (PB.wanted_by rfl rfl (hA 12 rfl)) (run_pick_then W (hA 16 rfl) (hA 23 rfl)) rfl)
            · exact Or.inl (PB.does_run (PB.wanted_free rfl) (run_pick_else W (hA 12 rfl) (hA 24 rfl)) rfl)
          · intro A W hB hS hL
            have h97 : PB.slot A 97 = .bool false := hL 25 (by decide)
            have q3 : PB.slot A 3 = .pointer (some ⟨w.heap.size, 0, none⟩) := hS.slots 3 rfl
            have q4 : PB.slot A 4 = .pointer (some ⟨w.heap.size + 1, 0, none⟩) := hS.slots 4 rfl
            have q6 : PB.slot A 6 = .bool false := hS.slots 6 rfl
            have hA := frame_of (A := A) (n := 121) hS.size
            have hd : A.defers = [] := hS.defers
            rw [hd] at hA
            obtain ⟨f6, hf⟩ : ∃ f, PB.slot A = f := ⟨_, rfl⟩
            rw [hf] at hA h97 q3 q4 q6
            rw [hA]
            have hBx : Below W0.heap.size W0 W := hB4.trans (hB.mono hB4.size)
            clear hA hf hd hL hS
            simp only [List.range, List.range.loop, List.map_cons, List.map_nil, h97, q3, q4, q6]
            go_upto_region 8 with fail
            have Ka : Hid (∀ V, Below W.heap.size W V → V.cell? ⟨w.heap.size, 0, none⟩ = some (.int .i64 a1) ∧ V.cell? ⟨w.heap.size, 0 + 1, none⟩ = some (.int .i64 a2)) := fun V h => ⟨(KD.out V (hBx.trans (h.mono hBx.size))).1, (KD.out V (hBx.trans (h.mono hBx.size))).2.1⟩
            have Kb : Hid (∀ V, Below W.heap.size W V → V.cell? ⟨w.heap.size + 1, 0, none⟩ = some (.int .i64 b1) ∧ V.cell? ⟨w.heap.size + 1, 0 + 1, none⟩ = some (.int .i64 b2)) := fun V h => ⟨(KD.out V (hBx.trans (h.mono hBx.size))).2.2.1, (KD.out V (hBx.trans (h.mono hBx.size))).2.2.2.1⟩
            have Kc : Hid (∀ V, Below W.heap.size W V → V.cell? ⟨w.heap.size + 1 + 1, 0, none⟩ = some (.int .i64 c1) ∧ V.cell? ⟨w.heap.size + 1 + 1, 0 + 1, none⟩ = some (.int .i64 c2)) := fun V h => ⟨(KD.out V (hBx.trans (h.mono hBx.size))).2.2.2.2.1, (KD.out V (hBx.trans (h.mono hBx.size))).2.2.2.2.2⟩
            have hrg := HRG.out
            cases ab with
            | false =>
              refine PS.wp_region_plan (PS.phi [PS.E (.agg #[.int .i64 a1, .int .i64 a2]), PS.E (.agg #[.int .i64 b1, .int .i64 b2]), PS.E (.bool false), PS.E (.bool true), PS.E (.bool true), PS.E undef, PS.E undef, PS.E undef, PS.E undef, PS.E (.bool true), PS.E (.bool true), PS.E (.agg #[.int .i64 a1, .int .i64 a2]), PS.E (.agg #[.int .i64 b1, .int .i64 b2]), PS.E (.int .i64 od), PS.E (.agg #[.int .i64 b1, .int .i64 b2]), PS.E (.agg #[.int .i64 a1, .int .i64 a2]), PS.E (.int .i64 (-od)), PS.E (.int .i64 (- -od)), PS.E (.bool true), PS.E (.bool true), PS.E (.bool true), PS.E (.bool true), PS.E (.bool true), PS.E (.bool true)]) mixed (by kernel_rfl)
                (PS.phi_lasts _ ⟨PS.E_lasts _, PS.E_lasts _, PS.E_lasts _, PS.E_lasts _, PS.E_lasts _, PS.E_lasts _, PS.E_lasts _, PS.E_lasts _, PS.E_lasts _, PS.E_lasts _, PS.E_lasts _, PS.E_lasts _, PS.E_lasts _, PS.E_lasts _, PS.E_lasts _, PS.E_lasts _, PS.E_lasts _, PS.E_lasts _, PS.E_lasts _, PS.E_lasts _, PS.E_lasts _, PS.E_lasts _, PS.E_lasts _, PS.E_lasts _, trivial⟩) ?_ ?_
              · refine ⟨?_, ?_, ?_, ?_, ?_, ?_, ?_, ?_, ?_, ?_, ?_, ?_, ?_, ?_, ?_, ?_, ?_, ?_, ?_, ?_, ?_, ?_, ?_, ?_, trivial⟩ <;> intro A W hB hS hA hF
                · exact Or.inl (PB.does_run (PB.wanted_free rfl) (run_load23 W (hS.slots 3 rfl) (Ka.out W hB).1 (Ka.out W hB).2) rfl)
                · exact Or.inl (PB.does_run (PB.wanted_free rfl) (run_load23 W (hS.slots 4 rfl) (Kb.out W hB).1 (Kb.out W hB).2) rfl)
                · exact Or.inl (PB.does_call #[.agg #[.int .i64 a1, .int .i64 a2], .agg #[.int .i64 b1, .int .i64 b2]] (PB.wanted_free rfl) rfl Try.func9 rfl rfl (by show [PB.slot A 98, PB.slot A 99] = _; rw [show PB.slot A 98 = .agg #[.int .i64 a1, .int .i64 a2] from hA 0 rfl, show PB.slot A 99 = .agg #[.int .i64 b1, .int .i64 b2] from hA 1 rfl]) (Kab.out W))
                · exact Or.inl (PB.does_run (PB.wanted_free rfl) (run_not W (hA 2 rfl)) rfl)
                · exact Or.inl (PB.does_move (PB.wanted_free rfl) rfl (hA 3 rfl))
                · exact Or.inr ⟨PS.pass_by rfl rfl (hA 4 rfl) (by decide), rfl⟩
                · exact Or.inr ⟨PS.pass_by rfl rfl (hA 4 rfl) (by decide), rfl⟩
                · exact Or.inr ⟨PS.pass_by rfl rfl (hA 4 rfl) (by decide), rfl⟩
                · exact Or.inr ⟨PS.pass_by rfl rfl (hA 4 rfl) (by decide), rfl⟩
                · exact Or.inl (PB.does_run (PB.wanted_free rfl) (run_pick_const W (hA 4 rfl)) rfl)
                · exact Or.inl (PB.does_move (PB.wanted_free rfl) rfl (hA 9 rfl))
                · exact Or.inl (PB.does_run (PB.wanted_by rfl rfl (hA 10 rfl)) (run_load23 W (hS.slots 3 rfl) (Ka.out W hB).1 (Ka.out W hB).2) rfl)
                · exact Or.inl (PB.does_run (PB.wanted_by rfl rfl (hA 10 rfl)) (run_load23 W (hS.slots 4 rfl) (Kb.out W hB).1 (Kb.out W hB).2) rfl)
                · exact Or.inl (PB.does_call #[.agg #[.int .i64 a1, .int .i64 a2], .agg #[.int .i64 b1, .int .i64 b2]] (PB.wanted_by rfl rfl (hA 10 rfl)) rfl Try.func15 rfl rfl (by show [PB.slot A 109, PB.slot A 110] = _; rw [show PB.slot A 109 = .agg #[.int .i64 a1, .int .i64 a2] from hA 11 rfl, show PB.slot A 110 = .agg #[.int .i64 b1, .int .i64 b2] from hA 12 rfl]) (Kod.out W))
                · exact Or.inl (PB.does_run (PB.wanted_by rfl rfl (hA 10 rfl)) (run_load23 W (hS.slots 4 rfl) (Kb.out W hB).1 (Kb.out W hB).2) rfl)
                · exact Or.inl (PB.does_run (PB.wanted_by rfl rfl (hA 10 rfl)) (run_load23 W (hS.slots 3 rfl) (Ka.out W hB).1 (Ka.out W hB).2) rfl)
                · exact Or.inl (PB.does_call #[.agg #[.int .i64 b1, .int .i64 b2], .agg #[.int .i64 a1, .int .i64 a2]] (PB.wanted_by rfl rfl (hA 10 rfl)) rfl Try.func15 rfl rfl (by show [PB.slot A 112, PB.slot A 113] = _; rw [show PB.slot A 112 = .agg #[.int .i64 b1, .int .i64 b2] from hA 14 rfl, show PB.slot A 113 = .agg #[.int .i64 a1, .int .i64 a2] from hA 15 rfl]) (Kdo.out W))
                · exact Or.inl (PB.does_run (PB.wanted_by rfl rfl (hA 10 rfl)) (run_neg W (hA 16 rfl) hrg) rfl)
                · exact Or.inl (PB.does_bin (PB.wanted_by rfl rfl (hA 10 rfl)) rfl (hA 13 rfl) (hA 17 rfl) (run_eqN W od _ _) rfl)
                · exact Or.inl (PB.does_run (PB.wanted_free rfl) (run_pick_then W (hA 10 rfl) (hA 18 rfl)) rfl)
                · exact Or.inl (PB.does_move (PB.wanted_free rfl) rfl (hA 19 rfl))
                · exact Or.inl (PB.does_call #[] (PB.wanted_by rfl rfl (hA 20 rfl)) rfl Try.func17 rfl rfl rfl (live_newB W))
                · exact Or.inl (PB.does_run (PB.wanted_free rfl) (run_pick_then W (hA 20 rfl) (hA 21 rfl)) rfl)
                · exact Or.inl (PB.does_assign (PB.wanted_free rfl) rfl (hA 22 rfl))
              · intro A W hB hS hL
                have h23 : PB.slot A 6 = .bool true := hL 23 (by decide)
                obtain ⟨tmps, defers⟩ := A
                have hd : defers = [] := hS.defers
                subst hd
                go_wp2
                go_ret
                exact ⟨congrArg Ending.returned h23, hs0.below.trans ((hBx.trans (hB.mono hBx.size)).mono hs0.below.size)⟩
            | true =>
              have hod : od ≤ 0 := by rw [← QOD.out]; exact cf_le QAB.out
              refine PS.wp_region_plan (PS.phi [PS.E (.agg #[.int .i64 a1, .int .i64 a2]), PS.E (.agg #[.int .i64 b1, .int .i64 b2]), PS.E (.bool true), PS.E (.bool false), PS.E (.bool false), PS.E (.agg #[.int .i64 a1, .int .i64 a2]), PS.E (.agg #[.int .i64 b1, .int .i64 b2]), PS.E (.int .i64 od), PS.E (.bool true), PS.E (.bool true), PS.E (.bool true), PS.E (.agg #[.int .i64 a1, .int .i64 a2]), PS.E (.agg #[.int .i64 b1, .int .i64 b2]), PS.E (.int .i64 od), PS.E (.agg #[.int .i64 b1, .int .i64 b2]), PS.E (.agg #[.int .i64 a1, .int .i64 a2]), PS.E (.int .i64 (-od)), PS.E (.int .i64 (- -od)), PS.E (.bool true), PS.E (.bool true), PS.E (.bool true), PS.E (.bool true), PS.E (.bool true), PS.E (.bool true)]) mixed (by kernel_rfl)
                (PS.phi_lasts _ ⟨PS.E_lasts _, PS.E_lasts _, PS.E_lasts _, PS.E_lasts _, PS.E_lasts _, PS.E_lasts _, PS.E_lasts _, PS.E_lasts _, PS.E_lasts _, PS.E_lasts _, PS.E_lasts _, PS.E_lasts _, PS.E_lasts _, PS.E_lasts _, PS.E_lasts _, PS.E_lasts _, PS.E_lasts _, PS.E_lasts _, PS.E_lasts _, PS.E_lasts _, PS.E_lasts _, PS.E_lasts _, PS.E_lasts _, PS.E_lasts _, trivial⟩) ?_ ?_
              · refine ⟨?_, ?_, ?_, ?_, ?_, ?_, ?_, ?_, ?_, ?_, ?_, ?_, ?_, ?_, ?_, ?_, ?_, ?_, ?_, ?_, ?_, ?_, ?_, ?_, trivial⟩ <;> intro A W hB hS hA hF
                · exact Or.inl (PB.does_run (PB.wanted_free rfl) (run_load23 W (hS.slots 3 rfl) (Ka.out W hB).1 (Ka.out W hB).2) rfl)
                · exact Or.inl (PB.does_run (PB.wanted_free rfl) (run_load23 W (hS.slots 4 rfl) (Kb.out W hB).1 (Kb.out W hB).2) rfl)
                · exact Or.inl (PB.does_call #[.agg #[.int .i64 a1, .int .i64 a2], .agg #[.int .i64 b1, .int .i64 b2]] (PB.wanted_free rfl) rfl Try.func9 rfl rfl (by show [PB.slot A 98, PB.slot A 99] = _; rw [show PB.slot A 98 = .agg #[.int .i64 a1, .int .i64 a2] from hA 0 rfl, show PB.slot A 99 = .agg #[.int .i64 b1, .int .i64 b2] from hA 1 rfl]) (Kab.out W))
                · exact Or.inl (PB.does_run (PB.wanted_free rfl) (run_not W (hA 2 rfl)) rfl)
                · exact Or.inl (PB.does_move (PB.wanted_free rfl) rfl (hA 3 rfl))
                · exact Or.inl (PB.does_run (PB.wanted_by rfl rfl (hA 4 rfl)) (run_load23 W (hS.slots 3 rfl) (Ka.out W hB).1 (Ka.out W hB).2) rfl)
                · exact Or.inl (PB.does_run (PB.wanted_by rfl rfl (hA 4 rfl)) (run_load23 W (hS.slots 4 rfl) (Kb.out W hB).1 (Kb.out W hB).2) rfl)
                · exact Or.inl (PB.does_call #[.agg #[.int .i64 a1, .int .i64 a2], .agg #[.int .i64 b1, .int .i64 b2]] (PB.wanted_by rfl rfl (hA 4 rfl)) rfl Try.func15 rfl rfl (by show [PB.slot A 103, PB.slot A 104] = _; rw [show PB.slot A 103 = .agg #[.int .i64 a1, .int .i64 a2] from hA 5 rfl, show PB.slot A 104 = .agg #[.int .i64 b1, .int .i64 b2] from hA 6 rfl]) (Kod.out W))
                · exact Or.inl (PB.does_bin2 (PB.wanted_by rfl rfl (hA 4 rfl)) rfl (hA 7 rfl) rfl (run_leq0 W od _ _ hod) rfl)
                · exact Or.inl (PB.does_run (PB.wanted_free rfl) (run_pick_else W (hA 4 rfl) (hA 8 rfl)) rfl)
                · exact Or.inl (PB.does_move (PB.wanted_free rfl) rfl (hA 9 rfl))
                · exact Or.inl (PB.does_run (PB.wanted_by rfl rfl (hA 10 rfl)) (run_load23 W (hS.slots 3 rfl) (Ka.out W hB).1 (Ka.out W hB).2) rfl)
                · exact Or.inl (PB.does_run (PB.wanted_by rfl rfl (hA 10 rfl)) (run_load23 W (hS.slots 4 rfl) (Kb.out W hB).1 (Kb.out W hB).2) rfl)
                · exact Or.inl (PB.does_call #[.agg #[.int .i64 a1, .int .i64 a2], .agg #[.int .i64 b1, .int .i64 b2]] (PB.wanted_by rfl rfl (hA 10 rfl)) rfl Try.func15 rfl rfl (by show [PB.slot A 109, PB.slot A 110] = _; rw [show PB.slot A 109 = .agg #[.int .i64 a1, .int .i64 a2] from hA 11 rfl, show PB.slot A 110 = .agg #[.int .i64 b1, .int .i64 b2] from hA 12 rfl]) (Kod.out W))
                · exact Or.inl (PB.does_run (PB.wanted_by rfl rfl (hA 10 rfl)) (run_load23 W (hS.slots 4 rfl) (Kb.out W hB).1 (Kb.out W hB).2) rfl)
                · exact Or.inl (PB.does_run (PB.wanted_by rfl rfl (hA 10 rfl)) (run_load23 W (hS.slots 3 rfl) (Ka.out W hB).1 (Ka.out W hB).2) rfl)
                · exact Or.inl (PB.does_call #[.agg #[.int .i64 b1, .int .i64 b2], .agg #[.int .i64 a1, .int .i64 a2]] (PB.wanted_by rfl rfl (hA 10 rfl)) rfl Try.func15 rfl rfl (by show [PB.slot A 112, PB.slot A 113] = _; rw [show PB.slot A 112 = .agg #[.int .i64 b1, .int .i64 b2] from hA 14 rfl, show PB.slot A 113 = .agg #[.int .i64 a1, .int .i64 a2] from hA 15 rfl]) (Kdo.out W))
                · exact Or.inl (PB.does_run (PB.wanted_by rfl rfl (hA 10 rfl)) (run_neg W (hA 16 rfl) hrg) rfl)
                · exact Or.inl (PB.does_bin (PB.wanted_by rfl rfl (hA 10 rfl)) rfl (hA 13 rfl) (hA 17 rfl) (run_eqN W od _ _) rfl)
                · exact Or.inl (PB.does_run (PB.wanted_free rfl) (run_pick_then W (hA 10 rfl) (hA 18 rfl)) rfl)
                · exact Or.inl (PB.does_move (PB.wanted_free rfl) rfl (hA 19 rfl))
                · exact Or.inl (PB.does_call #[] (PB.wanted_by rfl rfl (hA 20 rfl)) rfl Try.func17 rfl rfl rfl (live_newB W))
                · exact Or.inl (PB.does_run (PB.wanted_free rfl) (run_pick_then W (hA 20 rfl) (hA 21 rfl)) rfl)
                · exact Or.inl (PB.does_assign (PB.wanted_free rfl) rfl (hA 22 rfl))
              · intro A W hB hS hL
                have h23 : PB.slot A 6 = .bool true := hL 23 (by decide)
                obtain ⟨tmps, defers⟩ := A
                have hd : defers = [] := hS.defers
                subst hd
                go_wp2
                go_ret
                exact ⟨congrArg Ending.returned h23, hs0.below.trans ((hBx.trans (hB.mono hBx.size)).mono hs0.below.size)⟩
      | true =>
        rw [Bool.true_and] at Kjc
        cases ca with
        | false =>
          refine PS.wp_region_plan (PS.phi [PS.E (.agg #[.int .i64 a1, .int .i64 a2]), PS.E (.agg #[.int .i64 c1, .int .i64 c2]), PS.E (.bool true), PS.E (.bool true), PS.E (.agg #[.int .i64 b1, .int .i64 b2]), PS.E (.agg #[.int .i64 c1, .int .i64 c2]), PS.E (.bool bc), PS.E (.agg #[.int .i64 j1, .int .i64 j2]), PS.E (.agg #[.int .i64 c1, .int .i64 c2]), PS.E (.bool bc), PS.E (.bool false), PS.E (.bool false), PS.E (.bool false), PS.E (.agg #[.int .i64 c1, .int .i64 c2]), PS.E (.agg #[.int .i64 a1, .int .i64 a2]), PS.E (.bool false), PS.E (.bool false), PS.E undef, PS.E undef, PS.E undef, PS.E undef, PS.E undef, PS.E undef, PS.E undef, PS.E (.bool false), PS.E (.bool false)]) mixed (by kernel_rfl)
            (PS.phi_lasts _ ⟨PS.E_lasts _, PS.E_lasts _, PS.E_lasts _, PS.E_lasts _, PS.E_lasts _, PS.E_lasts _, PS.E_lasts _, PS.E_lasts _, PS.E_lasts _, PS.E_lasts _, PS.E_lasts _, PS.E_lasts _, PS.E_lasts _, PS.E_lasts _, PS.E_lasts _, PS.E_lasts _, PS.E_lasts _, PS.E_lasts _, PS.E_lasts _, PS.E_lasts _, PS.E_lasts _, PS.E_lasts _, PS.E_lasts _, PS.E_lasts _, PS.E_lasts _, PS.E_lasts _, trivial⟩) ?_ ?_
          · refine ⟨?_, ?_, ?_, ?_, ?_, ?_, ?_, ?_, ?_, ?_, ?_, ?_, ?_, ?_, ?_, ?_, ?_, ?_, ?_, ?_, ?_, ?_, ?_, ?_, ?_, ?_, trivial⟩ <;> intro A W hB hS hA hF
            · exact Or.inl (PB.does_run (PB.wanted_free rfl) (run_load23 W (hS.slots 3 rfl) (Ka.out W hB).1 (Ka.out W hB).2) rfl)
            · exact Or.inl (PB.does_run (PB.wanted_free rfl) (run_load23 W (hS.slots 5 rfl) (Kc.out W hB).1 (Kc.out W hB).2) rfl)
            · exact Or.inl (PB.does_call #[.agg #[.int .i64 a1, .int .i64 a2], .agg #[.int .i64 c1, .int .i64 c2]] (PB.wanted_free rfl) rfl Try.func9 rfl rfl (by show [PB.slot A 72, PB.slot A 73] = _; rw [show PB.slot A 72 = .agg #[.int .i64 a1, .int .i64 a2] from hA 0 rfl, show PB.slot A 73 = .agg #[.int .i64 c1, .int .i64 c2] from hA 1 rfl]) (Kac.out W))
            · exact Or.inl (PB.does_move (PB.wanted_free rfl) rfl (hA 2 rfl))
            · exact Or.inl (PB.does_run (PB.wanted_by rfl rfl (hA 3 rfl)) (run_load23 W (hS.slots 4 rfl) (Kb.out W hB).1 (Kb.out W hB).2) rfl)
            · exact Or.inl (PB.does_run (PB.wanted_by rfl rfl (hA 3 rfl)) (run_load23 W (hS.slots 5 rfl) (Kc.out W hB).1 (Kc.out W hB).2) rfl)
            · exact Or.inl (PB.does_call #[.agg #[.int .i64 b1, .int .i64 b2], .agg #[.int .i64 c1, .int .i64 c2]] (PB.wanted_by rfl rfl (hA 3 rfl)) rfl Try.func9 rfl rfl (by show [PB.slot A 76, PB.slot A 77] = _; rw [show PB.slot A 76 = .agg #[.int .i64 b1, .int .i64 b2] from hA 4 rfl, show PB.slot A 77 = .agg #[.int .i64 c1, .int .i64 c2] from hA 5 rfl]) (Kbc.out W))
            · exact Or.inl (PB.does_run (PB.wanted_by rfl rfl (hA 3 rfl)) (run_load23 W (hS.slots 7 rfl) (Kj.out W hB).1 (Kj.out W hB).2) rfl)
            · exact Or.inl (PB.does_run (PB.wanted_by rfl rfl (hA 3 rfl)) (run_load23 W (hS.slots 5 rfl) (Kc.out W hB).1 (Kc.out W hB).2) rfl)
            · exact Or.inl (PB.does_call #[.agg #[.int .i64 j1, .int .i64 j2], .agg #[.int .i64 c1, .int .i64 c2]] (PB.wanted_by rfl rfl (hA 3 rfl)) rfl Try.func9 rfl rfl (by show [PB.slot A 79, PB.slot A 80] = _; rw [show PB.slot A 79 = .agg #[.int .i64 j1, .int .i64 j2] from hA 7 rfl, show PB.slot A 80 = .agg #[.int .i64 c1, .int .i64 c2] from hA 8 rfl]) (Kjc.out W))
            · exact Or.inl (PB.does_bin (PB.wanted_by rfl rfl (hA 3 rfl)) rfl (hA 6 rfl) (hA 9 rfl) (run_neB W bc _ _) rfl)
            · exact Or.inl (PB.does_run (PB.wanted_free rfl) (run_pick_then W (hA 3 rfl) (hA 10 rfl)) rfl)
            · exact Or.inl (PB.does_move (PB.wanted_free rfl) rfl (hA 11 rfl))
            · exact Or.inl (PB.does_run (PB.wanted_by rfl rfl (hA 12 rfl)) (run_load23 W (hS.slots 5 rfl) (Kc.out W hB).1 (Kc.out W hB).2) rfl)
            · exact Or.inl (PB.does_run (PB.wanted_by rfl rfl (hA 12 rfl)) (run_load23 W (hS.slots 3 rfl) (Ka.out W hB).1 (Ka.out W hB).2) rfl)
            · exact Or.inl (PB.does_call #[.agg #[.int .i64 c1, .int .i64 c2], .agg #[.int .i64 a1, .int .i64 a2]] (PB.wanted_by rfl rfl (hA 12 rfl)) rfl Try.func9 rfl rfl (by show [PB.slot A 85, PB.slot A 86] = _; rw [show PB.slot A 85 = .agg #[.int .i64 c1, .int .i64 c2] from hA 13 rfl, show PB.slot A 86 = .agg #[.int .i64 a1, .int .i64 a2] from hA 14 rfl]) (Kca.out W))
            · exact Or.inl (PB.does_move (PB.wanted_by rfl rfl (hA 12 rfl)) rfl (hA 15 rfl))
            · exact Or.inr ⟨PS.pass_by rfl rfl (hA 16 rfl) (by decide), rfl⟩
            · exact Or.inr ⟨PS.pass_by rfl rfl (hA 16 rfl) (by decide), rfl⟩
            · exact Or.inr ⟨PS.pass_by rfl rfl (hA 16 rfl) (by decide), rfl⟩
            · exact Or.inr ⟨PS.pass_by rfl rfl (hA 16 rfl) (by decide), rfl⟩
            · exact Or.inr ⟨PS.pass_by rfl rfl (hA 16 rfl) (by decide), rfl⟩
            · exact Or.inr ⟨PS.pass_by rfl rfl (hA 16 rfl) (by decide), rfl⟩
            · exact Or.inr ⟨PS.pass_by rfl rfl (hA 16 rfl) (by decide), rfl⟩
            · exact Or.inl (PB.does_run (PB.wanted_by rfl rfl (hA 12 rfl)) (run_pick_elseC W (hA 16 rfl)) rfl)
            · exact Or.inl (PB.does_run (PB.wanted_free rfl) (run_pick_else W (hA 12 rfl) (hA 24 rfl)) rfl)
          · intro A W hB hS hL
            have h97 : PB.slot A 97 = .bool false := hL 25 (by decide)
            have q3 : PB.slot A 3 = .pointer (some ⟨w.heap.size, 0, none⟩) := hS.slots 3 rfl
            have q4 : PB.slot A 4 = .pointer (some ⟨w.heap.size + 1, 0, none⟩) := hS.slots 4 rfl
            have q6 : PB.slot A 6 = .bool false := hS.slots 6 rfl
            have hA := frame_of (A := A) (n := 121) hS.size
            have hd : A.defers = [] := hS.defers
            rw [hd] at hA
            obtain ⟨f6, hf⟩ : ∃ f, PB.slot A = f := ⟨_, rfl⟩
            rw [hf] at hA h97 q3 q4 q6
            rw [hA]
            have hBx : Below W0.heap.size W0 W := hB4.trans (hB.mono hB4.size)
            clear hA hf hd hL hS
            simp only [List.range, List.range.loop, List.map_cons, List.map_nil, h97, q3, q4, q6]
            go_upto_region 8 with fail
            have Ka : Hid (∀ V, Below W.heap.size W V → V.cell? ⟨w.heap.size, 0, none⟩ = some (.int .i64 a1) ∧ V.cell? ⟨w.heap.size, 0 + 1, none⟩ = some (.int .i64 a2)) := fun V h => ⟨(KD.out V (hBx.trans (h.mono hBx.size))).1, (KD.out V (hBx.trans (h.mono hBx.size))).2.1⟩
            have Kb : Hid (∀ V, Below W.heap.size W V → V.cell? ⟨w.heap.size + 1, 0, none⟩ = some (.int .i64 b1) ∧ V.cell? ⟨w.heap.size + 1, 0 + 1, none⟩ = some (.int .i64 b2)) := fun V h => ⟨(KD.out V (hBx.trans (h.mono hBx.size))).2.2.1, (KD.out V (hBx.trans (h.mono hBx.size))).2.2.2.1⟩
            have Kc : Hid (∀ V, Below W.heap.size W V → V.cell? ⟨w.heap.size + 1 + 1, 0, none⟩ = some (.int .i64 c1) ∧ V.cell? ⟨w.heap.size + 1 + 1, 0 + 1, none⟩ = some (.int .i64 c2)) := fun V h => ⟨(KD.out V (hBx.trans (h.mono hBx.size))).2.2.2.2.1, (KD.out V (hBx.trans (h.mono hBx.size))).2.2.2.2.2⟩
            have hrg := HRG.out
            cases ab with
            | false =>
              refine PS.wp_region_plan (PS.phi [PS.E (.agg #[.int .i64 a1, .int .i64 a2]), PS.E (.agg #[.int .i64 b1, .int .i64 b2]), PS.E (.bool false), PS.E (.bool true), PS.E (.bool true), PS.E undef, PS.E undef, PS.E undef, PS.E undef, PS.E (.bool true), PS.E (.bool true), PS.E (.agg #[.int .i64 a1, .int .i64 a2]), PS.E (.agg #[.int .i64 b1, .int .i64 b2]), PS.E (.int .i64 od), PS.E (.agg #[.int .i64 b1, .int .i64 b2]), PS.E (.agg #[.int .i64 a1, .int .i64 a2]), PS.E (.int .i64 (-od)), PS.E (.int .i64 (- -od)), PS.E (.bool true), PS.E (.bool true), PS.E (.bool true), PS.E (.bool true), PS.E (.bool true), PS.E (.bool true)]) mixed (by kernel_rfl)
                (PS.phi_lasts _ ⟨PS.E_lasts _, PS.E_lasts _, PS.E_lasts _, PS.E_lasts _, PS.E_lasts _, PS.E_lasts _, PS.E_lasts _, PS.E_lasts _, PS.E_lasts _, PS.E_lasts _, PS.E_lasts _, PS.E_lasts _, PS.E_lasts _, PS.E_lasts _, PS.E_lasts _, PS.E_lasts _, PS.E_lasts _, PS.E_lasts _, PS.E_lasts _, PS.E_lasts _, PS.E_lasts _, PS.E_lasts _, PS.E_lasts _, PS.E_lasts _, trivial⟩) ?_ ?_
              · refine ⟨?_, ?_, ?_, ?_, ?_, ?_, ?_, ?_, ?_, ?_, ?_, ?_, ?_, ?_, ?_, ?_, ?_, ?_, ?_, ?_, ?_, ?_, ?_, ?_, trivial⟩ <;> intro A W hB hS hA hF
                · exact Or.inl (PB.does_run (PB.wanted_free rfl) (run_load23 W (hS.slots 3 rfl) (Ka.out W hB).1 (Ka.out W hB).2) rfl)
                · exact Or.inl (PB.does_run (PB.wanted_free rfl) (run_load23 W (hS.slots 4 rfl) (Kb.out W hB).1 (Kb.out W hB).2) rfl)
                · exact Or.inl (PB.does_call #[.agg #[.int .i64 a1, .int .i64 a2], .agg #[.int .i64 b1, .int .i64 b2]] (PB.wanted_free rfl) rfl Try.func9 rfl rfl (by show [PB.slot A 98, PB.slot A 99] = _; rw [show PB.slot A 98 = .agg #[.int .i64 a1, .int .i64 a2] from hA 0 rfl, show PB.slot A 99 = .agg #[.int .i64 b1, .int .i64 b2] from hA 1 rfl]) (Kab.out W))
                · exact Or.inl (PB.does_run (PB.wanted_free rfl) (run_not W (hA 2 rfl)) rfl)
                · exact Or.inl (PB.does_move (PB.wanted_free rfl) rfl (hA 3 rfl))
                · exact Or.inr ⟨PS.pass_by rfl rfl (hA 4 rfl) (by decide), rfl⟩
                · exact Or.inr ⟨PS.pass_by rfl rfl (hA 4 rfl) (by decide), rfl⟩
                · exact Or.inr ⟨PS.pass_by rfl rfl (hA 4 rfl) (by decide), rfl⟩
                · exact Or.inr ⟨PS.pass_by rfl rfl (hA 4 rfl) (by decide), rfl⟩
                · exact Or.inl (PB.does_run (PB.wanted_free rfl) (run_pick_const W (hA 4 rfl)) rfl)
                · exact Or.inl (PB.does_move (PB.wanted_free rfl) rfl (hA 9 rfl))
                · exact Or.inl (PB.does_run (PB.wanted_by rfl rfl (hA 10 rfl)) (run_load23 W (hS.slots 3 rfl) (Ka.out W hB).1 (Ka.out W hB).2) rfl)
                · exact Or.inl (PB.does_run (PB.wanted_by rfl rfl (hA 10 rfl)) (run_load23 W (hS.slots 4 rfl) (Kb.out W hB).1 (Kb.out W hB).2) rfl)
                · exact Or.inl (PB.does_call #[.agg #[.int .i64 a1, .int .i64 a2], .agg #[.int .i64 b1, .int .i64 b2]] (PB.wanted_by rfl rfl (hA 10 rfl)) rfl Try.func15 rfl rfl (by show [PB.slot A 109, PB.slot A 110] = _; rw [show PB.slot A 109 = .agg #[.int .i64 a1, .int .i64 a2] from hA 11 rfl, show PB.slot A 110 = .agg #[.int .i64 b1, .int .i64 b2] from hA 12 rfl]) (Kod.out W))
                · exact Or.inl (PB.does_run (PB.wanted_by rfl rfl (hA 10 rfl)) (run_load23 W (hS.slots 4 rfl) (Kb.out W hB).1 (Kb.out W hB).2) rfl)
                · exact Or.inl (PB.does_run (PB.wanted_by rfl rfl (hA 10 rfl)) (run_load23 W (hS.slots 3 rfl) (Ka.out W hB).1 (Ka.out W hB).2) rfl)
                · exact Or.inl (PB.does_call #[.agg #[.int .i64 b1, .int .i64 b2], .agg #[.int .i64 a1, .int .i64 a2]] (PB.wanted_by rfl rfl (hA 10 rfl)) rfl Try.func15 rfl rfl (by show [PB.slot A 112, PB.slot A 113] = _; rw [show PB.slot A 112 = .agg #[.int .i64 b1, .int .i64 b2] from hA 14 rfl, show PB.slot A 113 = .agg #[.int .i64 a1, .int .i64 a2] from hA 15 rfl]) (Kdo.out W))
                · exact Or.inl (PB.does_run (PB.wanted_by rfl rfl (hA 10 rfl)) (run_neg W (hA 16 rfl) hrg) rfl)
                · exact Or.inl (PB.does_bin (PB.wanted_by rfl rfl (hA 10 rfl)) rfl (hA 13 rfl) (hA 17 rfl) (run_eqN W od _ _) rfl)
                · exact Or.inl (PB.does_run (PB.wanted_free rfl) (run_pick_then W (hA 10 rfl) (hA 18 rfl)) rfl)
                · exact Or.inl (PB.does_move (PB.wanted_free rfl) rfl (hA 19 rfl))
                · exact Or.inl (PB.does_call #[] (PB.wanted_by rfl rfl (hA 20 rfl)) rfl Try.func17 rfl rfl rfl (live_newB W))
                · exact Or.inl (PB.does_run (PB.wanted_free rfl) (run_pick_then W (hA 20 rfl) (hA 21 rfl)) rfl)
                · exact Or.inl (PB.does_assign (PB.wanted_free rfl) rfl (hA 22 rfl))
              · intro A W hB hS hL
                have h23 : PB.slot A 6 = .bool true := hL 23 (by decide)
                obtain ⟨tmps, defers⟩ := A
                have hd : defers = [] := hS.defers
                subst hd
                go_wp2
                go_ret
                exact ⟨congrArg Ending.returned h23, hs0.below.trans ((hBx.trans (hB.mono hBx.size)).mono hs0.below.size)⟩
            | true =>
              have hod : od ≤ 0 := by rw [← QOD.out]; exact cf_le QAB.out
              refine PS.wp_region_plan (PS.phi [PS.E (.agg #[.int .i64 a1, .int .i64 a2]), PS.E (.agg #[.int .i64 b1, .int .i64 b2]), PS.E (.bool true), PS.E (.bool false), PS.E (.bool false), PS.E (.agg #[.int .i64 a1, .int .i64 a2]), PS.E (.agg #[.int .i64 b1, .int .i64 b2]), PS.E (.int .i64 od), PS.E (.bool true), PS.E (.bool true), PS.E (.bool true), PS.E (.agg #[.int .i64 a1, .int .i64 a2]), PS.E (.agg #[.int .i64 b1, .int .i64 b2]), PS.E (.int .i64 od), PS.E (.agg #[.int .i64 b1, .int .i64 b2]), PS.E (.agg #[.int .i64 a1, .int .i64 a2]), PS.E (.int .i64 (-od)), PS.E (.int .i64 (- -od)), PS.E (.bool true), PS.E (.bool true), PS.E (.bool true), PS.E (.bool true), PS.E (.bool true), PS.E (.bool true)]) mixed (by kernel_rfl)
                (PS.phi_lasts _ ⟨PS.E_lasts _, PS.E_lasts _, PS.E_lasts _, PS.E_lasts _, PS.E_lasts _, PS.E_lasts _, PS.E_lasts _, PS.E_lasts _, PS.E_lasts _, PS.E_lasts _, PS.E_lasts _, PS.E_lasts _, PS.E_lasts _, PS.E_lasts _, PS.E_lasts _, PS.E_lasts _, PS.E_lasts _, PS.E_lasts _, PS.E_lasts _, PS.E_lasts _, PS.E_lasts _, PS.E_lasts _, PS.E_lasts _, PS.E_lasts _, trivial⟩) ?_ ?_
              · refine ⟨?_, ?_, ?_, ?_, ?_, ?_, ?_, ?_, ?_, ?_, ?_, ?_, ?_, ?_, ?_, ?_, ?_, ?_, ?_, ?_, ?_, ?_, ?_, ?_, trivial⟩ <;> intro A W hB hS hA hF
                · exact Or.inl (PB.does_run (PB.wanted_free rfl) (run_load23 W (hS.slots 3 rfl) (Ka.out W hB).1 (Ka.out W hB).2) rfl)
                · exact Or.inl (PB.does_run (PB.wanted_free rfl) (run_load23 W (hS.slots 4 rfl) (Kb.out W hB).1 (Kb.out W hB).2) rfl)
                · exact Or.inl (PB.does_call #[.agg #[.int .i64 a1, .int .i64 a2], .agg #[.int .i64 b1, .int .i64 b2]] (PB.wanted_free rfl) rfl Try.func9 rfl rfl (by show [PB.slot A 98, PB.slot A 99] = _; rw [show PB.slot A 98 = .agg #[.int .i64 a1, .int .i64 a2] from hA 0 rfl, show PB.slot A 99 = .agg #[.int .i64 b1, .int .i64 b2] from hA 1 rfl]) (Kab.out W))
                · exact Or.inl (PB.does_run (PB.wanted_free rfl) (run_not W (hA 2 rfl)) rfl)
                · exact Or.inl (PB.does_move (PB.wanted_free rfl) rfl (hA 3 rfl))
                · exact Or.inl (PB.does_run (PB.wanted_by rfl rfl (hA 4 rfl)) (run_load23 W (hS.slots 3 rfl) (Ka.out W hB).1 (Ka.out W hB).2) rfl)
                · exact Or.inl (PB.does_run (PB.wanted_by rfl rfl (hA 4 rfl)) (run_load23 W (hS.slots 4 rfl) (Kb.out W hB).1 (Kb.out W hB).2) rfl)
                · exact Or.inl (PB.does_call #[.agg #[.int .i64 a1, .int .i64 a2], .agg #[.int .i64 b1, .int .i64 b2]] (PB.wanted_by rfl rfl (hA 4 rfl)) rfl Try.func15 rfl rfl (by show [PB.slot A 103, PB.slot A 104] = _; rw [show PB.slot A 103 = .agg #[.int .i64 a1, .int .i64 a2] from hA 5 rfl, show PB.slot A 104 = .agg #[.int .i64 b1, .int .i64 b2] from hA 6 rfl]) (Kod.out W))
                · exact Or.inl (PB.does_bin2 (PB.wanted_by rfl rfl (hA 4 rfl)) rfl (hA 7 rfl) rfl (run_leq0 W od _ _ hod) rfl)
                · exact Or.inl (PB.does_run (PB.wanted_free rfl) (run_pick_else W (hA 4 rfl) (hA 8 rfl)) rfl)
                · exact Or.inl (PB.does_move (PB.wanted_free rfl) rfl (hA 9 rfl))
                · exact Or.inl (PB.does_run (PB.wanted_by rfl rfl (hA 10 rfl)) (run_load23 W (hS.slots 3 rfl) (Ka.out W hB).1 (Ka.out W hB).2) rfl)
                · exact Or.inl (PB.does_run (PB.wanted_by rfl rfl (hA 10 rfl)) (run_load23 W (hS.slots 4 rfl) (Kb.out W hB).1 (Kb.out W hB).2) rfl)
                · exact Or.inl (PB.does_call #[.agg #[.int .i64 a1, .int .i64 a2], .agg #[.int .i64 b1, .int .i64 b2]] (PB.wanted_by rfl rfl (hA 10 rfl)) rfl Try.func15 rfl rfl (by show [PB.slot A 109, PB.slot A 110] = _; rw [show PB.slot A 109 = .agg #[.int .i64 a1, .int .i64 a2] from hA 11 rfl, show PB.slot A 110 = .agg #[.int .i64 b1, .int .i64 b2] from hA 12 rfl]) (Kod.out W))
                · exact Or.inl (PB.does_run (PB.wanted_by rfl rfl (hA 10 rfl)) (run_load23 W (hS.slots 4 rfl) (Kb.out W hB).1 (Kb.out W hB).2) rfl)
                · exact Or.inl (PB.does_run (PB.wanted_by rfl rfl (hA 10 rfl)) (run_load23 W (hS.slots 3 rfl) (Ka.out W hB).1 (Ka.out W hB).2) rfl)
                · exact Or.inl (PB.does_call #[.agg #[.int .i64 b1, .int .i64 b2], .agg #[.int .i64 a1, .int .i64 a2]] (PB.wanted_by rfl rfl (hA 10 rfl)) rfl Try.func15 rfl rfl (by show [PB.slot A 112, PB.slot A 113] = _; rw [show PB.slot A 112 = .agg #[.int .i64 b1, .int .i64 b2] from hA 14 rfl, show PB.slot A 113 = .agg #[.int .i64 a1, .int .i64 a2] from hA 15 rfl]) (Kdo.out W))
                · exact Or.inl (PB.does_run (PB.wanted_by rfl rfl (hA 10 rfl)) (run_neg W (hA 16 rfl) hrg) rfl)
                · exact Or.inl (PB.does_bin (PB.wanted_by rfl rfl (hA 10 rfl)) rfl (hA 13 rfl) (hA 17 rfl) (run_eqN W od _ _) rfl)
                · exact Or.inl (PB.does_run (PB.wanted_free rfl) (run_pick_then W (hA 10 rfl) (hA 18 rfl)) rfl)
                · exact Or.inl (PB.does_move (PB.wanted_free rfl) rfl (hA 19 rfl))
                · exact Or.inl (PB.does_call #[] (PB.wanted_by rfl rfl (hA 20 rfl)) rfl Try.func17 rfl rfl rfl (live_newB W))
                · exact Or.inl (PB.does_run (PB.wanted_free rfl) (run_pick_then W (hA 20 rfl) (hA 21 rfl)) rfl)
                · exact Or.inl (PB.does_assign (PB.wanted_free rfl) rfl (hA 22 rfl))
              · intro A W hB hS hL
                have h23 : PB.slot A 6 = .bool true := hL 23 (by decide)
                obtain ⟨tmps, defers⟩ := A
                have hd : defers = [] := hS.defers
                subst hd
                go_wp2
                go_ret
                exact ⟨congrArg Ending.returned h23, hs0.below.trans ((hBx.trans (hB.mono hBx.size)).mono hs0.below.size)⟩
        | true =>
          rw [Bool.true_and] at Kcm
          refine PS.wp_region_plan (PS.phi [PS.E (.agg #[.int .i64 a1, .int .i64 a2]), PS.E (.agg #[.int .i64 c1, .int .i64 c2]), PS.E (.bool true), PS.E (.bool true), PS.E (.agg #[.int .i64 b1, .int .i64 b2]), PS.E (.agg #[.int .i64 c1, .int .i64 c2]), PS.E (.bool bc), PS.E (.agg #[.int .i64 j1, .int .i64 j2]), PS.E (.agg #[.int .i64 c1, .int .i64 c2]), PS.E (.bool bc), PS.E (.bool false), PS.E (.bool false), PS.E (.bool false), PS.E (.agg #[.int .i64 c1, .int .i64 c2]), PS.E (.agg #[.int .i64 a1, .int .i64 a2]), PS.E (.bool true), PS.E (.bool true), PS.E (.agg #[.int .i64 c1, .int .i64 c2]), PS.E (.agg #[.int .i64 b1, .int .i64 b2]), PS.E (.bool cb), PS.E (.agg #[.int .i64 c1, .int .i64 c2]), PS.E (.agg #[.int .i64 m1, .int .i64 m2]), PS.E (.bool cb), PS.E (.bool false), PS.E (.bool false), PS.E (.bool false)]) mixed (by kernel_rfl)
            (PS.phi_lasts _ ⟨PS.E_lasts _, PS.E_lasts _, PS.E_lasts _, PS.E_lasts _, PS.E_lasts _, PS.E_lasts _, PS.E_lasts _, PS.E_lasts _, PS.E_lasts _, PS.E_lasts _, PS.E_lasts _, PS.E_lasts _, PS.E_lasts _, PS.E_lasts _, PS.E_lasts _, PS.E_lasts _, PS.E_lasts _, PS.E_lasts _, PS.E_lasts _, PS.E_lasts _, PS.E_lasts _, PS.E_lasts _, PS.E_lasts _, PS.E_lasts _, PS.E_lasts _, PS.E_lasts _, trivial⟩) ?_ ?_
          · refine ⟨?_, ?_, ?_, ?_, ?_, ?_, ?_, ?_, ?_, ?_, ?_, ?_, ?_, ?_, ?_, ?_, ?_, ?_, ?_, ?_, ?_, ?_, ?_, ?_, ?_, ?_, trivial⟩ <;> intro A W hB hS hA hF
            · exact Or.inl (PB.does_run (PB.wanted_free rfl) (run_load23 W (hS.slots 3 rfl) (Ka.out W hB).1 (Ka.out W hB).2) rfl)
            · exact Or.inl (PB.does_run (PB.wanted_free rfl) (run_load23 W (hS.slots 5 rfl) (Kc.out W hB).1 (Kc.out W hB).2) rfl)
            · exact Or.inl (PB.does_call #[.agg #[.int .i64 a1, .int .i64 a2], .agg #[.int .i64 c1, .int .i64 c2]] (PB.wanted_free rfl) rfl Try.func9 rfl rfl (by show [PB.slot A 72, PB.slot A 73] = _; rw [show PB.slot A 72 = .agg #[.int .i64 a1, .int .i64 a2] from hA 0 rfl, show PB.slot A 73 = .agg #[.int .i64 c1, .int .i64 c2] from hA 1 rfl]) (Kac.out W))
            · exact Or.inl (PB.does_move (PB.wanted_free rfl) rfl (hA 2 rfl))
            · exact Or.inl (PB.does_run (PB.wanted_by rfl rfl (hA 3 rfl)) (run_load23 W (hS.slots 4 rfl) (Kb.out W hB).1 (Kb.out W hB).2) rfl)
            · exact Or.inl (PB.does_run (PB.wanted_by rfl rfl (hA 3 rfl)) (run_load23 W (hS.slots 5 rfl) (Kc.out W hB).1 (Kc.out W hB).2) rfl)
            · exact Or.inl (PB.does_call #[.agg #[.int .i64 b1, .int .i64 b2], .agg #[.int .i64 c1, .int .i64 c2]] (PB.wanted_by rfl rfl (hA 3 rfl)) rfl Try.func9 rfl rfl (by show [PB.slot A 76, PB.slot A 77] = _; rw [show PB.slot A 76 = .agg #[.int .i64 b1, .int .i64 b2] from hA 4 rfl, show PB.slot A 77 = .agg #[.int .i64 c1, .int .i64 c2] from hA 5 rfl]) (Kbc.out W))
            · exact Or.inl (PB.does_run (PB.wanted_by rfl rfl (hA 3 rfl)) (run_load23 W (hS.slots 7 rfl) (Kj.out W hB).1 (Kj.out W hB).2) rfl)
            · exact Or.inl (PB.does_run (PB.wanted_by rfl rfl (hA 3 rfl)) (run_load23 W (hS.slots 5 rfl) (Kc.out W hB).1 (Kc.out W hB).2) rfl)
            · exact Or.inl (PB.does_call #[.agg #[.int .i64 j1, .int .i64 j2], .agg #[.int .i64 c1, .int .i64 c2]] (PB.wanted_by rfl rfl (hA 3 rfl)) rfl Try.func9 rfl rfl (by show [PB.slot A 79, PB.slot A 80] = _; rw [show PB.slot A 79 = .agg #[.int .i64 j1, .int .i64 j2] from hA 7 rfl, show PB.slot A 80 = .agg #[.int .i64 c1, .int .i64 c2] from hA 8 rfl]) (Kjc.out W))
            · exact Or.inl (PB.does_bin (PB.wanted_by rfl rfl (hA 3 rfl)) rfl (hA 6 rfl) (hA 9 rfl) (run_neB W bc _ _) rfl)
            · exact Or.inl (PB.does_run (PB.wanted_free rfl) (run_pick_then W (hA 3 rfl) (hA 10 rfl)) rfl)
            · exact Or.inl (PB.does_move (PB.wanted_free rfl) rfl (hA 11 rfl))
            · exact Or.inl (PB.does_run (PB.wanted_by rfl rfl (hA 12 rfl)) (run_load23 W (hS.slots 5 rfl) (Kc.out W hB).1 (Kc.out W hB).2) rfl)
            · exact Or.inl (PB.does_run (PB.wanted_by rfl rfl (hA 12 rfl)) (run_load23 W (hS.slots 3 rfl) (Ka.out W hB).1 (Ka.out W hB).2) rfl)
            · exact Or.inl (PB.does_call #[.agg #[.int .i64 c1, .int .i64 c2], .agg #[.int .i64 a1, .int .i64 a2]] (PB.wanted_by rfl rfl (hA 12 rfl)) rfl Try.func9 rfl rfl (by show [PB.slot A 85, PB.slot A 86] = _; rw [show PB.slot A 85 = .agg #[.int .i64 c1, .int .i64 c2] from hA 13 rfl, show PB.slot A 86 = .agg #[.int .i64 a1, .int .i64 a2] from hA 14 rfl]) (Kca.out W))
            · exact Or.inl (PB.does_move (PB.wanted_by rfl rfl (hA 12 rfl)) rfl (hA 15 rfl))
            · exact Or.inl (PB.does_run (PB.wanted_by rfl rfl (hA 16 rfl)) (run_load23 W (hS.slots 5 rfl) (Kc.out W hB).1 (Kc.out W hB).2) rfl)
            · exact Or.inl (PB.does_run (PB.wanted_by rfl rfl (hA 16 rfl)) (run_load23 W (hS.slots 4 rfl) (Kb.out W hB).1 (Kb.out W hB).2) rfl)
            · exact Or.inl (PB.does_call #[.agg #[.int .i64 c1, .int .i64 c2], .agg #[.int .i64 b1, .int .i64 b2]] (PB.wanted_by rfl rfl (hA 16 rfl)) rfl Try.func9 rfl rfl (by show [PB.slot A 89, PB.slot A 90] = _; rw [show PB.slot A 89 = .agg #[.int .i64 c1, .int .i64 c2] from hA 17 rfl, show PB.slot A 90 = .agg #[.int .i64 b1, .int .i64 b2] from hA 18 rfl]) (Kcb.out W))
            · exact Or.inl (PB.does_run (PB.wanted_by rfl rfl (hA 16 rfl)) (run_load23 W (hS.slots 5 rfl) (Kc.out W hB).1 (Kc.out W hB).2) rfl)
            · exact Or.inl (PB.does_run (PB.wanted_by rfl rfl (hA 16 rfl)) (run_load23 W (hS.slots 8 rfl) (Km.out W hB).1 (Km.out W hB).2) rfl)
            · exact Or.inl (PB.does_call #[.agg #[.int .i64 c1, .int .i64 c2], .agg #[.int .i64 m1, .int .i64 m2]] (PB.wanted_by rfl rfl (hA 16 rfl)) rfl Try.func9 rfl rfl (by show [PB.slot A 92, PB.slot A 93] = _; rw [show PB.slot A 92 = .agg #[.int .i64 c1, .int .i64 c2] from hA 20 rfl, show PB.slot A 93 = .agg #[.int .i64 m1, .int .i64 m2] from hA 21 rfl]) (Kcm.out W))
            · exact Or.inl (PB.does_bin (PB.wanted_by rfl rfl (hA 16 rfl)) rfl (hA 19 rfl) (hA 22 rfl) (run_neB W cb _ _) rfl)
            · exact Or.inl (PB.does_run (PB.wanted_by rfl rfl (hA 12 rfl)) (run_pick_then W (hA 16 rfl) (hA 23 rfl)) rfl)
            · exact Or.inl (PB.does_run (PB.wanted_free rfl) (run_pick_else W (hA 12 rfl) (hA 24 rfl)) rfl)
          · intro A W hB hS hL
            have h97 : PB.slot A 97 = .bool false := hL 25 (by decide)
            have q3 : PB.slot A 3 = .pointer (some ⟨w.heap.size, 0, none⟩) := hS.slots 3 rfl
            have q4 : PB.slot A 4 = .pointer (some ⟨w.heap.size + 1, 0, none⟩) := hS.slots 4 rfl
            have q6 : PB.slot A 6 = .bool false := hS.slots 6 rfl
            have hA := frame_of (A := A) (n := 121) hS.size
            have hd : A.defers = [] := hS.defers
            rw [hd] at hA
            obtain ⟨f6, hf⟩ : ∃ f, PB.slot A = f := ⟨_, rfl⟩
            rw [hf] at hA h97 q3 q4 q6
            rw [hA]
            have hBx : Below W0.heap.size W0 W := hB4.trans (hB.mono hB4.size)
            clear hA hf hd hL hS
            simp only [List.range, List.range.loop, List.map_cons, List.map_nil, h97, q3, q4, q6]
            go_upto_region 8 with fail
            have Ka : Hid (∀ V, Below W.heap.size W V → V.cell? ⟨w.heap.size, 0, none⟩ = some (.int .i64 a1) ∧ V.cell? ⟨w.heap.size, 0 + 1, none⟩ = some (.int .i64 a2)) := fun V h => ⟨(KD.out V (hBx.trans (h.mono hBx.size))).1, (KD.out V (hBx.trans (h.mono hBx.size))).2.1⟩
            have Kb : Hid (∀ V, Below W.heap.size W V → V.cell? ⟨w.heap.size + 1, 0, none⟩ = some (.int .i64 b1) ∧ V.cell? ⟨w.heap.size + 1, 0 + 1, none⟩ = some (.int .i64 b2)) := fun V h => ⟨(KD.out V (hBx.trans (h.mono hBx.size))).2.2.1, (KD.out V (hBx.trans (h.mono hBx.size))).2.2.2.1⟩
            have Kc : Hid (∀ V, Below W.heap.size W V → V.cell? ⟨w.heap.size + 1 + 1, 0, none⟩ = some (.int .i64 c1) ∧ V.cell? ⟨w.heap.size + 1 + 1, 0 + 1, none⟩ = some (.int .i64 c2)) := fun V h => ⟨(KD.out V (hBx.trans (h.mono hBx.size))).2.2.2.2.1, (KD.out V (hBx.trans (h.mono hBx.size))).2.2.2.2.2⟩
            have hrg := HRG.out
            cases ab with
            | false =>
              refine PS.wp_region_plan (PS.phi [PS.E (.agg #[.int .i64 a1, .int .i64 a2]), PS.E (.agg #[.int .i64 b1, .int .i64 b2]), PS.E (.bool false), PS.E (.bool true), PS.E (.bool true), PS.E undef, PS.E undef, PS.E undef, PS.E undef, PS.E (.bool true), PS.E (.bool true), PS.E (.agg #[.int .i64 a1, .int .i64 a2]), PS.E (.agg #[.int .i64 b1, .int .i64 b2]), PS.E (.int .i64 od), PS.E (.agg #[.int .i64 b1, .int .i64 b2]), PS.E (.agg #[.int .i64 a1, .int .i64 a2]), PS.E (.int .i64 (-od)), PS.E (.int .i64 (- -od)), PS.E (.bool true), PS.E (.bool true), PS.E (.bool true), PS.E (.bool true), PS.E (.bool true), PS.E (.bool true)]) mixed (by kernel_rfl)
                (PS.phi_lasts _ ⟨PS.E_lasts _, PS.E_lasts _, PS.E_lasts _, PS.E_lasts _, PS.E_lasts _, PS.E_lasts _, PS.E_lasts _, PS.E_lasts _, PS.E_lasts _, PS.E_lasts _, PS.E_lasts _, PS.E_lasts _, PS.E_lasts _, PS.E_lasts _, PS.E_lasts _, PS.E_lasts _, PS.E_lasts _, PS.E_lasts _, PS.E_lasts _, PS.E_lasts _, PS.E_lasts _, PS.E_lasts _, PS.E_lasts _, PS.E_lasts _, trivial⟩) ?_ ?_
              · refine ⟨?_, ?_, ?_, ?_, ?_, ?_, ?_, ?_, ?_, ?_, ?_, ?_, ?_, ?_, ?_, ?_, ?_, ?_, ?_, ?_, ?_, ?_, ?_, ?_, trivial⟩ <;> intro A W hB hS hA hF
                · exact Or.inl (PB.does_run (PB.wanted_free rfl) (run_load23 W (hS.slots 3 rfl) (Ka.out W hB).1 (Ka.out W hB).2) rfl)
                · exact Or.inl (PB.does_run (PB.wanted_free rfl) (run_load23 W (hS.slots 4 rfl) (Kb.out W hB).1 (Kb.out W hB).2) rfl)
                · exact Or.inl (PB.does_call #[.agg #[.int .i64 a1, .int .i64 a2], .agg #[.int .i64 b1, .int .i64 b2]] (PB.wanted_free rfl) rfl Try.func9 rfl rfl (by show [PB.slot A 98, PB.slot A 99] = _; rw [show PB.slot A 98 = .agg #[.int .i64 a1, .int .i64 a2] from hA 0 rfl, show PB.slot A 99 = .agg #[.int .i64 b1, .int .i64 b2] from hA 1 rfl]) (Kab.out W))
                · exact Or.inl (PB.does_run (PB.wanted_free rfl) (run_not W (hA 2 rfl)) rfl)
                · exact Or.inl (PB.does_move (PB.wanted_free rfl) rfl (hA 3 rfl))
                · exact Or.inr ⟨PS.pass_by rfl rfl (hA 4 rfl) (by decide), rfl⟩
                · exact Or.inr ⟨PS.pass_by rfl rfl (hA 4 rfl) (by decide), rfl⟩
                · exact Or.inr ⟨PS.pass_by rfl rfl (hA 4 rfl) (by decide), rfl⟩
                · exact Or.inr ⟨PS.pass_by rfl rfl (hA 4 rfl) (by decide), rfl⟩
                · exact Or.inl (PB.does_run (PB.wanted_free rfl) (run_pick_const W (hA 4 rfl)) rfl)
                · exact Or.inl (PB.does_move (PB.wanted_free rfl) rfl (hA 9 rfl))
                · exact Or.inl (PB.does_run (PB.wanted_by rfl rfl (hA 10 rfl)) (run_load23 W (hS.slots 3 rfl) (Ka.out W hB).1 (Ka.out W hB).2) rfl)
                · exact Or.inl (PB.does_run (PB.wanted_by rfl rfl (hA 10 rfl)) (run_load23 W (hS.slots 4 rfl) (Kb.out W hB).1 (Kb.out W hB).2) rfl)
                · exact Or.inl (PB.does_call #[.agg #[.int .i64 a1, .int .i64 a2], .agg #[.int .i64 b1, .int .i64 b2]] (PB.wanted_by rfl rfl (hA 10 rfl)) rfl Try.func15 rfl rfl (by show [PB.slot A 109, PB.slot A 110] = _; rw [show PB.slot A 109 = .agg #[.int .i64 a1, .int .i64 a2] from hA 11 rfl, show PB.slot A 110 = .agg #[.int .i64 b1, .int .i64 b2] from hA 12 rfl]) (Kod.out W))
                · exact Or.inl (PB.does_run (PB.wanted_by rfl rfl (hA 10 rfl)) (run_load23 W (hS.slots 4 rfl) (Kb.out W hB).1 (Kb.out W hB).2) rfl)
                · exact Or.inl (PB.does_run (PB.wanted_by rfl rfl (hA 10 rfl)) (run_load23 W (hS.slots 3 rfl) (Ka.out W hB).1 (Ka.out W hB).2) rfl)
                · exact Or.inl (PB.does_call #[.agg #[.int .i64 b1, .int .i64 b2], .agg #[.int .i64 a1, .int .i64 a2]] (PB.wanted_by rfl rfl (hA 10 rfl)) rfl Try.func15 rfl rfl (by show [PB.slot A 112, PB.slot A 113] = _; rw [show PB.slot A 112 = .agg #[.int .i64 b1, .int .i64 b2] from hA 14 rfl, show PB.slot A 113 = .agg #[.int .i64 a1, .int .i64 a2] from hA 15 rfl]) (Kdo.out W))
                · exact Or.inl (PB.does_run (PB.wanted_by rfl rfl (hA 10 rfl)) (run_neg W (hA 16 rfl) hrg) rfl)
                · exact Or.inl (PB.does_bin (PB.wanted_by rfl rfl (hA 10 rfl)) rfl (hA 13 rfl) (hA 17 rfl) (run_eqN W od _ _) rfl)
                · exact Or.inl (PB.does_run (PB.wanted_free rfl) (run_pick_then W (hA 10 rfl) (hA 18 rfl)) rfl)
                · exact Or.inl (PB.does_move (PB.wanted_free rfl) rfl (hA 19 rfl))
                · exact Or.inl (PB.does_call #[] (PB.wanted_by rfl rfl (hA 20 rfl)) rfl Try.func17 rfl rfl rfl (live_newB W))
                · exact Or.inl (PB.does_run (PB.wanted_free rfl) (run_pick_then W (hA 20 rfl) (hA 21 rfl)) rfl)
                · exact Or.inl (PB.does_assign (PB.wanted_free rfl) rfl (hA 22 rfl))
              · intro A W hB hS hL
                have h23 : PB.slot A 6 = .bool true := hL 23 (by decide)
                obtain ⟨tmps, defers⟩ := A
                have hd : defers = [] := hS.defers
                subst hd
                go_wp2
                go_ret
                exact ⟨congrArg Ending.returned h23, hs0.below.trans ((hBx.trans (hB.mono hBx.size)).mono hs0.below.size)⟩
            | true =>
              have hod : od ≤ 0 := by rw [← QOD.out]; exact cf_le QAB.out
              refine PS.wp_region_plan (PS.phi [PS.E (.agg #[.int .i64 a1, .int .i64 a2]), PS.E (.agg #[.int .i64 b1, .int .i64 b2]), PS.E (.bool true), PS.E (.bool false), PS.E (.bool false), PS.E (.agg #[.int .i64 a1, .int .i64 a2]), PS.E (.agg #[.int .i64 b1, .int .i64 b2]), PS.E (.int .i64 od), PS.E (.bool true), PS.E (.bool true), PS.E (.bool true), PS.E (.agg #[.int .i64 a1, .int .i64 a2]), PS.E (.agg #[.int .i64 b1, .int .i64 b2]), PS.E (.int .i64 od), PS.E (.agg #[.int .i64 b1, .int .i64 b2]), PS.E (.agg #[.int .i64 a1, .int .i64 a2]), PS.E (.int .i64 (-od)), PS.E (.int .i64 (- -od)), PS.E (.bool true), PS.E (.bool true), PS.E (.bool true), PS.E (.bool true), PS.E (.bool true), PS.E (.bool true)]) mixed (by kernel_rfl)
                (PS.phi_lasts _ ⟨PS.E_lasts _, PS.E_lasts _, PS.E_lasts _, PS.E_lasts _, PS.E_lasts _, PS.E_lasts _, PS.E_lasts _, PS.E_lasts _, PS.E_lasts _, PS.E_lasts _, PS.E_lasts _, PS.E_lasts _, PS.E_lasts _, PS.E_lasts _, PS.E_lasts _, PS.E_lasts _, PS.E_lasts _, PS.E_lasts _, PS.E_lasts _, PS.E_lasts _, PS.E_lasts _, PS.E_lasts _, PS.E_lasts _, PS.E_lasts _, trivial⟩) ?_ ?_
              · refine ⟨?_, ?_, ?_, ?_, ?_, ?_, ?_, ?_, ?_, ?_, ?_, ?_, ?_, ?_, ?_, ?_, ?_, ?_, ?_, ?_, ?_, ?_, ?_, ?_, trivial⟩ <;> intro A W hB hS hA hF
                · exact Or.inl (PB.does_run (PB.wanted_free rfl) (run_load23 W (hS.slots 3 rfl) (Ka.out W hB).1 (Ka.out W hB).2) rfl)
                · exact Or.inl (PB.does_run (PB.wanted_free rfl) (run_load23 W (hS.slots 4 rfl) (Kb.out W hB).1 (Kb.out W hB).2) rfl)
                · exact Or.inl (PB.does_call #[.agg #[.int .i64 a1, .int .i64 a2], .agg #[.int .i64 b1, .int .i64 b2]] (PB.wanted_free rfl) rfl Try.func9 rfl rfl (by show [PB.slot A 98, PB.slot A 99] = _; rw [show PB.slot A 98 = .agg #[.int .i64 a1, .int .i64 a2] from hA 0 rfl, show PB.slot A 99 = .agg #[.int .i64 b1, .int .i64 b2] from hA 1 rfl]) (Kab.out W))
                · exact Or.inl (PB.does_run (PB.wanted_free rfl) (run_not W (hA 2 rfl)) rfl)
                · exact Or.inl (PB.does_move (PB.wanted_free rfl) rfl (hA 3 rfl))
                · exact Or.inl (PB.does_run (PB.wanted_by rfl rfl (hA 4 rfl)) (run_load23 W (hS.slots 3 rfl) (Ka.out W hB).1 (Ka.out W hB).2) rfl)
                · exact Or.inl (PB.does_run (PB.wanted_by rfl rfl (hA 4 rfl)) (run_load23 W (hS.slots 4 rfl) (Kb.out W hB).1 (Kb.out W hB).2) rfl)
                · exact Or.inl (PB.does_call #[.agg #[.int .i64 a1, .int .i64 a2], .agg #[.int .i64 b1, .int .i64 b2]] (PB.wanted_by rfl rfl (hA 4 rfl)) rfl Try.func15 rfl rfl (by show [PB.slot A 103, PB.slot A 104] = _; rw [show PB.slot A 103 = .agg #[.int .i64 a1, .int .i64 a2] from hA 5 rfl, show PB.slot A 104 = .agg #[.int .i64 b1, .int .i64 b2] from hA 6 rfl]) (Kod.out W))
                · exact Or.inl (PB.does_bin2 (PB.wanted_by rfl rfl (hA 4 rfl)) rfl (hA 7 rfl) rfl (run_leq0 W od _ _ hod) rfl)
                · exact Or.inl (PB.does_run (PB.wanted_free rfl) (run_pick_else W (hA 4 rfl) (hA 8 rfl)) rfl)
                · exact Or.inl (PB.does_move (PB.wanted_free rfl) rfl (hA 9 rfl))
                · exact Or.inl (PB.does_run (PB.wanted_by rfl rfl (hA 10 rfl)) (run_load23 W (hS.slots 3 rfl) (Ka.out W hB).1 (Ka.out W hB).2) rfl)
                · exact Or.inl (PB.does_run (PB.wanted_by rfl rfl (hA 10 rfl)) (run_load23 W (hS.slots 4 rfl) (Kb.out W hB).1 (Kb.out W hB).2) rfl)
                · exact Or.inl (PB.does_call #[.agg #[.int .i64 a1, .int .i64 a2], .agg #[.int .i64 b1, .int .i64 b2]] (PB.wanted_by rfl rfl (hA 10 rfl)) rfl Try.func15 rfl rfl (by show [PB.slot A 109, PB.slot A 110] = _; rw [show PB.slot A 109 = .agg #[.int .i64 a1, .int .i64 a2] from hA 11 rfl, show PB.slot A 110 = .agg #[.int .i64 b1, .int .i64 b2] from hA 12 rfl]) (Kod.out W))
                · exact Or.inl (PB.does_run (PB.wanted_by rfl rfl (hA 10 rfl)) (run_load23 W (hS.slots 4 rfl) (Kb.out W hB).1 (Kb.out W hB).2) rfl)
                · exact Or.inl (PB.does_run (PB.wanted_by rfl rfl (hA 10 rfl)) (run_load23 W (hS.slots 3 rfl) (Ka.out W hB).1 (Ka.out W hB).2) rfl)
                · exact Or.inl (PB.does_call #[.agg #[.int .i64 b1, .int .i64 b2], .agg #[.int .i64 a1, .int .i64 a2]] (PB.wanted_by rfl rfl (hA 10 rfl)) rfl Try.func15 rfl rfl (by show [PB.slot A 112, PB.slot A 113] = _; rw [show PB.slot A 112 = .agg #[.int .i64 b1, .int .i64 b2] from hA 14 rfl, show PB.slot A 113 = .agg #[.int .i64 a1, .int .i64 a2] from hA 15 rfl]) (Kdo.out W))
                · exact Or.inl (PB.does_run (PB.wanted_by rfl rfl (hA 10 rfl)) (run_neg W (hA 16 rfl) hrg) rfl)
                · exact Or.inl (PB.does_bin (PB.wanted_by rfl rfl (hA 10 rfl)) rfl (hA 13 rfl) (hA 17 rfl) (run_eqN W od _ _) rfl)
                · exact Or.inl (PB.does_run (PB.wanted_free rfl) (run_pick_then W (hA 10 rfl) (hA 18 rfl)) rfl)
                · exact Or.inl (PB.does_move (PB.wanted_free rfl) rfl (hA 19 rfl))
                · exact Or.inl (PB.does_call #[] (PB.wanted_by rfl rfl (hA 20 rfl)) rfl Try.func17 rfl rfl rfl (live_newB W))
                · exact Or.inl (PB.does_run (PB.wanted_free rfl) (run_pick_then W (hA 20 rfl) (hA 21 rfl)) rfl)
                · exact Or.inl (PB.does_assign (PB.wanted_free rfl) rfl (hA 22 rfl))
              · intro A W hB hS hL
                have h23 : PB.slot A 6 = .bool true := hL 23 (by decide)
                obtain ⟨tmps, defers⟩ := A
                have hd : defers = [] := hS.defers
                subst hd
                go_wp2
                go_ret
                exact ⟨congrArg Ending.returned h23, hs0.below.trans ((hBx.trans (hB.mono hBx.size)).mono hs0.below.size)⟩
end Go.Proofs.Ytpgiekjkmfbmaaa
