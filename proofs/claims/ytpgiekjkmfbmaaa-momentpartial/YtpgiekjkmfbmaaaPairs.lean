/-
  What is proved here: the law MomentPairs answers true at any two times.
-/
import Derived.Test.YtpgiekjkmfbmaaaLive
namespace Go.Proofs.Ytpgiekjkmfbmaaa
open Go.RowKit Go.Proofs
set_option linter.unusedVariables false
set_option linter.unusedSimpArgs false

theorem live_newB (w : World) : Calls Try.prog 17 #[] w fun e w' => ∃ v, e = .returned v ∧ Below w.heap.size w w' ∧ PB.E (.bool true) v w' := by
  refine (live_any w).mono ?_
  rintro e w' ⟨rfl, hb⟩
  exact ⟨_, rfl, hb, rfl⟩

/-- A call that answers one known value and leaves what was. -/
theorem known {f : FuncId} {args : Array Value} {w : World} {v : Value} (h : Calls Try.prog f args w fun e w' => e = .returned v ∧ Gr w w') : Calls Try.prog f args w fun e w' => ∃ u, e = .returned u ∧ Below w.heap.size w w' ∧ PB.E v u w' := by
  refine h.mono ?_
  rintro e w' ⟨rfl, hg⟩
  exact ⟨_, rfl, hg.below, rfl⟩

theorem run_eqI (w : World) (z : Int) (x y : Operand) : ((do eqGuard .eql 3 x y (.int .i64 z) (.int .i64 z); binOp .eql 3 (.int .i64 z) (.int .i64 z) : Sem Value)).run Try.prog w = .ok (.bool true) w := by
  go_simp

theorem run_eqB (w : World) (z : Bool) (x y : Operand) : ((do eqGuard .eql 4 x y (.bool z) (.bool z); binOp .eql 4 (.bool z) (.bool z) : Sem Value)).run Try.prog w = .ok (.bool true) w := by
  go_simp

theorem run_eqT (w : World) (z : T) (x y : Operand) : ((do eqGuard .eql 23 x y (tv z) (tv z); binOp .eql 23 (tv z) (tv z) : Sem Value)).run Try.prog w = .ok (.bool true) w := by
  unfold tv
  go_simp

set_option maxHeartbeats 2000000 in
theorem pairs_walk (w : World) (a1 a2 b1 b2 : Int) :
    Calls Try.prog 3 #[.agg #[.int .i64 a1, .int .i64 a2], .agg #[.int .i64 b1, .int .i64 b2]] w fun e w' => e = .returned (.bool true) ∧ Below w.heap.size w w' := by
  have HK7 := hid' (fun W => known (check_any (a1, a2) W))
  have HK8 := hid' (fun W => known (refCheck_any (a1, a2) W))
  have HK9 := hid' (fun W => known (lessEq_any (a1, a2) (b1, b2) W))
  have HK10 := hid' (fun W => known (refLessEq_any (a1, a2) (b1, b2) W))
  have HK11 := hid' (fun W => known (join_any (a1, a2) (b1, b2) W))
  have HK12 := hid' (fun W => known (refJoin_any (a1, a2) (b1, b2) W))
  have HK13 := hid' (fun W => known (meet_any (a1, a2) (b1, b2) W))
  have HK14 := hid' (fun W => known (refMeet_any (a1, a2) (b1, b2) W))
  have HK15 := hid' (fun W => known (orderF_any (a1, a2) (b1, b2) W))
  have HK16 := hid' (fun W => known (refOrder_any (a1, a2) (b1, b2) W))
  generalize checkT (a1, a2) = ck at HK7 HK8
  generalize le2 (a1, a2) (b1, b2) = lq at HK9 HK10
  generalize joinT (a1, a2) (b1, b2) = jn at HK11 HK12
  generalize meetT (a1, a2) (b1, b2) = mt at HK13 HK14
  generalize cfT (a1, a2) (b1, b2) = od at HK15 HK16
  simp only at HK7 HK8 HK9 HK10 HK11 HK12 HK13 HK14 HK15 HK16
  go_enter Try.func3, Try.ntmps3
  go_wp2_with fail
  have hs0 : Gr w ((w.alloc (.cells #[.int .i64 a1, .int .i64 a2] 23)).alloc (.cells #[.int .i64 b1, .int .i64 b2] 23)) := ((Gr.refl w).alloc _).alloc _
  obtain ⟨W0, hW0⟩ : ∃ W0, (w.alloc (.cells #[.int .i64 a1, .int .i64 a2] 23)).alloc (.cells #[.int .i64 b1, .int .i64 b2] 23) = W0 := ⟨_, rfl⟩
  have l1 : w.heap.size + 1 < W0.heap.size := by rw [← hW0]; simp
  have c1 : W0.cell? ⟨w.heap.size, 0, none⟩ = some (.int .i64 a1) := by rw [← hW0, cell_of_row _ _ _ _ _ _ (heap_alloc2_old w _ _)]; rfl
  have c2 : W0.cell? ⟨w.heap.size, 1, none⟩ = some (.int .i64 a2) := by rw [← hW0, cell_of_row _ _ _ _ _ _ (heap_alloc2_old w _ _)]; rfl
  have c3 : W0.cell? ⟨w.heap.size + 1, 0, none⟩ = some (.int .i64 b1) := by rw [← hW0, cell_of_row _ _ _ _ _ _ (heap_alloc2_new w _ _)]; rfl
  have c4 : W0.cell? ⟨w.heap.size + 1, 1, none⟩ = some (.int .i64 b2) := by rw [← hW0, cell_of_row _ _ _ _ _ _ (heap_alloc2_new w _ _)]; rfl
  rw [hW0] at hs0 ⊢
  clear hW0
  have KA : Hid (∀ W, Below W0.heap.size W0 W → W.cell? ⟨w.heap.size, 0, none⟩ = some (.int .i64 a1) ∧ W.cell? ⟨w.heap.size, 0 + 1, none⟩ = some (.int .i64 a2)) := fun W h => ⟨(h.cell (p := ⟨w.heap.size, 0, none⟩) (by show w.heap.size < _; omega)).trans c1, (h.cell (p := ⟨w.heap.size, 1, none⟩) (by show w.heap.size < _; omega)).trans c2⟩
  have KB : Hid (∀ W, Below W0.heap.size W0 W → W.cell? ⟨w.heap.size + 1, 0, none⟩ = some (.int .i64 b1) ∧ W.cell? ⟨w.heap.size + 1, 0 + 1, none⟩ = some (.int .i64 b2)) := fun W h => ⟨(h.cell (p := ⟨w.heap.size + 1, 0, none⟩) (by show w.heap.size + 1 < _; omega)).trans c3, (h.cell (p := ⟨w.heap.size + 1, 1, none⟩) (by show w.heap.size + 1 < _; omega)).trans c4⟩
  refine PB.wp_region_plan (PB.phi [PB.E (.agg #[.int .i64 a1, .int .i64 a2]), PB.E (.int .i64 ck), PB.E (.agg #[.int .i64 a1, .int .i64 a2]), PB.E (.int .i64 ck), PB.E (.bool true), PB.E (.bool true), PB.E (.agg #[.int .i64 a1, .int .i64 a2]), PB.E (.agg #[.int .i64 b1, .int .i64 b2]), PB.E (.bool lq), PB.E (.agg #[.int .i64 a1, .int .i64 a2]), PB.E (.agg #[.int .i64 b1, .int .i64 b2]), PB.E (.bool lq), PB.E (.bool true), PB.E (.bool true), PB.E (.bool true), PB.E (.agg #[.int .i64 a1, .int .i64 a2]), PB.E (.agg #[.int .i64 b1, .int .i64 b2]), PB.E (tv jn), PB.E (.agg #[.int .i64 a1, .int .i64 a2]), PB.E (.agg #[.int .i64 b1, .int .i64 b2]), PB.E (tv jn), PB.E (.bool true), PB.E (.bool true), PB.E (.bool true), PB.E (.agg #[.int .i64 a1, .int .i64 a2]), PB.E (.agg #[.int .i64 b1, .int .i64 b2]), PB.E (tv mt), PB.E (.agg #[.int .i64 a1, .int .i64 a2]), PB.E (.agg #[.int .i64 b1, .int .i64 b2]), PB.E (tv mt), PB.E (.bool true), PB.E (.bool true), PB.E (.bool true), PB.E (.agg #[.int .i64 a1, .int .i64 a2]), PB.E (.agg #[.int .i64 b1, .int .i64 b2]), PB.E (.int .i64 od), PB.E (.agg #[.int .i64 a1, .int .i64 a2]), PB.E (.agg #[.int .i64 b1, .int .i64 b2]), PB.E (.int .i64 od), PB.E (.bool true), PB.E (.bool true), PB.E (.bool true), PB.E (.bool true), PB.E (.bool true), PB.E (.bool true)]) (by kernel_rfl) (by kernel_rfl)
    (PB.phi_lasts _ ⟨PB.E_lasts _, PB.E_lasts _, PB.E_lasts _, PB.E_lasts _, PB.E_lasts _, PB.E_lasts _, PB.E_lasts _, PB.E_lasts _, PB.E_lasts _, PB.E_lasts _, PB.E_lasts _, PB.E_lasts _, PB.E_lasts _, PB.E_lasts _, PB.E_lasts _, PB.E_lasts _, PB.E_lasts _, PB.E_lasts _, PB.E_lasts _, PB.E_lasts _, PB.E_lasts _, PB.E_lasts _, PB.E_lasts _, PB.E_lasts _, PB.E_lasts _, PB.E_lasts _, PB.E_lasts _, PB.E_lasts _, PB.E_lasts _, PB.E_lasts _, PB.E_lasts _, PB.E_lasts _, PB.E_lasts _, PB.E_lasts _, PB.E_lasts _, PB.E_lasts _, PB.E_lasts _, PB.E_lasts _, PB.E_lasts _, PB.E_lasts _, PB.E_lasts _, PB.E_lasts _, PB.E_lasts _, PB.E_lasts _, PB.E_lasts _, trivial⟩) ?_ ?_
  · refine ⟨?_, ?_, ?_, ?_, ?_, ?_, ?_, ?_, ?_, ?_, ?_, ?_, ?_, ?_, ?_, ?_, ?_, ?_, ?_, ?_, ?_, ?_, ?_, ?_, ?_, ?_, ?_, ?_, ?_, ?_, ?_, ?_, ?_, ?_, ?_, ?_, ?_, ?_, ?_, ?_, ?_, ?_, ?_, ?_, ?_, trivial⟩ <;> intro A W hB hS hA hF
    · exact PB.does_run (PB.wanted_free rfl) (run_load23 W (hS.slots 2 rfl) (KA.out W hB).1 (KA.out W hB).2) rfl
    · exact PB.does_call #[.agg #[.int .i64 a1, .int .i64 a2]] (PB.wanted_free rfl) rfl Try.func7 rfl rfl (congrArg (fun x => [x]) (hA 0 rfl)) (HK7.out W)
    · exact PB.does_run (PB.wanted_free rfl) (run_load23 W (hS.slots 2 rfl) (KA.out W hB).1 (KA.out W hB).2) rfl
    · exact PB.does_call #[.agg #[.int .i64 a1, .int .i64 a2]] (PB.wanted_free rfl) rfl Try.func8 rfl rfl (congrArg (fun x => [x]) (hA 2 rfl)) (HK8.out W)
    · exact PB.does_bin (PB.wanted_free rfl) rfl (hA 1 rfl) (hA 3 rfl) (run_eqI W ck _ _) rfl
    · exact PB.does_move (PB.wanted_free rfl) rfl (hA 4 rfl)
    · exact PB.does_run (PB.wanted_by rfl rfl (hA 5 rfl)) (run_load23 W (hS.slots 2 rfl) (KA.out W hB).1 (KA.out W hB).2) rfl
    · exact PB.does_run (PB.wanted_by rfl rfl (hA 5 rfl)) (run_load23 W (hS.slots 3 rfl) (KB.out W hB).1 (KB.out W hB).2) rfl
    · exact PB.does_call #[.agg #[.int .i64 a1, .int .i64 a2], .agg #[.int .i64 b1, .int .i64 b2]] (PB.wanted_by rfl rfl (hA 5 rfl)) rfl Try.func9 rfl rfl (by show [PB.slot A 11, PB.slot A 12] = _; rw [show PB.slot A 11 = .agg #[.int .i64 a1, .int .i64 a2] from hA 6 rfl, show PB.slot A 12 = .agg #[.int .i64 b1, .int .i64 b2] from hA 7 rfl]) (HK9.out W)
    · exact PB.does_run (PB.wanted_by rfl rfl (hA 5 rfl)) (run_load23 W (hS.slots 2 rfl) (KA.out W hB).1 (KA.out W hB).2) rfl
    · exact PB.does_run (PB.wanted_by rfl rfl (hA 5 rfl)) (run_load23 W (hS.slots 3 rfl) (KB.out W hB).1 (KB.out W hB).2) rfl
    · exact PB.does_call #[.agg #[.int .i64 a1, .int .i64 a2], .agg #[.int .i64 b1, .int .i64 b2]] (PB.wanted_by rfl rfl (hA 5 rfl)) rfl Try.func10 rfl rfl (by show [PB.slot A 14, PB.slot A 15] = _; rw [show PB.slot A 14 = .agg #[.int .i64 a1, .int .i64 a2] from hA 9 rfl, show PB.slot A 15 = .agg #[.int .i64 b1, .int .i64 b2] from hA 10 rfl]) (HK10.out W)
    · exact PB.does_bin (PB.wanted_by rfl rfl (hA 5 rfl)) rfl (hA 8 rfl) (hA 11 rfl) (run_eqB W lq _ _) rfl
    · exact PB.does_pick (PB.wanted_free rfl) rfl (hA 5 rfl) (hA 12 rfl)
    · exact PB.does_move (PB.wanted_free rfl) rfl (hA 13 rfl)
    · exact PB.does_run (PB.wanted_by rfl rfl (hA 14 rfl)) (run_load23 W (hS.slots 2 rfl) (KA.out W hB).1 (KA.out W hB).2) rfl
    · exact PB.does_run (PB.wanted_by rfl rfl (hA 14 rfl)) (run_load23 W (hS.slots 3 rfl) (KB.out W hB).1 (KB.out W hB).2) rfl
    · exact PB.does_call #[.agg #[.int .i64 a1, .int .i64 a2], .agg #[.int .i64 b1, .int .i64 b2]] (PB.wanted_by rfl rfl (hA 14 rfl)) rfl Try.func11 rfl rfl (by show [PB.slot A 20, PB.slot A 21] = _; rw [show PB.slot A 20 = .agg #[.int .i64 a1, .int .i64 a2] from hA 15 rfl, show PB.slot A 21 = .agg #[.int .i64 b1, .int .i64 b2] from hA 16 rfl]) (HK11.out W)
    · exact PB.does_run (PB.wanted_by rfl rfl (hA 14 rfl)) (run_load23 W (hS.slots 2 rfl) (KA.out W hB).1 (KA.out W hB).2) rfl
    · exact PB.does_run (PB.wanted_by rfl rfl (hA 14 rfl)) (run_load23 W (hS.slots 3 rfl) (KB.out W hB).1 (KB.out W hB).2) rfl
    · exact PB.does_call #[.agg #[.int .i64 a1, .int .i64 a2], .agg #[.int .i64 b1, .int .i64 b2]] (PB.wanted_by rfl rfl (hA 14 rfl)) rfl Try.func12 rfl rfl (by show [PB.slot A 23, PB.slot A 24] = _; rw [show PB.slot A 23 = .agg #[.int .i64 a1, .int .i64 a2] from hA 18 rfl, show PB.slot A 24 = .agg #[.int .i64 b1, .int .i64 b2] from hA 19 rfl]) (HK12.out W)
    · exact PB.does_bin (PB.wanted_by rfl rfl (hA 14 rfl)) rfl (hA 17 rfl) (hA 20 rfl) (run_eqT W jn _ _) rfl
    · exact PB.does_pick (PB.wanted_free rfl) rfl (hA 14 rfl) (hA 21 rfl)
    · exact PB.does_move (PB.wanted_free rfl) rfl (hA 22 rfl)
    · exact PB.does_run (PB.wanted_by rfl rfl (hA 23 rfl)) (run_load23 W (hS.slots 2 rfl) (KA.out W hB).1 (KA.out W hB).2) rfl
    · exact PB.does_run (PB.wanted_by rfl rfl (hA 23 rfl)) (run_load23 W (hS.slots 3 rfl) (KB.out W hB).1 (KB.out W hB).2) rfl
    · exact PB.does_call #[.agg #[.int .i64 a1, .int .i64 a2], .agg #[.int .i64 b1, .int .i64 b2]] (PB.wanted_by rfl rfl (hA 23 rfl)) rfl Try.func13 rfl rfl (by show [PB.slot A 29, PB.slot A 30] = _; rw [show PB.slot A 29 = .agg #[.int .i64 a1, .int .i64 a2] from hA 24 rfl, show PB.slot A 30 = .agg #[.int .i64 b1, .int .i64 b2] from hA 25 rfl]) (HK13.out W)
    · exact PB.does_run (PB.wanted_by rfl rfl (hA 23 rfl)) (run_load23 W (hS.slots 2 rfl) (KA.out W hB).1 (KA.out W hB).2) rfl
    · exact PB.does_run (PB.wanted_by rfl rfl (hA 23 rfl)) (run_load23 W (hS.slots 3 rfl) (KB.out W hB).1 (KB.out W hB).2) rfl
    · exact PB.does_call #[.agg #[.int .i64 a1, .int .i64 a2], .agg #[.int .i64 b1, .int .i64 b2]] (PB.wanted_by rfl rfl (hA 23 rfl)) rfl Try.func14 rfl rfl (by show [PB.slot A 32, PB.slot A 33] = _; rw [show PB.slot A 32 = .agg #[.int .i64 a1, .int .i64 a2] from hA 27 rfl, show PB.slot A 33 = .agg #[.int .i64 b1, .int .i64 b2] from hA 28 rfl]) (HK14.out W)
    · exact PB.does_bin (PB.wanted_by rfl rfl (hA 23 rfl)) rfl (hA 26 rfl) (hA 29 rfl) (run_eqT W mt _ _) rfl
    · exact PB.does_pick (PB.wanted_free rfl) rfl (hA 23 rfl) (hA 30 rfl)
    · exact PB.does_move (PB.wanted_free rfl) rfl (hA 31 rfl)
    · exact PB.does_run (PB.wanted_by rfl rfl (hA 32 rfl)) (run_load23 W (hS.slots 2 rfl) (KA.out W hB).1 (KA.out W hB).2) rfl
    · exact PB.does_run (PB.wanted_by rfl rfl (hA 32 rfl)) (run_load23 W (hS.slots 3 rfl) (KB.out W hB).1 (KB.out W hB).2) rfl
    · exact PB.does_call #[.agg #[.int .i64 a1, .int .i64 a2], .agg #[.int .i64 b1, .int .i64 b2]] (PB.wanted_by rfl rfl (hA 32 rfl)) rfl Try.func15 rfl rfl (by show [PB.slot A 38, PB.slot A 39] = _; rw [show PB.slot A 38 = .agg #[.int .i64 a1, .int .i64 a2] from hA 33 rfl, show PB.slot A 39 = .agg #[.int .i64 b1, .int .i64 b2] from hA 34 rfl]) (HK15.out W)
    · exact PB.does_run (PB.wanted_by rfl rfl (hA 32 rfl)) (run_load23 W (hS.slots 2 rfl) (KA.out W hB).1 (KA.out W hB).2) rfl
    · exact PB.does_run (PB.wanted_by rfl rfl (hA 32 rfl)) (run_load23 W (hS.slots 3 rfl) (KB.out W hB).1 (KB.out W hB).2) rfl
    · exact PB.does_call #[.agg #[.int .i64 a1, .int .i64 a2], .agg #[.int .i64 b1, .int .i64 b2]] (PB.wanted_by rfl rfl (hA 32 rfl)) rfl Try.func16 rfl rfl (by show [PB.slot A 41, PB.slot A 42] = _; rw [show PB.slot A 41 = .agg #[.int .i64 a1, .int .i64 a2] from hA 36 rfl, show PB.slot A 42 = .agg #[.int .i64 b1, .int .i64 b2] from hA 37 rfl]) (HK16.out W)
    · exact PB.does_bin (PB.wanted_by rfl rfl (hA 32 rfl)) rfl (hA 35 rfl) (hA 38 rfl) (run_eqI W od _ _) rfl
    · exact PB.does_pick (PB.wanted_free rfl) rfl (hA 32 rfl) (hA 39 rfl)
    · exact PB.does_move (PB.wanted_free rfl) rfl (hA 40 rfl)
    · exact PB.does_call #[] (PB.wanted_by rfl rfl (hA 41 rfl)) rfl Try.func17 rfl rfl rfl (live_newB W)
    · exact PB.does_pick (PB.wanted_free rfl) rfl (hA 41 rfl) (hA 42 rfl)
    · exact PB.does_assign (PB.wanted_free rfl) rfl (hA 43 rfl)
  · intro A W hB hS hL
    have h44 : PB.slot A 4 = .bool true := hL 44 (by decide)
    obtain ⟨tmps, defers⟩ := A
    have hd : defers = [] := hS.defers
    subst hd
    go_wp2
    go_ret
    exact ⟨congrArg Ending.returned h44, hs0.below.trans (hB.mono hs0.below.size)⟩

end Go.Proofs.Ytpgiekjkmfbmaaa
