/-
  What is proved here: the law FrontTimes answers true at every list of times and any time.
-/
import Derived.Test.YtaadbjnfnmjkfaaLive
namespace Go.Proofs.Ytaadbjnfnmjkfaa
open Go.RowKit Go.Proofs
set_option linter.unusedVariables false
set_option linter.unusedSimpArgs false

theorem adv_steps {l f : List T} (h : StepsOf l f) (t : T) : advB f t = advB l t := bool_eq (by rw [advB_iff, advB_iff]; exact h.adv t)

theorem AheadS_newB (l : List T) (t : T) (v : Value) (w : World) (h : IsSteps l v w) (hl : l.length < 4611686018427387904) : Calls Try.prog 23 #[v, .agg #[.int .i64 t.1, .int .i64 t.2]] w fun e w' => ∃ v, e = .returned v ∧ Below w.heap.size w w' ∧ PB.E (.bool (advB l t)) v w' := by
  obtain ⟨f, hst, hle, hf⟩ := h
  rw [← adv_steps hst t]
  exact Ahead_newB f t v w hf (by omega)

set_option maxRecDepth 20000 in
set_option maxHeartbeats 2000000 in
theorem times_walk (w : World) (a : Option Addr) (cap : Nat) (l : List T) (t : T) (h : IsL l (.slice a l.length cap) w) :
    Calls Try.prog 5 #[.slice a l.length cap, .agg #[.int .i64 t.1, .int .i64 t.2]] w fun e w' => e = .returned (.bool true) ∧ Below w.heap.size w w' := by
  obtain ⟨t1, t2⟩ := t
  have mixed : Try.prog.follows .mixedOrders = true := by kernel_rfl
  obtain ⟨n, hn⟩ : ∃ n, l.length = n := ⟨_, rfl⟩
  have HN := hid' hn
  rw [hn] at h ⊢
  have HL := hid' h
  clear h hn
  have hb0 : Below w.heap.size w (w.alloc (.cells #[.int .i64 t1, .int .i64 t2] 32)) := (Below.refl _ w).alloc (Nat.le_refl _) _
  have HBX : Hid (Box (w.alloc (.cells #[.int .i64 t1, .int .i64 t2] 32)) w.heap.size (t1, t2)) := Box.new w (t1, t2)
  have HMU := hid' (much_any (w.alloc (.cells #[.int .i64 t1, .int .i64 t2] 32)) a none n 0 cap 0)
  obtain ⟨W0, hW0⟩ : ∃ W0, w.alloc (.cells #[.int .i64 t1, .int .i64 t2] 32) = W0 := ⟨_, rfl⟩
  have HW0 := hid' hW0
  rw [hW0] at hb0 HBX HMU
  clear hW0
  by_cases hm : 40 < n
  · simp only [hm, decide_true, Bool.true_or] at HMU
    have HLV := hid' (live_any W0)
    clear hm
    go_enter Try.func5, Try.ntmps5
    go_wp2_with fail
    rw [HW0.out]
    refine HMU.out.mono ?_
    rintro e w1 ⟨rfl, rfl⟩
    go_wp2_with fail
    refine HLV.out.mono ?_
    rintro e w2 ⟨rfl, hb⟩
    go_wp2
    go_ret
    exact ⟨rfl, hb0.trans (hb.mono hb0.size)⟩
  · simp only [hm, decide_false, Bool.false_or, Nat.not_lt_zero] at HMU
    have HL1 : Hid (∀ W, Below W0.heap.size W0 W → IsL l (.slice a n cap) W) := fun W hW => HL.out.on (hb0.trans (hW.mono hb0.size))
    have hn1 : l.length ≤ 1000000000 := by rw [HN.out]; omega
    have hn2 : l.length < 4611686018427387904 := by omega
    have HN1 := hid' hn1
    have HN2 := hid' hn2
    clear hn1 hn2
    go_enter Try.func5, Try.ntmps5
    go_wp2_with fail
    rw [HW0.out]
    refine HMU.out.mono ?_
    rintro e w1 ⟨rfl, rfl⟩
    go_wp2_with fail
    refine PT.wp_region_tail 30 (PB.phi [PB.E (.slice a n cap), PB.E (.agg #[.int .i64 t1, .int .i64 t2]), PB.E (.bool (advB l (t1, t2))), PB.E (.slice a n cap), PB.E (.agg #[.int .i64 t1, .int .i64 t2]), PB.E (.bool (advB l (t1, t2))), PB.E (.bool true), PB.E (.bool true), PB.E (.slice a n cap), PB.E (.agg #[.int .i64 t1, .int .i64 t2]), PB.E (tv (repT l (t1, t2))), PB.E (.slice a n cap), PB.E (.agg #[.int .i64 t1, .int .i64 t2]), PB.E (tv (repT l (t1, t2))), PB.E (.bool true), PB.E (.bool true), PB.E (.bool true), PB.E (.slice a n cap), IsSteps l, PB.E (.agg #[.int .i64 t1, .int .i64 t2]), PB.E (.bool (advB l (t1, t2))), PB.E (.slice a n cap), PB.E (.agg #[.int .i64 t1, .int .i64 t2]), PB.E (.bool (advB l (t1, t2))), PB.E (.bool true), PB.E (.bool true), PB.E (.bool true), PB.E (.bool true), PB.E (.bool true), PB.E (.bool true)]) mixed (by kernel_rfl)
      (PB.phi_lasts _ ⟨PB.E_lasts _, PB.E_lasts _, PB.E_lasts _, PB.E_lasts _, PB.E_lasts _, PB.E_lasts _, PB.E_lasts _, PB.E_lasts _, PB.E_lasts _, PB.E_lasts _, PB.E_lasts _, PB.E_lasts _, PB.E_lasts _, PB.E_lasts _, PB.E_lasts _, PB.E_lasts _, PB.E_lasts _, PB.E_lasts _, isSteps_lasts _, PB.E_lasts _, PB.E_lasts _, PB.E_lasts _, PB.E_lasts _, PB.E_lasts _, PB.E_lasts _, PB.E_lasts _, PB.E_lasts _, PB.E_lasts _, PB.E_lasts _, PB.E_lasts _, trivial⟩) ?_ ?_
    · refine ⟨?_, ?_, ?_, ?_, ?_, ?_, ?_, ?_, ?_, ?_, ?_, ?_, ?_, ?_, ?_, ?_, ?_, ?_, ?_, ?_, ?_, ?_, ?_, ?_, ?_, ?_, ?_, ?_, ?_, ?_, trivial⟩ <;> intro A W hB hS hA hF
      · exact Or.inl (PB.does_move (PB.wanted_free rfl) rfl (hS.slots 0 rfl))
      · exact Or.inl (PB.does_run (PB.wanted_free rfl) (run_box W (hS.slots 3 rfl) (HBX.out.on hB)) rfl)
      · exact Or.inl (PB.does_call #[.slice a n cap, .agg #[.int .i64 t1, .int .i64 t2]] (PB.wanted_free rfl) rfl Try.func23 rfl rfl (by show [PB.slot A 8, PB.slot A 9] = _; rw [show PB.slot A 8 = .slice a n cap from (hA 0 rfl), show PB.slot A 9 = .agg #[.int .i64 t1, .int .i64 t2] from (hA 1 rfl)]) (Ahead_newB l (t1, t2) _ W (HL1.out W hB) HN2.out))
      · exact Or.inl (PB.does_move (PB.wanted_free rfl) rfl (hS.slots 0 rfl))
      · exact Or.inl (PB.does_run (PB.wanted_free rfl) (run_box W (hS.slots 3 rfl) (HBX.out.on hB)) rfl)
      · exact Or.inl (PB.does_call #[.slice a n cap, .agg #[.int .i64 t1, .int .i64 t2]] (PB.wanted_free rfl) rfl Try.func24 rfl rfl (by show [PB.slot A 11, PB.slot A 12] = _; rw [show PB.slot A 11 = .slice a n cap from (hA 3 rfl), show PB.slot A 12 = .agg #[.int .i64 t1, .int .i64 t2] from (hA 4 rfl)]) (rAhead_newB l (t1, t2) _ W (HL1.out W hB) HN2.out))
      · exact Or.inl (PB.does_bin (PB.wanted_free rfl) rfl (hA 2 rfl) (hA 5 rfl) ((run_eqB W _ _ _ _).trans (by simp)) rfl)
      · exact Or.inl (PB.does_move (PB.wanted_free rfl) rfl (hA 6 rfl))
      · exact Or.inl (PB.does_move (PB.wanted_by rfl rfl (hA 7 rfl)) rfl (hS.slots 0 rfl))
      · exact Or.inl (PB.does_run (PB.wanted_by rfl rfl (hA 7 rfl)) (run_box W (hS.slots 3 rfl) (HBX.out.on hB)) rfl)
      · exact Or.inl (PB.does_call #[.slice a n cap, .agg #[.int .i64 t1, .int .i64 t2]] (PB.wanted_by rfl rfl (hA 7 rfl)) rfl Try.func25 rfl rfl (by show [PB.slot A 16, PB.slot A 17] = _; rw [show PB.slot A 16 = .slice a n cap from (hA 8 rfl), show PB.slot A 17 = .agg #[.int .i64 t1, .int .i64 t2] from (hA 9 rfl)]) (Rep_newB l (t1, t2) _ W (HL1.out W hB) HN1.out))
      · exact Or.inl (PB.does_move (PB.wanted_by rfl rfl (hA 7 rfl)) rfl (hS.slots 0 rfl))
      · exact Or.inl (PB.does_run (PB.wanted_by rfl rfl (hA 7 rfl)) (run_box W (hS.slots 3 rfl) (HBX.out.on hB)) rfl)
      · exact Or.inl (PB.does_call #[.slice a n cap, .agg #[.int .i64 t1, .int .i64 t2]] (PB.wanted_by rfl rfl (hA 7 rfl)) rfl Try.func26 rfl rfl (by show [PB.slot A 19, PB.slot A 20] = _; rw [show PB.slot A 19 = .slice a n cap from (hA 11 rfl), show PB.slot A 20 = .agg #[.int .i64 t1, .int .i64 t2] from (hA 12 rfl)]) (rRep_newB l (t1, t2) _ W (HL1.out W hB) HN1.out))
      · exact Or.inl (PB.does_bin (PB.wanted_by rfl rfl (hA 7 rfl)) rfl (hA 10 rfl) (hA 13 rfl) ((run_eqT W _ _ _ _).trans (by simp)) rfl)
      · exact Or.inl (PB.does_run (PB.wanted_free rfl) (run_pick_then W (hA 7 rfl) (hA 14 rfl)) rfl)
      · exact Or.inl (PB.does_move (PB.wanted_free rfl) rfl (hA 15 rfl))
      · exact Or.inl (PB.does_move (PB.wanted_by rfl rfl (hA 16 rfl)) rfl (hS.slots 0 rfl))
      · exact Or.inl (PB.does_call #[.slice a n cap] (PB.wanted_by rfl rfl (hA 16 rfl)) rfl Try.func11 rfl rfl (by show [PB.slot A 25] = _; rw [show PB.slot A 25 = .slice a n cap from (hA 17 rfl)]) (new_newB l _ W (HL1.out W hB) HN1.out))
      · exact Or.inl (PB.does_run (PB.wanted_by rfl rfl (hA 16 rfl)) (run_box W (hS.slots 3 rfl) (HBX.out.on hB)) rfl)
      · exact Or.inl (PB.does_call #[PB.slot A 26, .agg #[.int .i64 t1, .int .i64 t2]] (PB.wanted_by rfl rfl (hA 16 rfl)) rfl Try.func23 rfl rfl (by show [PB.slot A 26, PB.slot A 27] = _; rw [show PB.slot A 27 = .agg #[.int .i64 t1, .int .i64 t2] from (hA 19 rfl)]) (AheadS_newB l (t1, t2) _ W (hA 18 rfl) HN2.out))
      · exact Or.inl (PB.does_move (PB.wanted_by rfl rfl (hA 16 rfl)) rfl (hS.slots 0 rfl))
      · exact Or.inl (PB.does_run (PB.wanted_by rfl rfl (hA 16 rfl)) (run_box W (hS.slots 3 rfl) (HBX.out.on hB)) rfl)
      · exact Or.inl (PB.does_call #[.slice a n cap, .agg #[.int .i64 t1, .int .i64 t2]] (PB.wanted_by rfl rfl (hA 16 rfl)) rfl Try.func23 rfl rfl (by show [PB.slot A 29, PB.slot A 30] = _; rw [show PB.slot A 29 = .slice a n cap from (hA 21 rfl), show PB.slot A 30 = .agg #[.int .i64 t1, .int .i64 t2] from (hA 22 rfl)]) (Ahead_newB l (t1, t2) _ W (HL1.out W hB) HN2.out))
      · exact Or.inl (PB.does_bin (PB.wanted_by rfl rfl (hA 16 rfl)) rfl (hA 20 rfl) (hA 23 rfl) ((run_eqB W _ _ _ _).trans (by simp)) rfl)
      · exact Or.inl (PB.does_run (PB.wanted_free rfl) (run_pick_then W (hA 16 rfl) (hA 24 rfl)) rfl)
      · exact Or.inl (PB.does_move (PB.wanted_free rfl) rfl (hA 25 rfl))
      · exact Or.inl (PB.does_call #[] (PB.wanted_by rfl rfl (hA 26 rfl)) rfl Try.func10 rfl rfl rfl (live_newB W))
      · exact Or.inl (PB.does_run (PB.wanted_free rfl) (run_pick_then W (hA 26 rfl) (hA 27 rfl)) rfl)
      · exact Or.inl (PB.does_assign (PB.wanted_free rfl) rfl (hA 28 rfl))
    · intro A W hB hS hL
      have h_8 : PB.slot A 8 = .slice a n cap := hL 0 (by decide)
      have h_9 : PB.slot A 9 = .agg #[.int .i64 t1, .int .i64 t2] := hL 1 (by decide)
      have h_10 : PB.slot A 10 = .bool (advB l (t1, t2)) := hL 2 (by decide)
      have h_11 : PB.slot A 11 = .slice a n cap := hL 3 (by decide)
      have h_12 : PB.slot A 12 = .agg #[.int .i64 t1, .int .i64 t2] := hL 4 (by decide)
      have h_13 : PB.slot A 13 = .bool (advB l (t1, t2)) := hL 5 (by decide)
      have h_14 : PB.slot A 14 = .bool true := hL 6 (by decide)
      have h_15 : PB.slot A 15 = .bool true := hL 7 (by decide)
      have h_16 : PB.slot A 16 = .slice a n cap := hL 8 (by decide)
      have h_17 : PB.slot A 17 = .agg #[.int .i64 t1, .int .i64 t2] := hL 9 (by decide)
      have h_18 : PB.slot A 18 = tv (repT l (t1, t2)) := hL 10 (by decide)
      have h_19 : PB.slot A 19 = .slice a n cap := hL 11 (by decide)
      have h_20 : PB.slot A 20 = .agg #[.int .i64 t1, .int .i64 t2] := hL 12 (by decide)
      have h_21 : PB.slot A 21 = tv (repT l (t1, t2)) := hL 13 (by decide)
      have h_22 : PB.slot A 22 = .bool true := hL 14 (by decide)
      have h_23 : PB.slot A 23 = .bool true := hL 15 (by decide)
      have h_24 : PB.slot A 24 = .bool true := hL 16 (by decide)
      have h_25 : PB.slot A 25 = .slice a n cap := hL 17 (by decide)
      have h_27 : PB.slot A 27 = .agg #[.int .i64 t1, .int .i64 t2] := hL 19 (by decide)
      have h_28 : PB.slot A 28 = .bool (advB l (t1, t2)) := hL 20 (by decide)
      have h_29 : PB.slot A 29 = .slice a n cap := hL 21 (by decide)
      have h_30 : PB.slot A 30 = .agg #[.int .i64 t1, .int .i64 t2] := hL 22 (by decide)
      have h_31 : PB.slot A 31 = .bool (advB l (t1, t2)) := hL 23 (by decide)
      have h_32 : PB.slot A 32 = .bool true := hL 24 (by decide)
      have h_33 : PB.slot A 33 = .bool true := hL 25 (by decide)
      have h_34 : PB.slot A 34 = .bool true := hL 26 (by decide)
      have h_35 : PB.slot A 35 = .bool true := hL 27 (by decide)
      have h_36 : PB.slot A 36 = .bool true := hL 28 (by decide)
      have h_4 : PB.slot A 4 = .bool true := hL 29 (by decide)
      have hA := PT.frame_of (A := A) (n := 37) hS.size
      have hd : A.defers = [] := hS.defers
      rw [hd] at hA
      obtain ⟨fr, hf⟩ : ∃ f, PB.slot A = f := ⟨_, rfl⟩
      rw [hf] at hA h_8 h_9 h_10 h_11 h_12 h_13 h_14 h_15 h_16 h_17 h_18 h_19 h_20 h_21 h_22 h_23 h_24 h_25 h_27 h_28 h_29 h_30 h_31 h_32 h_33 h_34 h_35 h_36 h_4
      rw [hA]
      clear hA hf hd hL hS
      simp only [List.range, List.range.loop, List.map_cons, List.map_nil, List.drop_succ_cons, List.drop_zero, h_8, h_9, h_10, h_11, h_12, h_13, h_14, h_15, h_16, h_17, h_18, h_19, h_20, h_21, h_22, h_23, h_24, h_25, h_27, h_28, h_29, h_30, h_31, h_32, h_33, h_34, h_35, h_36, h_4]
      clear h_8 h_9 h_10 h_11 h_12 h_13 h_14 h_15 h_16 h_17 h_18 h_19 h_20 h_21 h_22 h_23 h_24 h_25 h_27 h_28 h_29 h_30 h_31 h_32 h_33 h_34 h_35 h_36 h_4
      go_wp2
      go_ret
      exact ⟨rfl, hb0.trans (hB.mono hb0.size)⟩

end Go.Proofs.Ytaadbjnfnmjkfaa
