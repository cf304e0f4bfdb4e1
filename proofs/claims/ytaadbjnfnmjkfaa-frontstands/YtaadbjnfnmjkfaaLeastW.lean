/-
  What is proved here: the law FrontLeast answers true at every list of times and any two times.
-/
import Derived.Test.YtaadbjnfnmjkfaaTimes
import Derived.Test.YtaadbjnfnmjkfaaTailX
namespace Go.Proofs.Ytaadbjnfnmjkfaa
open Go.RowKit Go.Proofs
set_option linter.unusedVariables false
set_option linter.unusedSimpArgs false

theorem joinT_comm (a b : T) : joinT a b = joinT b a := by
  simp only [joinT, Prod.mk.injEq]; omega

theorem le2_joinR (a b : T) : le2 b (joinT a b) = true := by rw [le2_iff]; simp only [joinT]; omega

theorem foldl_rep {t s : T} : ∀ (r : List T) (m : T), (∀ x ∈ r, joinT t x = joinT s x) → r.foldl (fun m u => meetT m (joinT t u)) m = r.foldl (fun m u => meetT m (joinT s u)) m
  | [], m, _ => rfl
  | x :: r, m, h => by
    simp only [List.foldl_cons]
    rw [h x (by simp)]
    exact foldl_rep r _ (fun y hy => h y (by simp [hy]))

theorem rep_alike (l : List T) (t s : T) (h : ∀ x ∈ l, joinT x t = joinT x s) : repT l t = repT l s := by
  have h' : ∀ x ∈ l, joinT t x = joinT s x := fun x hx => by rw [joinT_comm t x, joinT_comm s x]; exact h x hx
  cases l with
  | nil => rfl
  | cons x r =>
    simp only [repT]
    rw [h' x (by simp)]
    exact foldl_rep r _ (fun y hy => h' y (by simp [hy]))

theorem join_alike {x t s : T} (h1 : le2 s (joinT x t) = true) (h2 : le2 t (joinT x s) = true) : joinT x t = joinT x s := by
  rw [le2_iff] at h1 h2
  simp only [joinT, Prod.mk.injEq] at *
  omega

/-- The two times' variables. -/
structure TwoAt (w : World) (t s : T) (wr : World) : Prop where
  below : Below w.heap.size w wr
  b4 : Box wr w.heap.size t
  b5 : Box wr (w.heap.size + 1) s

theorem TwoAt.on {w : World} {t s : T} {wr wr' : World} (h : TwoAt w t s wr) (hb : Below wr.heap.size wr wr') : TwoAt w t s wr' := ⟨h.below.trans (hb.mono h.below.size), h.b4.on hb, h.b5.on hb⟩

/-- Two values that are no pointers to one block. -/
def Ap (v8 v9 : Value) (w : World) : Prop := (∀ g, v8 = .pointer (some ⟨g, 0, none⟩) → g < w.heap.size) ∧ (∀ g, v9 = .pointer (some ⟨g, 0, none⟩) → g < w.heap.size) ∧ ∀ g, ¬ (v8 = .pointer (some ⟨g, 0, none⟩) ∧ v9 = .pointer (some ⟨g, 0, none⟩))

set_option maxRecDepth 20000 in
set_option maxHeartbeats 4000000 in
theorem least_walk (w : World) (a : Option Addr) (cap : Nat) (l : List T) (t s : T) (h : IsL l (.slice a l.length cap) w) :
    Calls Try.prog 8 #[.slice a l.length cap, .agg #[.int .i64 t.1, .int .i64 t.2], .agg #[.int .i64 s.1, .int .i64 s.2]] w fun e w' => e = .returned (.bool true) ∧ Below w.heap.size w w' := by
  obtain ⟨t1, t2⟩ := t
  obtain ⟨s1, s2⟩ := s
  have mixed : Try.prog.follows .mixedOrders = true := by kernel_rfl
  obtain ⟨n, hn⟩ : ∃ n, l.length = n := ⟨_, rfl⟩
  have HN := hid' hn
  rw [hn] at h ⊢
  have HL := hid' h
  clear h hn
  have HST : Hid (TwoAt w (t1, t2) (s1, s2) ((w.alloc (.cells #[.int .i64 t1, .int .i64 t2] 32)).alloc (.cells #[.int .i64 s1, .int .i64 s2] 32))) := by
    refine ⟨((Below.refl _ w).alloc (Nat.le_refl _) _).alloc (by simp) _, (Box.new w (t1, t2)).alloc _, ?_⟩
    have := Box.new (w.alloc (.cells #[.int .i64 t1, .int .i64 t2] 32)) (s1, s2)
    rwa [World.size_alloc] at this
  have HMU := hid' (much_any ((w.alloc (.cells #[.int .i64 t1, .int .i64 t2] 32)).alloc (.cells #[.int .i64 s1, .int .i64 s2] 32)) a none n 0 cap 0)
  obtain ⟨W0, hW0⟩ : ∃ W0, (w.alloc (.cells #[.int .i64 t1, .int .i64 t2] 32)).alloc (.cells #[.int .i64 s1, .int .i64 s2] 32) = W0 := ⟨_, rfl⟩
  have HW0 := hid' hW0
  rw [hW0] at HST HMU
  clear hW0
  by_cases hm : 40 < n
  · simp only [hm, decide_true, Bool.true_or] at HMU
    have HLV := hid' (live_any W0)
    clear hm
    go_enter Try.func8, Try.ntmps8
    go_wp2_with fail
    rw [HW0.out]
    refine HMU.out.mono ?_
    rintro e w1 ⟨rfl, rfl⟩
    go_wp2_with fail
    refine HLV.out.mono ?_
    rintro e w2 ⟨rfl, hb⟩
    go_wp2
    go_ret
    exact ⟨rfl, HST.out.below.trans (hb.mono HST.out.below.size)⟩
  · simp only [hm, decide_false, Bool.false_or, Nat.not_lt_zero] at HMU
    have hl : n ≤ 1000000000 := by omega
    have HL1 : Hid (l.length ≤ 1000000000) := by unfold Hid; rw [HN.out]; exact hl
    go_enter Try.func8, Try.ntmps8
    go_wp2_with fail
    rw [HW0.out]
    refine HMU.out.mono ?_
    rintro e w1 ⟨rfl, rfl⟩
    go_wp2
    go_loopg [7, 8, 9] n (fun k i v8 v9 wr => ∃ j : Nat, j + k = n ∧ i = .int .i64 (j : Int) ∧ Hid (Ap v8 v9 wr) ∧ Hid (∀ x ∈ l.take j, joinT x (t1, t2) = joinT x (s1, s2)) ∧ Hid (TwoAt w (t1, t2) (s1, s2) wr))
    case atStart => exact ⟨0, by omega, rfl, ⟨fun g h => (by cases h), fun g h => (by cases h), fun g h => (by cases h.1)⟩, fun x hx => by simp at hx, HST⟩
    case round =>
      obtain ⟨j, hj, rfl, hap, hal, hat⟩ := hrel
      cases gk with
      | zero =>
        obtain rfl : j = n := by omega
        have HRP : Hid (repT l (t1, t2) = repT l (s1, s2)) := rep_alike l _ _ (fun x hx => hal.out x (by rw [List.take_of_length_le (Nat.le_of_eq HN.out)]; exact hx))
        have HLW : Hid (∀ W, Below wr.heap.size wr W → IsL l (.slice a j cap) W) := fun W hW => HL.out.on (hat.out.below.trans (hW.mono hat.out.below.size))
        go_wp2_with fail
        refine PT.wp_region_tail 11 (PB.phi [PB.E (.slice a j cap), PB.E (.agg #[.int .i64 t1, .int .i64 t2]), PB.E (tv (repT l (t1, t2))), PB.E (.slice a j cap), PB.E (.agg #[.int .i64 s1, .int .i64 s2]), PB.E (tv (repT l (s1, s2))), PB.E (.bool true), PB.E (.bool true), PB.E (.bool true), PB.E (.bool true), PB.E (.bool true)]) mixed (by kernel_rfl)
          (PB.phi_lasts _ ⟨PB.E_lasts _, PB.E_lasts _, PB.E_lasts _, PB.E_lasts _, PB.E_lasts _, PB.E_lasts _, PB.E_lasts _, PB.E_lasts _, PB.E_lasts _, PB.E_lasts _, PB.E_lasts _, trivial⟩) ?_ ?_
        · refine ⟨?_, ?_, ?_, ?_, ?_, ?_, ?_, ?_, ?_, ?_, ?_, trivial⟩ <;> intro A W hB hS hA hF
          · exact Or.inl (PB.does_move (PB.wanted_free rfl) rfl (hS.slots 0 rfl))
          · exact Or.inl (PB.does_run (PB.wanted_free rfl) (run_box W (hS.slots 4 rfl) (hat.out.b4.on hB)) rfl)
          · exact Or.inl (PB.does_call #[.slice a j cap, .agg #[.int .i64 t1, .int .i64 t2]] (PB.wanted_free rfl) rfl Try.func25 rfl rfl (by show [PB.slot A 48, PB.slot A 49] = _; rw [show PB.slot A 48 = .slice a j cap from (hA 0 rfl), show PB.slot A 49 = .agg #[.int .i64 t1, .int .i64 t2] from (hA 1 rfl)]) (Rep_newB l (t1, t2) _ W (HLW.out W hB) HL1.out))
          · exact Or.inl (PB.does_move (PB.wanted_free rfl) rfl (hS.slots 0 rfl))
          · exact Or.inl (PB.does_run (PB.wanted_free rfl) (run_box W (hS.slots 5 rfl) (hat.out.b5.on hB)) rfl)
          · exact Or.inl (PB.does_call #[.slice a j cap, .agg #[.int .i64 s1, .int .i64 s2]] (PB.wanted_free rfl) rfl Try.func25 rfl rfl (by show [PB.slot A 51, PB.slot A 52] = _; rw [show PB.slot A 51 = .slice a j cap from (hA 3 rfl), show PB.slot A 52 = .agg #[.int .i64 s1, .int .i64 s2] from (hA 4 rfl)]) (Rep_newB l (s1, s2) _ W (HLW.out W hB) HL1.out))
          · exact Or.inl (PB.does_bin (PB.wanted_free rfl) rfl (hA 2 rfl) (hA 5 rfl) ((run_eqT W _ _ _ _).trans (by rw [HRP.out]; simp)) rfl)
          · exact Or.inl (PB.does_move (PB.wanted_free rfl) rfl (hA 6 rfl))
          · exact Or.inl (PB.does_call #[] (PB.wanted_by rfl rfl (hA 7 rfl)) rfl Try.func10 rfl rfl rfl (live_newB W))
          · exact Or.inl (PB.does_run (PB.wanted_free rfl) (run_pick_then W (hA 7 rfl) (hA 8 rfl)) rfl)
          · exact Or.inl (PB.does_assign (PB.wanted_free rfl) rfl (hA 9 rfl))
        · intro A W hB hS hL
          have h_48 : PB.slot A 48 = .slice a j cap := hL 0 (by decide)
          have h_49 : PB.slot A 49 = .agg #[.int .i64 t1, .int .i64 t2] := hL 1 (by decide)
          have h_50 : PB.slot A 50 = tv (repT l (t1, t2)) := hL 2 (by decide)
          have h_51 : PB.slot A 51 = .slice a j cap := hL 3 (by decide)
          have h_52 : PB.slot A 52 = .agg #[.int .i64 s1, .int .i64 s2] := hL 4 (by decide)
          have h_53 : PB.slot A 53 = tv (repT l (s1, s2)) := hL 5 (by decide)
          have h_54 : PB.slot A 54 = .bool true := hL 6 (by decide)
          have h_55 : PB.slot A 55 = .bool true := hL 7 (by decide)
          have h_56 : PB.slot A 56 = .bool true := hL 8 (by decide)
          have h_57 : PB.slot A 57 = .bool true := hL 9 (by decide)
          have h_6 : PB.slot A 6 = .bool true := hL 10 (by decide)
          have hA := PT.frame_of (A := A) (n := 58) hS.size
          have hd : A.defers = [] := hS.defers
          rw [hd] at hA
          obtain ⟨fr, hf⟩ : ∃ f, PB.slot A = f := ⟨_, rfl⟩
          rw [hf] at hA h_48 h_49 h_50 h_51 h_52 h_53 h_54 h_55 h_56 h_57 h_6
          rw [hA]
          clear hA hf hd hL hS
          simp only [List.range, List.range.loop, List.map_cons, List.map_nil, List.drop_succ_cons, List.drop_zero, h_48, h_49, h_50, h_51, h_52, h_53, h_54, h_55, h_56, h_57, h_6]
          clear h_48 h_49 h_50 h_51 h_52 h_53 h_54 h_55 h_56 h_57 h_6
          go_wp2
          go_ret
          exact ⟨rfl, hat.out.below.trans (hB.mono hat.out.below.size)⟩
      | succ k =>
        have hjl : j < l.length := by rw [HN.out]; omega
        obtain ⟨a', cap', e1, hcap, hsl, hts⟩ := HL.out
        simp at e1
        obtain ⟨rfl, -, rfl⟩ := e1
        obtain ⟨b, off, rfl, hBb, hc⟩ := hts.cells (by rintro rfl; simp at hjl)
        have HX : Hid (w.cell? ⟨b, off + j * 2, none⟩ = some (.int .i64 (l.getD j (0, 0)).1) ∧ w.cell? ⟨b, off + j * 2 + 1, none⟩ = some (.int .i64 (l.getD j (0, 0)).2)) := hc j hjl
        have HT : Hid (l.take (j + 1) = l.take j ++ [l.getD j (0, 0)]) := by unfold Hid; rw [List.take_add_one]; simp [List.getD, List.getElem?_eq_getElem hjl]
        have hjn : j < n := by omega
        have HLL := hid' (show IsL l (.slice (some ⟨b, off, none⟩) n cap) w from HL.out)
        generalize l.getD j (0, 0) = x at HX HT
        obtain ⟨x1, x2⟩ := x
        simp only at HX
        clear hc hts hsl hcap HL hjl
        go_wp2_with fail
        refine PX.wp_region_tailX 14 (PB.phi [PB.E (.slice (some ⟨b, off, none⟩) n cap), PB.E (.int .i64 (j : Int)), PB.E (.pointer (some ⟨b, off + j * 2, none⟩)), PB.E (.agg #[.int .i64 x1, .int .i64 x2]), PB.E (.agg #[.int .i64 t1, .int .i64 t2]), PB.E (tv (joinT (x1, x2) (t1, t2))), PB.E (.slice (some ⟨b, off, none⟩) n cap), PB.E (.int .i64 (j : Int)), PB.E (.pointer (some ⟨b, off + j * 2, none⟩)), PB.E (.agg #[.int .i64 x1, .int .i64 x2]), PB.E (.agg #[.int .i64 s1, .int .i64 s2]), PB.E (tv (joinT (x1, x2) (s1, s2))), Nw wr, Nw wr]) (PX.Apart 8 9) hap.out mixed (by kernel_rfl)
          (PB.phi_lasts _ ⟨PB.E_lasts _, PB.E_lasts _, PB.E_lasts _, PB.E_lasts _, PB.E_lasts _, PB.E_lasts _, PB.E_lasts _, PB.E_lasts _, PB.E_lasts _, PB.E_lasts _, PB.E_lasts _, PB.E_lasts _, nw_lasts _, nw_lasts _, trivial⟩) ?_ ?_
        · refine ⟨?_, ?_, ?_, ?_, ?_, ?_, ?_, ?_, ?_, ?_, ?_, ?_, ?_, ?_, trivial⟩ <;> intro A W hB hS hA hF
          · exact Or.inl (PX.does_extra (PB.does_move (PB.wanted_free rfl) rfl (hS.slots 0 rfl)) (fun v w' hb hx => PX.apart_other (by decide) (by decide) hb hx))
          · exact Or.inl (PX.does_extra (PB.does_move (PB.wanted_free rfl) rfl (hS.slots 7 rfl)) (fun v w' hb hx => PX.apart_other (by decide) (by decide) hb hx))
          · exact Or.inl (PX.does_extra (PB.does_run (PB.wanted_free rfl) (run_index W (hA 0 rfl) (hA 1 rfl) hjn hl) rfl) (fun v w' hb hx => PX.apart_other (by decide) (by decide) hb hx))
          · exact Or.inl (PX.does_extra (PB.does_run (PB.wanted_free rfl) (run_load W (hA 2 rfl) (((hat.out.below.trans (hB.mono hat.out.below.size)).cell (p := ⟨b, off + j * 2, none⟩) hBb).trans HX.out.1) (((hat.out.below.trans (hB.mono hat.out.below.size)).cell (p := ⟨b, off + j * 2 + 1, none⟩) hBb).trans HX.out.2)) rfl) (fun v w' hb hx => PX.apart_other (by decide) (by decide) hb hx))
          · exact Or.inl (PX.does_extra (PB.does_run (PB.wanted_free rfl) (run_box W (hS.slots 4 rfl) (hat.out.b4.on hB)) rfl) (fun v w' hb hx => PX.apart_other (by decide) (by decide) hb hx))
          · exact Or.inl (PX.does_extra (PB.does_call #[.agg #[.int .i64 x1, .int .i64 x2], .agg #[.int .i64 t1, .int .i64 t2]] (PB.wanted_free rfl) rfl Try.func28 rfl rfl (by show [PB.slot A 22, PB.slot A 23] = _; rw [show PB.slot A 22 = .agg #[.int .i64 x1, .int .i64 x2] from (hA 3 rfl), show PB.slot A 23 = .agg #[.int .i64 t1, .int .i64 t2] from (hA 4 rfl)]) (rjoin_newB (x1, x2) (t1, t2) W)) (fun v w' hb hx => PX.apart_other (by decide) (by decide) hb hx))
          · exact Or.inl (PX.does_extra (PB.does_move (PB.wanted_free rfl) rfl (hS.slots 0 rfl)) (fun v w' hb hx => PX.apart_other (by decide) (by decide) hb hx))
          · exact Or.inl (PX.does_extra (PB.does_move (PB.wanted_free rfl) rfl (hS.slots 7 rfl)) (fun v w' hb hx => PX.apart_other (by decide) (by decide) hb hx))
          · exact Or.inl (PX.does_extra (PB.does_run (PB.wanted_free rfl) (run_index W (hA 6 rfl) (hA 7 rfl) hjn hl) rfl) (fun v w' hb hx => PX.apart_other (by decide) (by decide) hb hx))
          · exact Or.inl (PX.does_extra (PB.does_run (PB.wanted_free rfl) (run_load W (hA 8 rfl) (((hat.out.below.trans (hB.mono hat.out.below.size)).cell (p := ⟨b, off + j * 2, none⟩) hBb).trans HX.out.1) (((hat.out.below.trans (hB.mono hat.out.below.size)).cell (p := ⟨b, off + j * 2 + 1, none⟩) hBb).trans HX.out.2)) rfl) (fun v w' hb hx => PX.apart_other (by decide) (by decide) hb hx))
          · exact Or.inl (PX.does_extra (PB.does_run (PB.wanted_free rfl) (run_box W (hS.slots 5 rfl) (hat.out.b5.on hB)) rfl) (fun v w' hb hx => PX.apart_other (by decide) (by decide) hb hx))
          · exact Or.inl (PX.does_extra (PB.does_call #[.agg #[.int .i64 x1, .int .i64 x2], .agg #[.int .i64 s1, .int .i64 s2]] (PB.wanted_free rfl) rfl Try.func28 rfl rfl (by show [PB.slot A 28, PB.slot A 29] = _; rw [show PB.slot A 28 = .agg #[.int .i64 x1, .int .i64 x2] from (hA 9 rfl), show PB.slot A 29 = .agg #[.int .i64 s1, .int .i64 s2] from (hA 10 rfl)]) (rjoin_newB (x1, x2) (s1, s2) W)) (fun v w' hb hx => PX.apart_other (by decide) (by decide) hb hx))
          · exact Or.inl (PX.runs_extra (PB.wanted_free rfl) (run_alloc W) ((Below.refl _ W).alloc (Nat.le_refl _) _) ⟨W.heap.size, rfl, hB.size, World.alloc_heap_new W _⟩ (fun hx => PX.apart_left (by decide) (by rw [show A.tmps.size = 58 from hS.size]; decide) hx))
          · exact Or.inl (PX.runs_extra (PB.wanted_free rfl) (run_alloc W) ((Below.refl _ W).alloc (Nat.le_refl _) _) ⟨W.heap.size, rfl, hB.size, World.alloc_heap_new W _⟩ (fun hx => PX.apart_right (by decide) (by rw [show A.tmps.size = 58 from hS.size]; decide) hx))
        · intro A W hB hS hL hX
          have h_19 : PB.slot A 19 = .slice (some ⟨b, off, none⟩) n cap := hL 0 (by decide)
          have h_20 : PB.slot A 20 = .int .i64 (j : Int) := hL 1 (by decide)
          have h_21 : PB.slot A 21 = .pointer (some ⟨b, off + j * 2, none⟩) := hL 2 (by decide)
          have h_22 : PB.slot A 22 = .agg #[.int .i64 x1, .int .i64 x2] := hL 3 (by decide)
          have h_23 : PB.slot A 23 = .agg #[.int .i64 t1, .int .i64 t2] := hL 4 (by decide)
          have h_24 : PB.slot A 24 = tv (joinT (x1, x2) (t1, t2)) := hL 5 (by decide)
          have h_25 : PB.slot A 25 = .slice (some ⟨b, off, none⟩) n cap := hL 6 (by decide)
          have h_26 : PB.slot A 26 = .int .i64 (j : Int) := hL 7 (by decide)
          have h_27 : PB.slot A 27 = .pointer (some ⟨b, off + j * 2, none⟩) := hL 8 (by decide)
          have h_28 : PB.slot A 28 = .agg #[.int .i64 x1, .int .i64 x2] := hL 9 (by decide)
          have h_29 : PB.slot A 29 = .agg #[.int .i64 s1, .int .i64 s2] := hL 10 (by decide)
          have h_30 : PB.slot A 30 = tv (joinT (x1, x2) (s1, s2)) := hL 11 (by decide)
          have nw8 : Nw wr (PB.slot A 8) W := hL 12 (by decide)
          have nw9 : Nw wr (PB.slot A 9) W := hL 13 (by decide)
          have q_0 : PB.slot A 0 = .slice (some ⟨b, off, none⟩) n cap := hS.slots 0 rfl
          have q_4 : PB.slot A 4 = .pointer (some ⟨w.heap.size, 0, none⟩) := hS.slots 4 rfl
          have q_5 : PB.slot A 5 = .pointer (some ⟨w.heap.size + 1, 0, none⟩) := hS.slots 5 rfl
          have q_7 : PB.slot A 7 = .int .i64 (j : Int) := hS.slots 7 rfl
          have q_1 := hS.slots 1 rfl
          have q_2 := hS.slots 2 rfl
          have q_3 := hS.slots 3 rfl
          have q_6 := hS.slots 6 rfl
          have q_10 := hS.slots 10 rfl
          have q_11 := hS.slots 11 rfl
          have q_12 := hS.slots 12 rfl
          have q_13 := hS.slots 13 rfl
          have q_14 := hS.slots 14 rfl
          have q_15 := hS.slots 15 rfl
          have q_16 := hS.slots 16 rfl
          have q_17 := hS.slots 17 rfl
          have q_18 := hS.slots 18 rfl
          have q_31 := hS.slots 31 rfl
          have q_32 := hS.slots 32 rfl
          have q_33 := hS.slots 33 rfl
          have q_34 := hS.slots 34 rfl
          have q_35 := hS.slots 35 rfl
          have q_36 := hS.slots 36 rfl
          have q_37 := hS.slots 37 rfl
          have q_38 := hS.slots 38 rfl
          have q_39 := hS.slots 39 rfl
          have q_40 := hS.slots 40 rfl
          have q_41 := hS.slots 41 rfl
          have q_42 := hS.slots 42 rfl
          have q_43 := hS.slots 43 rfl
          have q_44 := hS.slots 44 rfl
          have q_45 := hS.slots 45 rfl
          have q_46 := hS.slots 46 rfl
          have q_47 := hS.slots 47 rfl
          have q_48 := hS.slots 48 rfl
          have q_49 := hS.slots 49 rfl
          have q_50 := hS.slots 50 rfl
          have q_51 := hS.slots 51 rfl
          have q_52 := hS.slots 52 rfl
          have q_53 := hS.slots 53 rfl
          have q_54 := hS.slots 54 rfl
          have q_55 := hS.slots 55 rfl
          have q_56 := hS.slots 56 rfl
          have q_57 := hS.slots 57 rfl
          simp only [PB.slot, Array.getD_eq_getD_getElem?, List.getElem?_toArray, List.getElem?_cons_succ, List.getElem?_cons_zero, Option.getD_some] at q_1 q_2 q_3 q_6 q_10 q_11 q_12 q_13 q_14 q_15 q_16 q_17 q_18 q_31 q_32 q_33 q_34 q_35 q_36 q_37 q_38 q_39 q_40 q_41 q_42 q_43 q_44 q_45 q_46 q_47 q_48 q_49 q_50 q_51 q_52 q_53 q_54 q_55 q_56 q_57
          have q_1 := (PT.slot_get A 1).trans q_1
          have q_2 := (PT.slot_get A 2).trans q_2
          have q_3 := (PT.slot_get A 3).trans q_3
          have q_6 := (PT.slot_get A 6).trans q_6
          have q_10 := (PT.slot_get A 10).trans q_10
          have q_11 := (PT.slot_get A 11).trans q_11
          have q_12 := (PT.slot_get A 12).trans q_12
          have q_13 := (PT.slot_get A 13).trans q_13
          have q_14 := (PT.slot_get A 14).trans q_14
          have q_15 := (PT.slot_get A 15).trans q_15
          have q_16 := (PT.slot_get A 16).trans q_16
          have q_17 := (PT.slot_get A 17).trans q_17
          have q_18 := (PT.slot_get A 18).trans q_18
          have q_31 := (PT.slot_get A 31).trans q_31
          have q_32 := (PT.slot_get A 32).trans q_32
          have q_33 := (PT.slot_get A 33).trans q_33
          have q_34 := (PT.slot_get A 34).trans q_34
          have q_35 := (PT.slot_get A 35).trans q_35
          have q_36 := (PT.slot_get A 36).trans q_36
          have q_37 := (PT.slot_get A 37).trans q_37
          have q_38 := (PT.slot_get A 38).trans q_38
          have q_39 := (PT.slot_get A 39).trans q_39
          have q_40 := (PT.slot_get A 40).trans q_40
          have q_41 := (PT.slot_get A 41).trans q_41
          have q_42 := (PT.slot_get A 42).trans q_42
          have q_43 := (PT.slot_get A 43).trans q_43
          have q_44 := (PT.slot_get A 44).trans q_44
          have q_45 := (PT.slot_get A 45).trans q_45
          have q_46 := (PT.slot_get A 46).trans q_46
          have q_47 := (PT.slot_get A 47).trans q_47
          have q_48 := (PT.slot_get A 48).trans q_48
          have q_49 := (PT.slot_get A 49).trans q_49
          have q_50 := (PT.slot_get A 50).trans q_50
          have q_51 := (PT.slot_get A 51).trans q_51
          have q_52 := (PT.slot_get A 52).trans q_52
          have q_53 := (PT.slot_get A 53).trans q_53
          have q_54 := (PT.slot_get A 54).trans q_54
          have q_55 := (PT.slot_get A 55).trans q_55
          have q_56 := (PT.slot_get A 56).trans q_56
          have q_57 := (PT.slot_get A 57).trans q_57
          have hA := PT.frame_of (A := A) (n := 58) hS.size
          have hd : A.defers = [] := hS.defers
          rw [hd] at hA
          obtain ⟨fr, hf⟩ : ∃ f, PB.slot A = f := ⟨_, rfl⟩
          rw [hf] at hA h_19 h_20 h_21 h_22 h_23 h_24 h_25 h_26 h_27 h_28 h_29 h_30 q_0 q_4 q_5 q_7 q_1 q_2 q_3 q_6 q_10 q_11 q_12 q_13 q_14 q_15 q_16 q_17 q_18 q_31 q_32 q_33 q_34 q_35 q_36 q_37 q_38 q_39 q_40 q_41 q_42 q_43 q_44 q_45 q_46 q_47 q_48 q_49 q_50 q_51 q_52 q_53 q_54 q_55 q_56 q_57 nw8 nw9
          rw [hA]
          obtain ⟨g8, hg8, hg80, hbox8⟩ := nw8
          obtain ⟨g9, hg9, hg90, hbox9⟩ := nw9
          have hne : g9 ≠ g8 := fun e => by
            subst e
            exact hX.2.2 g9 ⟨by rw [hf]; exact hg8, by rw [hf]; exact hg9⟩
          clear hA hf hd hL hS hX
          simp only [List.range, List.range.loop, List.map_cons, List.map_nil, List.drop_succ_cons, List.drop_zero, h_19, h_20, h_21, h_22, h_23, h_24, h_25, h_26, h_27, h_28, h_29, h_30, q_0, q_4, q_5, q_7, q_1, q_2, q_3, q_6, q_10, q_11, q_12, q_13, q_14, q_15, q_16, q_17, q_18, q_31, q_32, q_33, q_34, q_35, q_36, q_37, q_38, q_39, q_40, q_41, q_42, q_43, q_44, q_45, q_46, q_47, q_48, q_49, q_50, q_51, q_52, q_53, q_54, q_55, q_56, q_57]
          clear h_19 h_20 h_21 h_22 h_23 h_24 h_25 h_26 h_27 h_28 h_29 h_30 q_0 q_4 q_5 q_7 q_1 q_2 q_3 q_6 q_10 q_11 q_12 q_13 q_14 q_15 q_16 q_17 q_18 q_31 q_32 q_33 q_34 q_35 q_36 q_37 q_38 q_39 q_40 q_41 q_42 q_43 q_44 q_45 q_46 q_47 q_48 q_49 q_50 q_51 q_52 q_53 q_54 q_55 q_56 q_57
          rw [hg8, hg9]
          have bx8 : Box W g8 (0, 0) := hbox8
          have bx9 : Box W g9 (0, 0) := hbox9
          have HA2 : Hid (TwoAt w (t1, t2) (s1, s2) W) := hat.out.on hB
          have hsz := hat.out.b5.lt
          have HLE1 : Hid (le2 (t1, t2) (joinT (x1, x2) (t1, t2)) = true) := le2_joinR _ _
          have HLE2 : Hid (le2 (s1, s2) (joinT (x1, x2) (s1, s2)) = true) := le2_joinR _ _
          have HJA : Hid (le2 (s1, s2) (joinT (x1, x2) (t1, t2)) = true → le2 (t1, t2) (joinT (x1, x2) (s1, s2)) = true → ∀ y ∈ l.take (j + 1), joinT y (t1, t2) = joinT y (s1, s2)) := fun h1 h2 y hy => by
            rw [HT.out] at hy
            rcases List.mem_append.1 hy with hy | hy
            · exact hal.out y hy
            · simp at hy; subst hy; exact join_alike h1 h2
          generalize joinT (x1, x2) (t1, t2) = ja at HLE1 HJA
          generalize joinT (x1, x2) (s1, s2) = jb at HLE2 HJA
          obtain ⟨u1, u2⟩ := ja
          obtain ⟨v1, v2⟩ := jb
          obtain ⟨W2, hW2⟩ : ∃ W2, (((W.setCell ⟨g8, 0, none⟩ (.int .i64 u1)).setCell ⟨g8, 1, none⟩ (.int .i64 u2)).setCell ⟨g9, 0, none⟩ (.int .i64 v1)).setCell ⟨g9, 1, none⟩ (.int .i64 v2) = W2 := ⟨_, rfl⟩
          have bx9' : Box ((W.setCell ⟨g8, 0, none⟩ (.int .i64 u1)).setCell ⟨g8, 1, none⟩ (.int .i64 u2)) g9 (0, 0) := (set_other hne _ _).trans bx9
          have HB8 : Hid (Box W2 g8 (u1, u2)) := by unfold Hid; rw [← hW2]; exact (set_other (Ne.symm hne) _ _).trans (bx8.set u1 u2)
          have HB9 : Hid (Box W2 g9 (v1, v2)) := by unfold Hid; rw [← hW2]; exact bx9'.set v1 v2
          have HA3 : Hid (TwoAt w (t1, t2) (s1, s2) W2) := by
            unfold Hid; rw [← hW2]
            exact ⟨set_below (set_below HA2.out.below (by omega) _ _) (by omega) _ _, (set_other (by omega) _ _).trans ((set_other (by omega) _ _).trans HA2.out.b4), (set_other (by omega) _ _).trans ((set_other (by omega) _ _).trans HA2.out.b5)⟩
          have c1 := bx8.c1
          have c2 := bx8.c2
          have c3 := bx8.f1
          have c4 := bx8.f2
          have d1 := bx9'.c1
          have d2 := bx9'.c2
          have d3 := bx9'.f1
          have d4 := bx9'.f2
          simp only [tv] at c1 c2 d1 d2 ⊢
          have HW2 := hid' hW2
          clear hB hbox8 hbox9 hg8 hg9 HA2 bx8 bx9 bx9' hW2 hal hat HT HX
          go_wp2_with fail
          rw [HW2.out]
          clear c1 c2 c3 c4 d1 d2 d3 d4 HW2 hg80 hg90
          obtain ⟨p, hp⟩ : ∃ p, le2 (s1, s2) (u1, u2) = p := ⟨_, rfl⟩
          obtain ⟨q, hq⟩ : ∃ q, le2 (t1, t2) (v1, v2) = q := ⟨_, rfl⟩
          have HP := hid' hp
          have HQ := hid' hq
          clear hp hq
          cases p with
          | false =>
            refine PT.wp_region_tail 16 (PB.phi [PB.E (.agg #[.int .i64 t1, .int .i64 t2]), PB.E (.agg #[.int .i64 u1, .int .i64 u2]), PB.E (.bool true), PB.E (.agg #[.int .i64 s1, .int .i64 s2]), PB.E (.agg #[.int .i64 u1, .int .i64 u2]), PB.E (.bool false), PB.E (.bool true), PB.E (.bool true), PB.E undef, PB.E undef, PB.E undef, PB.E undef, PB.E undef, PB.E undef, PB.E undef, PB.E (.bool true)]) mixed (by kernel_rfl)
              (PB.phi_lasts _ ⟨PB.E_lasts _, PB.E_lasts _, PB.E_lasts _, PB.E_lasts _, PB.E_lasts _, PB.E_lasts _, PB.E_lasts _, PB.E_lasts _, PB.E_lasts _, PB.E_lasts _, PB.E_lasts _, PB.E_lasts _, PB.E_lasts _, PB.E_lasts _, PB.E_lasts _, PB.E_lasts _, trivial⟩) ?_ ?_
            · refine ⟨?_, ?_, ?_, ?_, ?_, ?_, ?_, ?_, ?_, ?_, ?_, ?_, ?_, ?_, ?_, ?_, trivial⟩ <;> intro A W hB hS hA hF
              · exact Or.inl (PB.does_run (PB.wanted_free rfl) (run_box W (hS.slots 4 rfl) (HA3.out.b4.on hB)) rfl)
              · exact Or.inl (PB.does_run (PB.wanted_free rfl) (run_box W (hS.slots 8 rfl) (HB8.out.on hB)) rfl)
              · exact Or.inl (PB.does_call #[.agg #[.int .i64 t1, .int .i64 t2], .agg #[.int .i64 u1, .int .i64 u2]] (PB.wanted_free rfl) rfl Try.func27 rfl rfl (by show [PB.slot A 31, PB.slot A 32] = _; rw [show PB.slot A 31 = .agg #[.int .i64 t1, .int .i64 t2] from (hA 0 rfl), show PB.slot A 32 = .agg #[.int .i64 u1, .int .i64 u2] from (hA 1 rfl)]) (by have := rle_newB (t1, t2) (u1, u2) W; rw [HLE1.out] at this; exact this))
              · exact Or.inl (PB.does_run (PB.wanted_free rfl) (run_box W (hS.slots 5 rfl) (HA3.out.b5.on hB)) rfl)
              · exact Or.inl (PB.does_run (PB.wanted_free rfl) (run_box W (hS.slots 8 rfl) (HB8.out.on hB)) rfl)
              · exact Or.inl (PB.does_call #[.agg #[.int .i64 s1, .int .i64 s2], .agg #[.int .i64 u1, .int .i64 u2]] (PB.wanted_free rfl) rfl Try.func27 rfl rfl (by show [PB.slot A 34, PB.slot A 35] = _; rw [show PB.slot A 34 = .agg #[.int .i64 s1, .int .i64 s2] from (hA 3 rfl), show PB.slot A 35 = .agg #[.int .i64 u1, .int .i64 u2] from (hA 4 rfl)]) (by have := rle_newB (s1, s2) (u1, u2) W; rw [HP.out] at this; exact this))
              · exact Or.inl (PB.does_bin (PB.wanted_free rfl) rfl (hA 2 rfl) (hA 5 rfl) (run_neB W _ _ _ _) rfl)
              · exact Or.inl (PB.does_move (PB.wanted_free rfl) rfl (hA 6 rfl))
              · exact Or.inr ⟨PT.pass_by rfl rfl (hA 7 rfl) (by decide), rfl⟩
              · exact Or.inr ⟨PT.pass_by rfl rfl (hA 7 rfl) (by decide), rfl⟩
              · exact Or.inr ⟨PT.pass_by rfl rfl (hA 7 rfl) (by decide), rfl⟩
              · exact Or.inr ⟨PT.pass_by rfl rfl (hA 7 rfl) (by decide), rfl⟩
              · exact Or.inr ⟨PT.pass_by rfl rfl (hA 7 rfl) (by decide), rfl⟩
              · exact Or.inr ⟨PT.pass_by rfl rfl (hA 7 rfl) (by decide), rfl⟩
              · exact Or.inr ⟨PT.pass_by rfl rfl (hA 7 rfl) (by decide), rfl⟩
              · exact Or.inl (PB.does_run (PB.wanted_free rfl) (run_pick_const W (hA 7 rfl)) rfl)
            · intro A W hB hS hL
              have h_31 : PB.slot A 31 = .agg #[.int .i64 t1, .int .i64 t2] := hL 0 (by decide)
              have h_32 : PB.slot A 32 = .agg #[.int .i64 u1, .int .i64 u2] := hL 1 (by decide)
              have h_33 : PB.slot A 33 = .bool true := hL 2 (by decide)
              have h_34 : PB.slot A 34 = .agg #[.int .i64 s1, .int .i64 s2] := hL 3 (by decide)
              have h_35 : PB.slot A 35 = .agg #[.int .i64 u1, .int .i64 u2] := hL 4 (by decide)
              have h_36 : PB.slot A 36 = .bool false := hL 5 (by decide)
              have h_37 : PB.slot A 37 = .bool true := hL 6 (by decide)
              have h_38 : PB.slot A 38 = .bool true := hL 7 (by decide)
              have h_39 : PB.slot A 39 = undef := hL 8 (by decide)
              have h_40 : PB.slot A 40 = undef := hL 9 (by decide)
              have h_41 : PB.slot A 41 = undef := hL 10 (by decide)
              have h_42 : PB.slot A 42 = undef := hL 11 (by decide)
              have h_43 : PB.slot A 43 = undef := hL 12 (by decide)
              have h_44 : PB.slot A 44 = undef := hL 13 (by decide)
              have h_45 : PB.slot A 45 = undef := hL 14 (by decide)
              have h_46 : PB.slot A 46 = .bool true := hL 15 (by decide)
              have q_0 : PB.slot A 0 = .slice (some ⟨b, off, none⟩) n cap := hS.slots 0 rfl
              have q_4 : PB.slot A 4 = .pointer (some ⟨w.heap.size, 0, none⟩) := hS.slots 4 rfl
              have q_5 : PB.slot A 5 = .pointer (some ⟨w.heap.size + 1, 0, none⟩) := hS.slots 5 rfl
              have q_7 : PB.slot A 7 = .int .i64 (j : Int) := hS.slots 7 rfl
              have q_8 : PB.slot A 8 = .pointer (some ⟨g8, 0, none⟩) := hS.slots 8 rfl
              have q_9 : PB.slot A 9 = .pointer (some ⟨g9, 0, none⟩) := hS.slots 9 rfl
              have hA := PT.frame_of (A := A) (n := 58) hS.size
              have hd : A.defers = [] := hS.defers
              rw [hd] at hA
              obtain ⟨fr, hf⟩ : ∃ f, PB.slot A = f := ⟨_, rfl⟩
              rw [hf] at hA h_31 h_32 h_33 h_34 h_35 h_36 h_37 h_38 h_39 h_40 h_41 h_42 h_43 h_44 h_45 h_46 q_0 q_4 q_5 q_7 q_8 q_9
              rw [hA]
              clear hA hf hd hL hS
              simp only [List.range, List.range.loop, List.map_cons, List.map_nil, List.drop_succ_cons, List.drop_zero, h_31, h_32, h_33, h_34, h_35, h_36, h_37, h_38, h_39, h_40, h_41, h_42, h_43, h_44, h_45, h_46, q_0, q_4, q_5, q_7, q_8, q_9]
              clear h_31 h_32 h_33 h_34 h_35 h_36 h_37 h_38 h_39 h_40 h_41 h_42 h_43 h_44 h_45 h_46 q_0 q_4 q_5 q_7 q_8 q_9
              have hbW := HA3.out.below.trans (hB.mono HA3.out.below.size)
              go_wp2_with fail
              refine (live_any _).mono ?_
              rintro e w2 ⟨rfl, hb2⟩
              go_wp2
              go_ret
              exact ⟨rfl, hbW.trans (hb2.mono hbW.size)⟩
          | true =>
            cases q with
            | false =>
              refine PT.wp_region_tail 16 (PB.phi [PB.E (.agg #[.int .i64 t1, .int .i64 t2]), PB.E (.agg #[.int .i64 u1, .int .i64 u2]), PB.E (.bool true), PB.E (.agg #[.int .i64 s1, .int .i64 s2]), PB.E (.agg #[.int .i64 u1, .int .i64 u2]), PB.E (.bool true), PB.E (.bool false), PB.E (.bool false), PB.E (.agg #[.int .i64 t1, .int .i64 t2]), PB.E (.agg #[.int .i64 v1, .int .i64 v2]), PB.E (.bool false), PB.E (.agg #[.int .i64 s1, .int .i64 s2]), PB.E (.agg #[.int .i64 v1, .int .i64 v2]), PB.E (.bool true), PB.E (.bool true), PB.E (.bool true)]) mixed (by kernel_rfl)
                (PB.phi_lasts _ ⟨PB.E_lasts _, PB.E_lasts _, PB.E_lasts _, PB.E_lasts _, PB.E_lasts _, PB.E_lasts _, PB.E_lasts _, PB.E_lasts _, PB.E_lasts _, PB.E_lasts _, PB.E_lasts _, PB.E_lasts _, PB.E_lasts _, PB.E_lasts _, PB.E_lasts _, PB.E_lasts _, trivial⟩) ?_ ?_
              · refine ⟨?_, ?_, ?_, ?_, ?_, ?_, ?_, ?_, ?_, ?_, ?_, ?_, ?_, ?_, ?_, ?_, trivial⟩ <;> intro A W hB hS hA hF
                · exact Or.inl (PB.does_run (PB.wanted_free rfl) (run_box W (hS.slots 4 rfl) (HA3.out.b4.on hB)) rfl)
                · exact Or.inl (PB.does_run (PB.wanted_free rfl) (run_box W (hS.slots 8 rfl) (HB8.out.on hB)) rfl)
                · exact Or.inl (PB.does_call #[.agg #[.int .i64 t1, .int .i64 t2], .agg #[.int .i64 u1, .int .i64 u2]] (PB.wanted_free rfl) rfl Try.func27 rfl rfl (by show [PB.slot A 31, PB.slot A 32] = _; rw [show PB.slot A 31 = .agg #[.int .i64 t1, .int .i64 t2] from (hA 0 rfl), show PB.slot A 32 = .agg #[.int .i64 u1, .int .i64 u2] from (hA 1 rfl)]) (by have := rle_newB (t1, t2) (u1, u2) W; rw [HLE1.out] at this; exact this))
                · exact Or.inl (PB.does_run (PB.wanted_free rfl) (run_box W (hS.slots 5 rfl) (HA3.out.b5.on hB)) rfl)
                · exact Or.inl (PB.does_run (PB.wanted_free rfl) (run_box W (hS.slots 8 rfl) (HB8.out.on hB)) rfl)
                · exact Or.inl (PB.does_call #[.agg #[.int .i64 s1, .int .i64 s2], .agg #[.int .i64 u1, .int .i64 u2]] (PB.wanted_free rfl) rfl Try.func27 rfl rfl (by show [PB.slot A 34, PB.slot A 35] = _; rw [show PB.slot A 34 = .agg #[.int .i64 s1, .int .i64 s2] from (hA 3 rfl), show PB.slot A 35 = .agg #[.int .i64 u1, .int .i64 u2] from (hA 4 rfl)]) (by have := rle_newB (s1, s2) (u1, u2) W; rw [HP.out] at this; exact this))
                · exact Or.inl (PB.does_bin (PB.wanted_free rfl) rfl (hA 2 rfl) (hA 5 rfl) (run_neB W _ _ _ _) rfl)
                · exact Or.inl (PB.does_move (PB.wanted_free rfl) rfl (hA 6 rfl))
                · exact Or.inl (PB.does_run (PB.wanted_by rfl rfl (hA 7 rfl)) (run_box W (hS.slots 4 rfl) (HA3.out.b4.on hB)) rfl)
                · exact Or.inl (PB.does_run (PB.wanted_by rfl rfl (hA 7 rfl)) (run_box W (hS.slots 9 rfl) (HB9.out.on hB)) rfl)
                · exact Or.inl (PB.does_call #[.agg #[.int .i64 t1, .int .i64 t2], .agg #[.int .i64 v1, .int .i64 v2]] (PB.wanted_by rfl rfl (hA 7 rfl)) rfl Try.func27 rfl rfl (by show [PB.slot A 39, PB.slot A 40] = _; rw [show PB.slot A 39 = .agg #[.int .i64 t1, .int .i64 t2] from (hA 8 rfl), show PB.slot A 40 = .agg #[.int .i64 v1, .int .i64 v2] from (hA 9 rfl)]) (by have := rle_newB (t1, t2) (v1, v2) W; rw [HQ.out] at this; exact this))
                · exact Or.inl (PB.does_run (PB.wanted_by rfl rfl (hA 7 rfl)) (run_box W (hS.slots 5 rfl) (HA3.out.b5.on hB)) rfl)
                · exact Or.inl (PB.does_run (PB.wanted_by rfl rfl (hA 7 rfl)) (run_box W (hS.slots 9 rfl) (HB9.out.on hB)) rfl)
                · exact Or.inl (PB.does_call #[.agg #[.int .i64 s1, .int .i64 s2], .agg #[.int .i64 v1, .int .i64 v2]] (PB.wanted_by rfl rfl (hA 7 rfl)) rfl Try.func27 rfl rfl (by show [PB.slot A 42, PB.slot A 43] = _; rw [show PB.slot A 42 = .agg #[.int .i64 s1, .int .i64 s2] from (hA 11 rfl), show PB.slot A 43 = .agg #[.int .i64 v1, .int .i64 v2] from (hA 12 rfl)]) (by have := rle_newB (s1, s2) (v1, v2) W; rw [HLE2.out] at this; exact this))
                · exact Or.inl (PB.does_bin (PB.wanted_by rfl rfl (hA 7 rfl)) rfl (hA 10 rfl) (hA 13 rfl) (run_neB W _ _ _ _) rfl)
                · exact Or.inl (PB.does_run (PB.wanted_free rfl) (run_pick_else W (hA 7 rfl) (hA 14 rfl)) rfl)
              · intro A W hB hS hL
                have h_31 : PB.slot A 31 = .agg #[.int .i64 t1, .int .i64 t2] := hL 0 (by decide)
                have h_32 : PB.slot A 32 = .agg #[.int .i64 u1, .int .i64 u2] := hL 1 (by decide)
                have h_33 : PB.slot A 33 = .bool true := hL 2 (by decide)
                have h_34 : PB.slot A 34 = .agg #[.int .i64 s1, .int .i64 s2] := hL 3 (by decide)
                have h_35 : PB.slot A 35 = .agg #[.int .i64 u1, .int .i64 u2] := hL 4 (by decide)
                have h_36 : PB.slot A 36 = .bool true := hL 5 (by decide)
                have h_37 : PB.slot A 37 = .bool false := hL 6 (by decide)
                have h_38 : PB.slot A 38 = .bool false := hL 7 (by decide)
                have h_39 : PB.slot A 39 = .agg #[.int .i64 t1, .int .i64 t2] := hL 8 (by decide)
                have h_40 : PB.slot A 40 = .agg #[.int .i64 v1, .int .i64 v2] := hL 9 (by decide)
                have h_41 : PB.slot A 41 = .bool false := hL 10 (by decide)
                have h_42 : PB.slot A 42 = .agg #[.int .i64 s1, .int .i64 s2] := hL 11 (by decide)
                have h_43 : PB.slot A 43 = .agg #[.int .i64 v1, .int .i64 v2] := hL 12 (by decide)
                have h_44 : PB.slot A 44 = .bool true := hL 13 (by decide)
                have h_45 : PB.slot A 45 = .bool true := hL 14 (by decide)
                have h_46 : PB.slot A 46 = .bool true := hL 15 (by decide)
                have q_0 : PB.slot A 0 = .slice (some ⟨b, off, none⟩) n cap := hS.slots 0 rfl
                have q_4 : PB.slot A 4 = .pointer (some ⟨w.heap.size, 0, none⟩) := hS.slots 4 rfl
                have q_5 : PB.slot A 5 = .pointer (some ⟨w.heap.size + 1, 0, none⟩) := hS.slots 5 rfl
                have q_7 : PB.slot A 7 = .int .i64 (j : Int) := hS.slots 7 rfl
                have q_8 : PB.slot A 8 = .pointer (some ⟨g8, 0, none⟩) := hS.slots 8 rfl
                have q_9 : PB.slot A 9 = .pointer (some ⟨g9, 0, none⟩) := hS.slots 9 rfl
                have hA := PT.frame_of (A := A) (n := 58) hS.size
                have hd : A.defers = [] := hS.defers
                rw [hd] at hA
                obtain ⟨fr, hf⟩ : ∃ f, PB.slot A = f := ⟨_, rfl⟩
                rw [hf] at hA h_31 h_32 h_33 h_34 h_35 h_36 h_37 h_38 h_39 h_40 h_41 h_42 h_43 h_44 h_45 h_46 q_0 q_4 q_5 q_7 q_8 q_9
                rw [hA]
                clear hA hf hd hL hS
                simp only [List.range, List.range.loop, List.map_cons, List.map_nil, List.drop_succ_cons, List.drop_zero, h_31, h_32, h_33, h_34, h_35, h_36, h_37, h_38, h_39, h_40, h_41, h_42, h_43, h_44, h_45, h_46, q_0, q_4, q_5, q_7, q_8, q_9]
                clear h_31 h_32 h_33 h_34 h_35 h_36 h_37 h_38 h_39 h_40 h_41 h_42 h_43 h_44 h_45 h_46 q_0 q_4 q_5 q_7 q_8 q_9
                have hbW := HA3.out.below.trans (hB.mono HA3.out.below.size)
                go_wp2_with fail
                refine (live_any _).mono ?_
                rintro e w2 ⟨rfl, hb2⟩
                go_wp2
                go_ret
                exact ⟨rfl, hbW.trans (hb2.mono hbW.size)⟩
            | true =>
              refine PT.wp_region_tail 16 (PB.phi [PB.E (.agg #[.int .i64 t1, .int .i64 t2]), PB.E (.agg #[.int .i64 u1, .int .i64 u2]), PB.E (.bool true), PB.E (.agg #[.int .i64 s1, .int .i64 s2]), PB.E (.agg #[.int .i64 u1, .int .i64 u2]), PB.E (.bool true), PB.E (.bool false), PB.E (.bool false), PB.E (.agg #[.int .i64 t1, .int .i64 t2]), PB.E (.agg #[.int .i64 v1, .int .i64 v2]), PB.E (.bool true), PB.E (.agg #[.int .i64 s1, .int .i64 s2]), PB.E (.agg #[.int .i64 v1, .int .i64 v2]), PB.E (.bool true), PB.E (.bool false), PB.E (.bool false)]) mixed (by kernel_rfl)
                (PB.phi_lasts _ ⟨PB.E_lasts _, PB.E_lasts _, PB.E_lasts _, PB.E_lasts _, PB.E_lasts _, PB.E_lasts _, PB.E_lasts _, PB.E_lasts _, PB.E_lasts _, PB.E_lasts _, PB.E_lasts _, PB.E_lasts _, PB.E_lasts _, PB.E_lasts _, PB.E_lasts _, PB.E_lasts _, trivial⟩) ?_ ?_
              · refine ⟨?_, ?_, ?_, ?_, ?_, ?_, ?_, ?_, ?_, ?_, ?_, ?_, ?_, ?_, ?_, ?_, trivial⟩ <;> intro A W hB hS hA hF
                · exact Or.inl (PB.does_run (PB.wanted_free rfl) (run_box W (hS.slots 4 rfl) (HA3.out.b4.on hB)) rfl)
                · exact Or.inl (PB.does_run (PB.wanted_free rfl) (run_box W (hS.slots 8 rfl) (HB8.out.on hB)) rfl)
                · exact Or.inl (PB.does_call #[.agg #[.int .i64 t1, .int .i64 t2], .agg #[.int .i64 u1, .int .i64 u2]] (PB.wanted_free rfl) rfl Try.func27 rfl rfl (by show [PB.slot A 31, PB.slot A 32] = _; rw [show PB.slot A 31 = .agg #[.int .i64 t1, .int .i64 t2] from (hA 0 rfl), show PB.slot A 32 = .agg #[.int .i64 u1, .int .i64 u2] from (hA 1 rfl)]) (by have := rle_newB (t1, t2) (u1, u2) W; rw [HLE1.out] at this; exact this))
                · exact Or.inl (PB.does_run (PB.wanted_free rfl) (run_box W (hS.slots 5 rfl) (HA3.out.b5.on hB)) rfl)
                · exact Or.inl (PB.does_run (PB.wanted_free rfl) (run_box W (hS.slots 8 rfl) (HB8.out.on hB)) rfl)
                · exact Or.inl (PB.does_call #[.agg #[.int .i64 s1, .int .i64 s2], .agg #[.int .i64 u1, .int .i64 u2]] (PB.wanted_free rfl) rfl Try.func27 rfl rfl (by show [PB.slot A 34, PB.slot A 35] = _; rw [show PB.slot A 34 = .agg #[.int .i64 s1, .int .i64 s2] from (hA 3 rfl), show PB.slot A 35 = .agg #[.int .i64 u1, .int .i64 u2] from (hA 4 rfl)]) (by have := rle_newB (s1, s2) (u1, u2) W; rw [HP.out] at this; exact this))
                · exact Or.inl (PB.does_bin (PB.wanted_free rfl) rfl (hA 2 rfl) (hA 5 rfl) (run_neB W _ _ _ _) rfl)
                · exact Or.inl (PB.does_move (PB.wanted_free rfl) rfl (hA 6 rfl))
                · exact Or.inl (PB.does_run (PB.wanted_by rfl rfl (hA 7 rfl)) (run_box W (hS.slots 4 rfl) (HA3.out.b4.on hB)) rfl)
                · exact Or.inl (PB.does_run (PB.wanted_by rfl rfl (hA 7 rfl)) (run_box W (hS.slots 9 rfl) (HB9.out.on hB)) rfl)
                · exact Or.inl (PB.does_call #[.agg #[.int .i64 t1, .int .i64 t2], .agg #[.int .i64 v1, .int .i64 v2]] (PB.wanted_by rfl rfl (hA 7 rfl)) rfl Try.func27 rfl rfl (by show [PB.slot A 39, PB.slot A 40] = _; rw [show PB.slot A 39 = .agg #[.int .i64 t1, .int .i64 t2] from (hA 8 rfl), show PB.slot A 40 = .agg #[.int .i64 v1, .int .i64 v2] from (hA 9 rfl)]) (by have := rle_newB (t1, t2) (v1, v2) W; rw [HQ.out] at this; exact this))
                · exact Or.inl (PB.does_run (PB.wanted_by rfl rfl (hA 7 rfl)) (run_box W (hS.slots 5 rfl) (HA3.out.b5.on hB)) rfl)
                · exact Or.inl (PB.does_run (PB.wanted_by rfl rfl (hA 7 rfl)) (run_box W (hS.slots 9 rfl) (HB9.out.on hB)) rfl)
                · exact Or.inl (PB.does_call #[.agg #[.int .i64 s1, .int .i64 s2], .agg #[.int .i64 v1, .int .i64 v2]] (PB.wanted_by rfl rfl (hA 7 rfl)) rfl Try.func27 rfl rfl (by show [PB.slot A 42, PB.slot A 43] = _; rw [show PB.slot A 42 = .agg #[.int .i64 s1, .int .i64 s2] from (hA 11 rfl), show PB.slot A 43 = .agg #[.int .i64 v1, .int .i64 v2] from (hA 12 rfl)]) (by have := rle_newB (s1, s2) (v1, v2) W; rw [HLE2.out] at this; exact this))
                · exact Or.inl (PB.does_bin (PB.wanted_by rfl rfl (hA 7 rfl)) rfl (hA 10 rfl) (hA 13 rfl) (run_neB W _ _ _ _) rfl)
                · exact Or.inl (PB.does_run (PB.wanted_free rfl) (run_pick_else W (hA 7 rfl) (hA 14 rfl)) rfl)
              · intro A W hB hS hL
                have h_31 : PB.slot A 31 = .agg #[.int .i64 t1, .int .i64 t2] := hL 0 (by decide)
                have h_32 : PB.slot A 32 = .agg #[.int .i64 u1, .int .i64 u2] := hL 1 (by decide)
                have h_33 : PB.slot A 33 = .bool true := hL 2 (by decide)
                have h_34 : PB.slot A 34 = .agg #[.int .i64 s1, .int .i64 s2] := hL 3 (by decide)
                have h_35 : PB.slot A 35 = .agg #[.int .i64 u1, .int .i64 u2] := hL 4 (by decide)
                have h_36 : PB.slot A 36 = .bool true := hL 5 (by decide)
                have h_37 : PB.slot A 37 = .bool false := hL 6 (by decide)
                have h_38 : PB.slot A 38 = .bool false := hL 7 (by decide)
                have h_39 : PB.slot A 39 = .agg #[.int .i64 t1, .int .i64 t2] := hL 8 (by decide)
                have h_40 : PB.slot A 40 = .agg #[.int .i64 v1, .int .i64 v2] := hL 9 (by decide)
                have h_41 : PB.slot A 41 = .bool true := hL 10 (by decide)
                have h_42 : PB.slot A 42 = .agg #[.int .i64 s1, .int .i64 s2] := hL 11 (by decide)
                have h_43 : PB.slot A 43 = .agg #[.int .i64 v1, .int .i64 v2] := hL 12 (by decide)
                have h_44 : PB.slot A 44 = .bool true := hL 13 (by decide)
                have h_45 : PB.slot A 45 = .bool false := hL 14 (by decide)
                have h_46 : PB.slot A 46 = .bool false := hL 15 (by decide)
                have q_0 : PB.slot A 0 = .slice (some ⟨b, off, none⟩) n cap := hS.slots 0 rfl
                have q_4 : PB.slot A 4 = .pointer (some ⟨w.heap.size, 0, none⟩) := hS.slots 4 rfl
                have q_5 : PB.slot A 5 = .pointer (some ⟨w.heap.size + 1, 0, none⟩) := hS.slots 5 rfl
                have q_7 : PB.slot A 7 = .int .i64 (j : Int) := hS.slots 7 rfl
                have q_8 : PB.slot A 8 = .pointer (some ⟨g8, 0, none⟩) := hS.slots 8 rfl
                have q_9 : PB.slot A 9 = .pointer (some ⟨g9, 0, none⟩) := hS.slots 9 rfl
                have q_1 := hS.slots 1 rfl
                have q_2 := hS.slots 2 rfl
                have q_3 := hS.slots 3 rfl
                have q_6 := hS.slots 6 rfl
                have q_10 := hS.slots 10 rfl
                have q_11 := hS.slots 11 rfl
                have q_12 := hS.slots 12 rfl
                have q_13 := hS.slots 13 rfl
                have q_14 := hS.slots 14 rfl
                have q_15 := hS.slots 15 rfl
                have q_16 := hS.slots 16 rfl
                have q_17 := hS.slots 17 rfl
                have q_18 := hS.slots 18 rfl
                have q_19 := hS.slots 19 rfl
                have q_20 := hS.slots 20 rfl
                have q_21 := hS.slots 21 rfl
                have q_22 := hS.slots 22 rfl
                have q_23 := hS.slots 23 rfl
                have q_24 := hS.slots 24 rfl
                have q_25 := hS.slots 25 rfl
                have q_26 := hS.slots 26 rfl
                have q_27 := hS.slots 27 rfl
                have q_28 := hS.slots 28 rfl
                have q_29 := hS.slots 29 rfl
                have q_30 := hS.slots 30 rfl
                have q_47 := hS.slots 47 rfl
                have q_48 := hS.slots 48 rfl
                have q_49 := hS.slots 49 rfl
                have q_50 := hS.slots 50 rfl
                have q_51 := hS.slots 51 rfl
                have q_52 := hS.slots 52 rfl
                have q_53 := hS.slots 53 rfl
                have q_54 := hS.slots 54 rfl
                have q_55 := hS.slots 55 rfl
                have q_56 := hS.slots 56 rfl
                have q_57 := hS.slots 57 rfl
                simp only [PB.slot, Array.getD_eq_getD_getElem?, List.getElem?_toArray, List.getElem?_cons_succ, List.getElem?_cons_zero, Option.getD_some] at q_1 q_2 q_3 q_6 q_10 q_11 q_12 q_13 q_14 q_15 q_16 q_17 q_18 q_19 q_20 q_21 q_22 q_23 q_24 q_25 q_26 q_27 q_28 q_29 q_30 q_47 q_48 q_49 q_50 q_51 q_52 q_53 q_54 q_55 q_56 q_57
                have q_1 := (PT.slot_get A 1).trans q_1
                have q_2 := (PT.slot_get A 2).trans q_2
                have q_3 := (PT.slot_get A 3).trans q_3
                have q_6 := (PT.slot_get A 6).trans q_6
                have q_10 := (PT.slot_get A 10).trans q_10
                have q_11 := (PT.slot_get A 11).trans q_11
                have q_12 := (PT.slot_get A 12).trans q_12
                have q_13 := (PT.slot_get A 13).trans q_13
                have q_14 := (PT.slot_get A 14).trans q_14
                have q_15 := (PT.slot_get A 15).trans q_15
                have q_16 := (PT.slot_get A 16).trans q_16
                have q_17 := (PT.slot_get A 17).trans q_17
                have q_18 := (PT.slot_get A 18).trans q_18
                have q_19 := (PT.slot_get A 19).trans q_19
                have q_20 := (PT.slot_get A 20).trans q_20
                have q_21 := (PT.slot_get A 21).trans q_21
                have q_22 := (PT.slot_get A 22).trans q_22
                have q_23 := (PT.slot_get A 23).trans q_23
                have q_24 := (PT.slot_get A 24).trans q_24
                have q_25 := (PT.slot_get A 25).trans q_25
                have q_26 := (PT.slot_get A 26).trans q_26
                have q_27 := (PT.slot_get A 27).trans q_27
                have q_28 := (PT.slot_get A 28).trans q_28
                have q_29 := (PT.slot_get A 29).trans q_29
                have q_30 := (PT.slot_get A 30).trans q_30
                have q_47 := (PT.slot_get A 47).trans q_47
                have q_48 := (PT.slot_get A 48).trans q_48
                have q_49 := (PT.slot_get A 49).trans q_49
                have q_50 := (PT.slot_get A 50).trans q_50
                have q_51 := (PT.slot_get A 51).trans q_51
                have q_52 := (PT.slot_get A 52).trans q_52
                have q_53 := (PT.slot_get A 53).trans q_53
                have q_54 := (PT.slot_get A 54).trans q_54
                have q_55 := (PT.slot_get A 55).trans q_55
                have q_56 := (PT.slot_get A 56).trans q_56
                have q_57 := (PT.slot_get A 57).trans q_57
                have hA := PT.frame_of (A := A) (n := 58) hS.size
                have hd : A.defers = [] := hS.defers
                rw [hd] at hA
                obtain ⟨fr, hf⟩ : ∃ f, PB.slot A = f := ⟨_, rfl⟩
                rw [hf] at hA h_31 h_32 h_33 h_34 h_35 h_36 h_37 h_38 h_39 h_40 h_41 h_42 h_43 h_44 h_45 h_46 q_0 q_4 q_5 q_7 q_8 q_9 q_1 q_2 q_3 q_6 q_10 q_11 q_12 q_13 q_14 q_15 q_16 q_17 q_18 q_19 q_20 q_21 q_22 q_23 q_24 q_25 q_26 q_27 q_28 q_29 q_30 q_47 q_48 q_49 q_50 q_51 q_52 q_53 q_54 q_55 q_56 q_57
                rw [hA]
                clear hA hf hd hL hS
                simp only [List.range, List.range.loop, List.map_cons, List.map_nil, List.drop_succ_cons, List.drop_zero, h_31, h_32, h_33, h_34, h_35, h_36, h_37, h_38, h_39, h_40, h_41, h_42, h_43, h_44, h_45, h_46, q_0, q_4, q_5, q_7, q_8, q_9, q_1, q_2, q_3, q_6, q_10, q_11, q_12, q_13, q_14, q_15, q_16, q_17, q_18, q_19, q_20, q_21, q_22, q_23, q_24, q_25, q_26, q_27, q_28, q_29, q_30, q_47, q_48, q_49, q_50, q_51, q_52, q_53, q_54, q_55, q_56, q_57]
                clear h_31 h_32 h_33 h_34 h_35 h_36 h_37 h_38 h_39 h_40 h_41 h_42 h_43 h_44 h_45 h_46 q_0 q_4 q_5 q_7 q_8 q_9 q_1 q_2 q_3 q_6 q_10 q_11 q_12 q_13 q_14 q_15 q_16 q_17 q_18 q_19 q_20 q_21 q_22 q_23 q_24 q_25 q_26 q_27 q_28 q_29 q_30 q_47 q_48 q_49 q_50 q_51 q_52 q_53 q_54 q_55 q_56 q_57
                have HA4 : Hid (TwoAt w (t1, t2) (s1, s2) W) := HA3.out.on hB
                go_wp2
                go_roundg k
                case measure => omega
                case rel =>
                  refine ⟨j + 1, by omega, by simp, ?_, HJA.out HP.out HQ.out, HA4⟩
                  refine ⟨fun g h => ?_, fun g h => ?_, fun g h => ?_⟩
                  · simp at h; subst h; exact (HB8.out.on hB).lt
                  · simp at h; subst h; exact (HB9.out.on hB).lt
                  · obtain ⟨h1, h2⟩ := h; simp at h1 h2; omega

end Go.Proofs.Ytaadbjnfnmjkfaa
