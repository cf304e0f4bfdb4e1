/-
  What is proved here: Rep of the document.
-/
import Derived.Test.YtaadbjnfnmjkfaaRep
namespace Go.Proofs.Ytaadbjnfnmjkfaa
open Go.RowKit Go.Proofs
set_option linter.unusedVariables false
set_option linter.unusedSimpArgs false

theorem meetT_self (x : T) : meetT x x = x := by simp [meetT]

set_option maxHeartbeats 2000000 in
theorem rRep_any (w : World) (a : Option Addr) (cap : Nat) (l : List T) (t : T) (h : Ts w.heap.size w a l) (hl : l.length ≤ 1000000000) :
    Calls Try.prog 26 #[.slice a l.length cap, .agg #[.int .i64 t.1, .int .i64 t.2]] w fun e w' => e = .returned (tv (repT l t)) ∧ Below w.heap.size w w' := by
  obtain ⟨t1, t2⟩ := t
  have mixed : Try.prog.follows .mixedOrders = true := by kernel_rfl
  obtain ⟨n, hn⟩ : ∃ n, l.length = n := ⟨_, rfl⟩
  have HN := hid' hn
  have HTS := hid' h
  rw [hn] at hl ⊢
  clear h hn
  obtain ⟨r, hr⟩ : ∃ r, repT l (t1, t2) = r := ⟨_, rfl⟩
  have HR := hid' hr
  rw [hr]
  clear hr
  have HST : Hid (RepAt w (w.heap.size + 1 + 1) (t1, t2) (0, 0) (((w.alloc (.cells #[.int .i64 t1, .int .i64 t2] 32)).alloc (.cells #[.int .i64 0, .int .i64 0] 32)).alloc (.cells #[.int .i64 0, .int .i64 0] 32))) := by
    refine ⟨(((Below.refl _ w).alloc (Nat.le_refl _) _).alloc (by simp) _).alloc (by simp; omega) _, ((Box.new w (t1, t2)).alloc _).alloc _, ?_, ?_⟩
    · have := (Box.new (w.alloc (.cells #[.int .i64 t1, .int .i64 t2] 32)) (0, 0)).alloc (.cells #[.int .i64 0, .int .i64 0] 32)
      rwa [World.size_alloc] at this
    · have := Box.new ((w.alloc (.cells #[.int .i64 t1, .int .i64 t2] 32)).alloc (.cells #[.int .i64 0, .int .i64 0] 32)) (0, 0)
      rwa [World.size_alloc, World.size_alloc] at this
  go_enter Try.func26, Try.ntmps26
  go_wp2
  go_loopg [6] n (fun k i wr => ∃ j : Nat, j + k = n ∧ i = .int .i64 (j : Int) ∧ Hid (RepAt w (w.heap.size + 1 + 1) (t1, t2) (repT (l.take j) (t1, t2)) wr))
  case atStart => exact ⟨0, by omega, rfl, by rw [List.take_zero]; exact HST⟩
  case round =>
    obtain ⟨j, hj, rfl, hat⟩ := hrel
    cases gk with
    | zero =>
      obtain rfl : j = n := by omega
      have hr : repT (l.take j) (t1, t2) = r := by rw [← HR.out, List.take_of_length_le (Nat.le_of_eq HN.out)]
      rw [hr] at hat
      have b1 := hat.out.bg.c1
      have b2 := hat.out.bg.c2
      have b3 := hat.out.b4.c1
      have b4 := hat.out.b4.c2
      have b5 := hat.out.b4.f1
      have b6 := hat.out.b4.f2
      simp only at b3 b4
      clear hr
      obtain ⟨r1, r2⟩ := r
      simp only at b1 b2
      go_wp2
      (try simp only [Exit.inBlock, Exit.then])
      refine bodyPost_ret (v := tv (r1, r2)) ?_ rfl ⟨rfl, ?_⟩
      · unfold results; go_simp; simp [tv]
      · exact set_below hat.out.below (by omega) _ _
    | succ k =>
      have hjl : j < l.length := by rw [HN.out]; omega
      obtain ⟨b, off, rfl, hBb, hc⟩ := HTS.out.cells (by rintro rfl; simp at hjl)
      have HX : Hid (w.cell? ⟨b, off + j * 2, none⟩ = some (.int .i64 (l.getD j (0, 0)).1) ∧ w.cell? ⟨b, off + j * 2 + 1, none⟩ = some (.int .i64 (l.getD j (0, 0)).2)) := hc j hjl
      have HS : Hid (repT (l.take (j + 1)) (t1, t2) = if j = 0 then joinT (t1, t2) (l.getD j (0, 0)) else meetT (repT (l.take j) (t1, t2)) (joinT (t1, t2) (l.getD j (0, 0)))) := by
        unfold Hid
        by_cases h0 : j = 0
        · subst h0; rw [if_pos rfl]; exact repT_one l (t1, t2) hjl
        · rw [if_neg h0]; exact repT_take l (t1, t2) j hjl (by omega)
      have hsz := hat.out.b3.lt
      have hsz2 := hat.out.bg.lt
      have hjn : j < n := by omega
      generalize repT (l.take j) (t1, t2) = o at hat HS
      generalize l.getD j (0, 0) = y at HX HS
      obtain ⟨o1, o2⟩ := o
      obtain ⟨y1, y2⟩ := y
      simp only at HX
      clear hjl hc
      go_wp2_with fail
      refine PT.wp_region_tail 7 (PB.phi [PB.E (.agg #[.int .i64 t1, .int .i64 t2]), PB.E (.slice (some ⟨b, off, none⟩) n cap), PB.E (.int .i64 (j : Int)), PB.E (.pointer (some ⟨b, off + j * 2, none⟩)), PB.E (.agg #[.int .i64 y1, .int .i64 y2]), PB.E (tv (joinT (t1, t2) (y1, y2))), Nw wr]) mixed (by kernel_rfl)
        (PB.phi_lasts _ ⟨PB.E_lasts _, PB.E_lasts _, PB.E_lasts _, PB.E_lasts _, PB.E_lasts _, PB.E_lasts _, nw_lasts _, trivial⟩) ?_ ?_
      · refine ⟨?_, ?_, ?_, ?_, ?_, ?_, ?_, trivial⟩ <;> intro A W hB hS hA hF
        · exact Or.inl (PB.does_run (PB.wanted_free rfl) (run_box W (hS.slots 3 rfl) (hat.out.b3.on hB)) rfl)
        · exact Or.inl (PB.does_move (PB.wanted_free rfl) rfl (hS.slots 0 rfl))
        · exact Or.inl (PB.does_move (PB.wanted_free rfl) rfl (hS.slots 6 rfl))
        · exact Or.inl (PB.does_run (PB.wanted_free rfl) (run_index W (hA 1 rfl) (hA 2 rfl) hjn hl) rfl)
        · exact Or.inl (PB.does_run (PB.wanted_free rfl) (run_load W (hA 3 rfl) (((hat.out.below.trans (hB.mono hat.out.below.size)).cell (p := ⟨b, off + j * 2, none⟩) hBb).trans HX.out.1) (((hat.out.below.trans (hB.mono hat.out.below.size)).cell (p := ⟨b, off + j * 2 + 1, none⟩) hBb).trans HX.out.2)) rfl)
        · exact Or.inl (PB.does_call #[.agg #[.int .i64 t1, .int .i64 t2], .agg #[.int .i64 y1, .int .i64 y2]] (PB.wanted_free rfl) rfl Try.func28 rfl rfl (by show [PB.slot A 14, PB.slot A 18] = _; rw [show PB.slot A 14 = .agg #[.int .i64 t1, .int .i64 t2] from (hA 0 rfl), show PB.slot A 18 = .agg #[.int .i64 y1, .int .i64 y2] from (hA 4 rfl)]) (rjoin_newB (t1, t2) (y1, y2) W))
        · exact Or.inl (PT.does_grown (PB.wanted_free rfl) (run_alloc W) ((Below.refl _ W).alloc (Nat.le_refl _) _) ⟨W.heap.size, rfl, hB.size, World.alloc_heap_new W _⟩)
      · intro A W hB hS hL
        have h_14 : PB.slot A 14 = .agg #[.int .i64 t1, .int .i64 t2] := hL 0 (by decide)
        have h_15 : PB.slot A 15 = .slice (some ⟨b, off, none⟩) n cap := hL 1 (by decide)
        have h_16 : PB.slot A 16 = .int .i64 (j : Int) := hL 2 (by decide)
        have h_17 : PB.slot A 17 = .pointer (some ⟨b, off + j * 2, none⟩) := hL 3 (by decide)
        have h_18 : PB.slot A 18 = .agg #[.int .i64 y1, .int .i64 y2] := hL 4 (by decide)
        have h_19 : PB.slot A 19 = tv (joinT (t1, t2) (y1, y2)) := hL 5 (by decide)
        have nw : Nw wr (PB.slot A 7) W := hL 6 (by decide)
        have q_0 : PB.slot A 0 = .slice (some ⟨b, off, none⟩) n cap := hS.slots 0 rfl
        have q_3 : PB.slot A 3 = .pointer (some ⟨w.heap.size, 0, none⟩) := hS.slots 3 rfl
        have q_4 : PB.slot A 4 = .pointer (some ⟨w.heap.size + 1, 0, none⟩) := hS.slots 4 rfl
        have q_5 : PB.slot A 5 = .pointer (some ⟨w.heap.size + 1 + 1, 0, none⟩) := hS.slots 5 rfl
        have q_6 : PB.slot A 6 = .int .i64 (j : Int) := hS.slots 6 rfl
        have q_1 := hS.slots 1 rfl
        have q_2 := hS.slots 2 rfl
        have q_8 := hS.slots 8 rfl
        have q_9 := hS.slots 9 rfl
        have q_10 := hS.slots 10 rfl
        have q_11 := hS.slots 11 rfl
        have q_12 := hS.slots 12 rfl
        have q_13 := hS.slots 13 rfl
        have q_20 := hS.slots 20 rfl
        have q_21 := hS.slots 21 rfl
        have q_22 := hS.slots 22 rfl
        have q_23 := hS.slots 23 rfl
        have q_24 := hS.slots 24 rfl
        have q_25 := hS.slots 25 rfl
        have q_26 := hS.slots 26 rfl
        simp only [PB.slot, Array.getD_eq_getD_getElem?, List.getElem?_toArray, List.getElem?_cons_succ, List.getElem?_cons_zero, Option.getD_some] at q_1 q_2 q_8 q_9 q_10 q_11 q_12 q_13 q_20 q_21 q_22 q_23 q_24 q_25 q_26
        have q_1 := (PT.slot_get A 1).trans q_1
        have q_2 := (PT.slot_get A 2).trans q_2
        have q_8 := (PT.slot_get A 8).trans q_8
        have q_9 := (PT.slot_get A 9).trans q_9
        have q_10 := (PT.slot_get A 10).trans q_10
        have q_11 := (PT.slot_get A 11).trans q_11
        have q_12 := (PT.slot_get A 12).trans q_12
        have q_13 := (PT.slot_get A 13).trans q_13
        have q_20 := (PT.slot_get A 20).trans q_20
        have q_21 := (PT.slot_get A 21).trans q_21
        have q_22 := (PT.slot_get A 22).trans q_22
        have q_23 := (PT.slot_get A 23).trans q_23
        have q_24 := (PT.slot_get A 24).trans q_24
        have q_25 := (PT.slot_get A 25).trans q_25
        have q_26 := (PT.slot_get A 26).trans q_26
        have hA := PT.frame_of (A := A) (n := 27) hS.size
        have hd : A.defers = [] := hS.defers
        rw [hd] at hA
        obtain ⟨fr, hf⟩ : ∃ f, PB.slot A = f := ⟨_, rfl⟩
        rw [hf] at hA h_14 h_15 h_16 h_17 h_18 h_19 q_0 q_3 q_4 q_5 q_6 q_1 q_2 q_8 q_9 q_10 q_11 q_12 q_13 q_20 q_21 q_22 q_23 q_24 q_25 q_26 nw
        rw [hA]
        clear hA hf hd hL hS
        simp only [List.range, List.range.loop, List.map_cons, List.map_nil, List.drop_succ_cons, List.drop_zero, h_14, h_15, h_16, h_17, h_18, h_19, q_0, q_3, q_4, q_5, q_6, q_1, q_2, q_8, q_9, q_10, q_11, q_12, q_13, q_20, q_21, q_22, q_23, q_24, q_25, q_26]
        clear h_14 h_15 h_16 h_17 h_18 h_19 q_0 q_3 q_4 q_5 q_6 q_1 q_2 q_8 q_9 q_10 q_11 q_12 q_13 q_20 q_21 q_22 q_23 q_24 q_25 q_26
        obtain ⟨g, hg, hg0, hbox⟩ := nw
        rw [hg]
        have hbx : Box W g (0, 0) := hbox
        have HA2 : Hid (RepAt w (w.heap.size + 1 + 1) (t1, t2) (o1, o2) W) := ⟨hat.out.below.trans (hB.mono hat.out.below.size), hat.out.b3.on hB, hat.out.b4.on hB, hat.out.bg.on hB⟩
        generalize joinT (t1, t2) (y1, y2) = z at HS
        obtain ⟨z1, z2⟩ := z
        have c1 := hbx.c1
        have c2 := hbx.c2
        have f1 := hbx.f1
        have f2 := hbx.f2
        have hgw : w.heap.size + 1 + 1 < g := by omega
        have HA3 : Hid (RepAt w (w.heap.size + 1 + 1) (t1, t2) (o1, o2) ((W.setCell ⟨g, 0, none⟩ (.int .i64 z1)).setCell ⟨g, 1, none⟩ (.int .i64 z2)) ∧ Box ((W.setCell ⟨g, 0, none⟩ (.int .i64 z1)).setCell ⟨g, 1, none⟩ (.int .i64 z2)) g (z1, z2)) :=
          ⟨⟨set_below HA2.out.below (by omega) _ _, (set_other (by omega) _ _).trans HA2.out.b3, (set_other (by omega) _ _).trans HA2.out.b4, (set_other (by omega) _ _).trans HA2.out.bg⟩, hbx.set z1 z2⟩
        simp only [tv] at c1 c2 ⊢
        clear hB hat hbox hbx hg HX HA2
        have d1 := HA3.out.1.bg.c1
        have d2 := HA3.out.1.bg.c2
        have d3 := HA3.out.1.bg.f1
        have d4 := HA3.out.1.bg.f2
        have e1 := HA3.out.2.c1
        have e2 := HA3.out.2.c2
        simp only at d1 d2 e1 e2
        generalize hW2 : (W.setCell ⟨g, 0, none⟩ (.int .i64 z1)).setCell ⟨g, 1, none⟩ (.int .i64 z2) = W2 at HA3 d1 d2 d3 d4 e1 e2
        by_cases hj0 : j = 0
        · subst hj0
          have HM := hid' (refMeet_any (z1, z2) (z1, z2))
          rw [meetT_self] at HM
          simp only [tv] at HM
          rw [if_pos rfl] at HS
          have HBZ : Hid (RepAt w (w.heap.size + 1 + 1) (t1, t2) (z1, z2) ((W2.setCell ⟨w.heap.size + 1 + 1, 0, none⟩ (.int .i64 z1)).setCell ⟨w.heap.size + 1 + 1, 1, none⟩ (.int .i64 z2)) ∧ Box ((W2.setCell ⟨w.heap.size + 1 + 1, 0, none⟩ (.int .i64 z1)).setCell ⟨w.heap.size + 1 + 1, 1, none⟩ (.int .i64 z2)) g (z1, z2)) :=
            ⟨⟨set_below HA3.out.1.below (by omega) _ _, (set_other (by omega) _ _).trans HA3.out.1.b3, (set_other (by omega) _ _).trans HA3.out.1.b4, HA3.out.1.bg.set z1 z2⟩, (set_other (by omega) _ _).trans HA3.out.2⟩
          have i1 := HBZ.out.1.bg.c1
          have i2 := HBZ.out.1.bg.c2
          have i3 := HBZ.out.2.c1
          have i4 := HBZ.out.2.c2
          simp only at i1 i2 i3 i4
          go_wp2_with fail
          refine (HM.out _).mono ?_
          rintro e w3 ⟨rfl, hg3⟩
          have HA4 : Hid (RepAt w (w.heap.size + 1 + 1) (t1, t2) (z1, z2) w3) := ⟨HBZ.out.1.below.trans (hg3.below.mono HBZ.out.1.below.size), HBZ.out.1.b3.on hg3.below, HBZ.out.1.b4.on hg3.below, HBZ.out.1.bg.on hg3.below⟩
          have k1 := HA4.out.bg.c1
          have k2 := HA4.out.bg.c2
          have k3 := HA4.out.bg.f1
          have k4 := HA4.out.bg.f2
          simp only at k1 k2
          clear hg3
          go_wp2
          go_roundg k
          case measure => omega
          case rel =>
            refine ⟨0 + 1, by omega, by simp, ?_⟩
            rw [HS.out]
            exact ⟨set_below HA4.out.below (by omega) _ _, (set_other (by omega) _ _).trans HA4.out.b3, (set_other (by omega) _ _).trans HA4.out.b4, HA4.out.bg.set z1 z2⟩
        · rw [if_neg hj0] at HS
          have HM := hid' (refMeet_any (o1, o2) (z1, z2))
          generalize meetT (o1, o2) (z1, z2) = y at HS HM
          obtain ⟨y1, y2⟩ := y
          simp only [tv] at HM
          go_wp2_with fail
          refine (HM.out _).mono ?_
          rintro e w3 ⟨rfl, hg3⟩
          have HA4 : Hid (RepAt w (w.heap.size + 1 + 1) (t1, t2) (o1, o2) w3) := ⟨HA3.out.1.below.trans (hg3.below.mono HA3.out.1.below.size), HA3.out.1.b3.on hg3.below, HA3.out.1.b4.on hg3.below, HA3.out.1.bg.on hg3.below⟩
          have k1 := HA4.out.bg.c1
          have k2 := HA4.out.bg.c2
          have k3 := HA4.out.bg.f1
          have k4 := HA4.out.bg.f2
          simp only at k1 k2
          clear hg3
          go_wp2
          go_roundg k
          case measure => omega
          case rel =>
            refine ⟨j + 1, by omega, by simp, ?_⟩
            rw [HS.out]
            exact ⟨set_below HA4.out.below (by omega) _ _, (set_other (by omega) _ _).trans HA4.out.b3, (set_other (by omega) _ _).trans HA4.out.b4, HA4.out.bg.set y1 y2⟩

end Go.Proofs.Ytaadbjnfnmjkfaa
