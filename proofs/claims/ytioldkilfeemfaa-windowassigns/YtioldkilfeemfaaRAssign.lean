/-
  What is proved here: Assign of the document.
-/
import Derived.Test.YtioldkilfeemfaaReg14
namespace Go.Proofs.Ytioldkilfeemfaa
open Go.RowKit Go.Proofs
set_option linter.unusedVariables false
set_option linter.unusedSimpArgs false

set_option maxRecDepth 20000 in
set_option maxHeartbeats 4000000 in
theorem rAssign_any (w : World) (a : Option Addr) (cap n : Nat) (l : List V) (col size s : Int) (hn : l.length = n) (hv : Vs w.heap.size w a l) (hl : n ≤ 30) :
    Calls Try.prog 17 #[.slice a n cap, .int .i64 col, .int .i64 size, .int .i64 s] w fun e w' => ∃ x f, e = .returned (.tuple #[x, .int .i64 (asT l col size s).2]) ∧ Rws w.heap.size w' x (asT l col size s).1 f ∧ Below w.heap.size w w' := by
  obtain ⟨iR, hiR, hR0, hR1, hR2⟩ := info_parts Try.infoRow
  have mixed : Try.prog.follows .mixedOrders = true := by kernel_rfl
  by_cases hc : 0 ≤ col ∧ col < (n : Int)
  · obtain ⟨c, rfl⟩ : ∃ c : Nat, col = (c : Int) := ⟨col.toNat, by omega⟩
    have hcn : c < n := by omega
    by_cases h16 : 16 ≤ n
    · have HR : Hid (asT l (c : Int) size s = ([], 3)) := by unfold Hid asT; rw [hn, if_pos hc, if_pos h16]
      generalize asT l (c : Int) size s = R at HR ⊢
      rw [HR.out]
      clear HR hv hn
      go_enter Try.func17, Try.ntmps17
      go_wp2
      go_ret2
      exact ⟨_, fun _ => undef, rfl, Rws.nil _ _ _ _ (World.ownsRow_nil _ _ _ _), Below.refl _ _⟩
    · obtain ⟨b1, o1, rfl, hB1, hc1⟩ := hv.cells (by rintro rfl; simp at hn; omega)
      have p0 := (hc1 c (by omega)).1
      have p1 := (hc1 c (by omega)).2.1
      by_cases hk : (l.getD c d0).1 = 0
      · rw [hk] at p0
        obtain ⟨⟨bs, cc⟩, hbk⟩ : ∃ r, bkT (l.getD c d0).2.1 size s = r := ⟨_, rfl⟩
        have hbl := bkT_length (l.getD c d0).2.1 size s
        have H1 := hid' (fun w => rBuckets_B (l.getD c d0).2.1 size s bs cc w hbk)
        have HR : Hid (asT l (c : Int) size s = if cc = 0 then (bs.map (rowOf l), 0) else ([], cc)) := by
          unfold Hid asT; rw [hn, if_pos hc, if_neg h16, Int.toNat_natCast, if_pos hk, hbk]
        rw [hbk] at hbl
        generalize asT l (c : Int) size s = R at HR ⊢
        rw [HR.out]
        clear HR hbk hk
        generalize (l.getD c d0).2.1 = z at p1 H1
        simp only at hbl
        by_cases hcc : cc = 0
        · subst hcc
          rw [if_pos rfl]
          generalize hm : bs.length = m at H1 hbl
          have HM := hid' hm
          have HV := hid' hv
          have HN := hid' hn
          clear hm hv hn hc1
          go_enter Try.func17, Try.ntmps17
          go_wp2_with fail
          refine (H1.out _).mono ?_
          rintro e w2 ⟨a2, c2, rfl, n2, g2⟩
          clear H1
          have HV := hid' (HV.out.on g2)
          have HG2 := hid' g2
          have N2 := hid' n2
          clear n2 g2 p0 p1
          go_wp2
          go_loopg [12, 13] m (fun k x i wr => ∃ (j : Nat) (f : Nat → Value), j + k = m ∧ i = .int .i64 (j : Int) ∧ Hid (Rws w2.heap.size wr x ((bs.take j).map (rowOf l)) f) ∧ Hid (Below w2.heap.size w2 wr))
          case atStart => exact ⟨0, fun _ => undef, by omega, rfl, hid' (Rws.nil _ _ _ _ (World.ownsRow_nil _ _ _ _)), hid' (Below.refl _ _)⟩
          case round =>
            obtain ⟨j, f, hj, rfl, HRW, HBL⟩ := hrel
            cases gk with
            | zero =>
              obtain rfl : m = j := by omega
              go_wp2
              go_ret2
              refine ⟨_, f, rfl, ?_, HG2.out.trans (HBL.out.mono HG2.out.size)⟩
              have h := HRW.out
              rw [List.take_of_length_le (by rw [HM.out]; omega)] at h
              exact h.mono HG2.out.size
            | succ k =>
              have hjl : j < bs.length := by rw [HM.out]; omega
              obtain ⟨b2, o2, rfl, hB2, hc2⟩ := N2.out.cells (by rintro rfl; simp at hjl)
              have q1 := (HBL.out.cell (p := ⟨b2, o2 + j, none⟩) hB2).trans (hc2 j hjl)
              have HST := hid' (map_take_step (l := l) hjl)
              generalize bs.getD j 0 = y at q1 HST
              have hsz := HBL.out.size
              clear hc2 hjl
              have HP : Hid (∀ W, Below wr.heap.size wr W → W.cell? ⟨b2, o2 + j, none⟩ = some (.int .i64 y)) := fun W hB => (hB.cell (p := ⟨b2, o2 + j, none⟩) (show b2 < wr.heap.size by omega)).trans q1
              have HSRC : Hid (∀ W, Below wr.heap.size wr W → ∀ i u, (flat l)[i]? = some u → W.cell? ((⟨b1, o1, none⟩ : Addr).add i) = some u) := fun W hB => (((HV.out.on HBL.out).on hB)).src
              have HFL : Hid ((flat l).length = n * 3) := by unfold Hid; rw [length_flat, HN.out]
              have HON := hid' (flat_ones l)
              clear q1
              go_wp2
              refine PR.wp_region_tailR 12 (R14 wr.heap.size n) (PB.phi (left14 wr.heap.size u12 (.slice (some ⟨b1, o1, none⟩) n cap) (.slice (some ⟨b2, o2, none⟩) m c2) (.int .i64 (j : Int)) (.pointer (some ⟨b2, o2 + j, none⟩)) (.int .i64 y) l ((0, y, ⟨#[]⟩) : V))) mixed (by kernel_rfl)
                (fun i q v a b h1 h2 h3 h4 => left14_lasts wr.heap.size n u12 _ _ _ _ _ l ((0, y, ⟨#[]⟩) : V) HN.out (by omega) i q v a b h1 (fun e e2 => by subst e; subst e2; exact absurd (h2 _ rfl) (by decide)) h3 h4) R14.below (R14.refl _ _) ?_ ?_
              · refine ⟨?_, ?_, ?_, ?_, ?_, ?_, ?_, ?_, ?_, ?_, ?_, ?_, trivial⟩ <;> intro A W hB hS hA hF
                · exact Or.inl (PR.of_does (PB.does_move (PB.wanted_free rfl) rfl (hS.slots 12 rfl)) (fun _ h => Or.inl h))
                · exact Or.inl (PR.of_does (PT.does_grown (PB.wanted_free rfl) (run_empty W) ((Below.refl _ W).alloc (Nat.le_refl _) _) ⟨W.heap.size, rfl, World.ownsRow_made W #[] 0 hB.size (by unfold maxLen; omega) rfl⟩) (fun _ h => Or.inl h))
                · exact Or.inl (PR.of_does (PB.does_move (PB.wanted_free rfl) rfl (hS.slots 0 rfl)) (fun _ h => Or.inl h))
                · obtain ⟨g, e, ho⟩ : NewT wr.heap.size [] (PB.slot A 52) W := hA 1 rfl
                  have e2 : PB.slot A 53 = .slice (some ⟨b1, o1, none⟩) n cap := hA 2 rfl
                  rw [e] at ho
                  refine Or.inl ⟨PB.wanted_free rfl, wp_append_two (.tmp 52) (.tmp 53) rfl wr.heap.size g 0 0 [] e ho ⟨b1, o1, none⟩ n cap (flat l) e2 HFL.out (HSRC.out W hB) HON.out (by omega) hB.size ?_⟩
                  intro v' w' hown hr
                  refine ⟨v', rfl, Or.inl (by rcases hr with ⟨_, h⟩ | ⟨h, _⟩; exact h; omega), newV_of hown (by rw [HN.out]; omega) rfl (by omega)⟩
                · exact Or.inl (PR.of_does (PB.does_move (PB.wanted_free rfl) rfl (hS.slots 10 rfl)) (fun _ h => Or.inl h))
                · exact Or.inl (PR.of_does (PB.does_move (PB.wanted_free rfl) rfl (hS.slots 13 rfl)) (fun _ h => Or.inl h))
                · exact Or.inl (PR.of_does (PB.does_run (PB.wanted_free rfl) (run_indexI W (hA 4 rfl) (hA 5 rfl) (by omega) (by omega)) rfl) (fun _ h => Or.inl h))
                · exact Or.inl (PR.of_does (PB.does_run (PB.wanted_free rfl) (run_loadI W (hA 6 rfl) (HP.out W hB)) rfl) (fun _ h => Or.inl h))
                · exact Or.inl (PR.of_does (PB.does_run (PB.wanted_free rfl) (run_build W (hA 7 rfl)) rfl) (fun _ h => Or.inl h))
                · exact Or.inl (PR.of_does (PT.does_grown (PB.wanted_free rfl) (run_one W (hA 8 rfl)) ((Below.refl _ W).alloc (Nat.le_refl _) _) ⟨W.heap.size, rfl, rfl, .inr ⟨W.heap.size, 1, _, rfl, hB.size, heap_alloc_new W _, Nat.le_refl _, by unfold maxLen; omega, rfl, rfl⟩⟩) (fun _ h => Or.inl h))
                · obtain ⟨g, c3, e, ho⟩ : NewV wr.heap.size l (PB.slot A 54) W := hA 3 rfl
                  obtain ⟨g9, e9, ho9⟩ : NewT wr.heap.size [((0, y, ⟨#[]⟩) : V)] (PB.slot A 60) W := hA 9 rfl
                  rw [HN.out] at e ho
                  rw [e] at ho
                  rw [e9] at ho9
                  refine Or.inl ⟨PB.wanted_free rfl, wp_append_two (.tmp 54) (.tmp 60) rfl wr.heap.size g n c3 (flat l) e ho ⟨g9, 0, none⟩ 1 1 (flat [((0, y, ⟨#[]⟩) : V)]) e9 rfl (ho9.cells (g := g9) rfl) (flat_ones _) (by omega) hB.size ?_⟩
                  intro v' w' hown hr
                  refine ⟨v', rfl, ?_, newV_of hown (by rw [List.length_append, HN.out]; rfl) (flat_append _ _).symm (by omega)⟩
                  rcases hr with ⟨_, h⟩ | ⟨_, h⟩
                  · exact Or.inl h
                  · exact Or.inr ⟨rfl, h⟩
                · obtain ⟨g, c3, e, ho⟩ : NewV wr.heap.size (l ++ [((0, y, ⟨#[]⟩) : V)]) (PB.slot A 61) W := hA 10 rfl
                  rw [e] at ho
                  exact Or.inl (PR.of_does (PT.does_grown (PB.wanted_free rfl) (run_oneR W e) ((Below.refl _ W).alloc (Nat.le_refl _) _) ⟨W.heap.size, _, rfl, hB.size, heap_alloc_new W _, g, c3, rfl, ownsRow_on ho ((Below.refl _ W).alloc (Nat.le_refl _) _)⟩) (fun _ h => Or.inl h))
              · intro A W hB hS hL
                have h_51 : PB.slot A 51 = u12 := hL 0 (by decide)
                have h_53 : PB.slot A 53 = .slice (some ⟨b1, o1, none⟩) n cap := hL 2 (by decide)
                have h_55 : PB.slot A 55 = .slice (some ⟨b2, o2, none⟩) m c2 := hL 4 (by decide)
                have h_56 : PB.slot A 56 = .int .i64 (j : Int) := hL 5 (by decide)
                have h_57 : PB.slot A 57 = .pointer (some ⟨b2, o2 + j, none⟩) := hL 6 (by decide)
                have h_58 : PB.slot A 58 = .int .i64 y := hL 7 (by decide)
                have h_59 : PB.slot A 59 = aggV ((0, y, ⟨#[]⟩) : V) := hL 8 (by decide)
                obtain ⟨g6, u6, h_62, hg6, hc6, gu, cu, eu, ho6⟩ : NewR wr.heap.size (l ++ [((0, y, ⟨#[]⟩) : V)]) (PB.slot A 62) W := hL 11 (by decide)
                have q_0 := hS.slots 0 rfl
                have q_1 := hS.slots 1 rfl
                have q_2 := hS.slots 2 rfl
                have q_3 := hS.slots 3 rfl
                have q_4 := hS.slots 4 rfl
                have q_5 := hS.slots 5 rfl
                have q_6 := hS.slots 6 rfl
                have q_7 := hS.slots 7 rfl
                have q_8 := hS.slots 8 rfl
                have q_9 := hS.slots 9 rfl
                have q_10 := hS.slots 10 rfl
                have q_11 := hS.slots 11 rfl
                have q_12 := hS.slots 12 rfl
                have q_13 := hS.slots 13 rfl
                have q_14 := hS.slots 14 rfl
                have q_15 := hS.slots 15 rfl
                have q_16 := hS.slots 16 rfl
                have q_17 := hS.slots 17 rfl
                have q_18 := hS.slots 18 rfl
                have q_19 := hS.slots 19 rfl
                have q_20 := hS.slots 20 rfl
                have q_21 := hS.slots 21 rfl
                have q_22 := hS.slots 22 rfl
                have q_23 := hS.slots 23 rfl
                have q_24 := hS.slots 24 rfl
                have q_25 := hS.slots 25 rfl
                have q_26 := hS.slots 26 rfl
                have q_27 := hS.slots 27 rfl
                have q_28 := hS.slots 28 rfl
                have q_29 := hS.slots 29 rfl
                have q_30 := hS.slots 30 rfl
                have q_31 := hS.slots 31 rfl
                have q_32 := hS.slots 32 rfl
                have q_33 := hS.slots 33 rfl
                have q_34 := hS.slots 34 rfl
                have q_35 := hS.slots 35 rfl
                have q_36 := hS.slots 36 rfl
                have q_37 := hS.slots 37 rfl
                have q_38 := hS.slots 38 rfl
                have q_39 := hS.slots 39 rfl
                have q_40 := hS.slots 40 rfl
                have q_41 := hS.slots 41 rfl
                have q_42 := hS.slots 42 rfl
                have q_43 := hS.slots 43 rfl
                have q_44 := hS.slots 44 rfl
                have q_45 := hS.slots 45 rfl
                have q_46 := hS.slots 46 rfl
                have q_47 := hS.slots 47 rfl
                have q_48 := hS.slots 48 rfl
                have q_49 := hS.slots 49 rfl
                have q_50 := hS.slots 50 rfl
                have q_63 := hS.slots 63 rfl
                have q_64 := hS.slots 64 rfl
                simp only [PB.slot, Array.getD_eq_getD_getElem?, List.getElem?_toArray, List.getElem?_cons_succ, List.getElem?_cons_zero, Option.getD_some] at q_0 q_1 q_2 q_3 q_4 q_5 q_6 q_7 q_8 q_9 q_10 q_11 q_12 q_13 q_14 q_15 q_16 q_17 q_18 q_19 q_20 q_21 q_22 q_23 q_24 q_25 q_26 q_27 q_28 q_29 q_30 q_31 q_32 q_33 q_34 q_35 q_36 q_37 q_38 q_39 q_40 q_41 q_42 q_43 q_44 q_45 q_46 q_47 q_48 q_49 q_50 q_63 q_64
                have q_0 := (PT.slot_get A 0).trans q_0
                have q_1 := (PT.slot_get A 1).trans q_1
                have q_2 := (PT.slot_get A 2).trans q_2
                have q_3 := (PT.slot_get A 3).trans q_3
                have q_4 := (PT.slot_get A 4).trans q_4
                have q_5 := (PT.slot_get A 5).trans q_5
                have q_6 := (PT.slot_get A 6).trans q_6
                have q_7 := (PT.slot_get A 7).trans q_7
                have q_8 := (PT.slot_get A 8).trans q_8
                have q_9 := (PT.slot_get A 9).trans q_9
                have q_10 := (PT.slot_get A 10).trans q_10
                have q_11 := (PT.slot_get A 11).trans q_11
                have q_12 := (PT.slot_get A 12).trans q_12
                have q_13 := (PT.slot_get A 13).trans q_13
                have q_14 := (PT.slot_get A 14).trans q_14
                have q_15 := (PT.slot_get A 15).trans q_15
                have q_16 := (PT.slot_get A 16).trans q_16
                have q_17 := (PT.slot_get A 17).trans q_17
                have q_18 := (PT.slot_get A 18).trans q_18
                have q_19 := (PT.slot_get A 19).trans q_19
                have q_20 := (PT.slot_get A 20).trans q_20
                have q_21 := (PT.slot_get A 21).trans q_21
                have q_22 := (PT.slot_get A 22).trans q_22
                have q_23 := (PT.slot_get A 23).trans q_23
                have q_24 := (PT.slot_get A 24).trans q_24
                have q_25 := (PT.slot_get A 25).trans q_25
                have q_26 := (PT.slot_get A 26).trans q_26
                have q_27 := (PT.slot_get A 27).trans q_27
                have q_28 := (PT.slot_get A 28).trans q_28
                have q_29 := (PT.slot_get A 29).trans q_29
                have q_30 := (PT.slot_get A 30).trans q_30
                have q_31 := (PT.slot_get A 31).trans q_31
                have q_32 := (PT.slot_get A 32).trans q_32
                have q_33 := (PT.slot_get A 33).trans q_33
                have q_34 := (PT.slot_get A 34).trans q_34
                have q_35 := (PT.slot_get A 35).trans q_35
                have q_36 := (PT.slot_get A 36).trans q_36
                have q_37 := (PT.slot_get A 37).trans q_37
                have q_38 := (PT.slot_get A 38).trans q_38
                have q_39 := (PT.slot_get A 39).trans q_39
                have q_40 := (PT.slot_get A 40).trans q_40
                have q_41 := (PT.slot_get A 41).trans q_41
                have q_42 := (PT.slot_get A 42).trans q_42
                have q_43 := (PT.slot_get A 43).trans q_43
                have q_44 := (PT.slot_get A 44).trans q_44
                have q_45 := (PT.slot_get A 45).trans q_45
                have q_46 := (PT.slot_get A 46).trans q_46
                have q_47 := (PT.slot_get A 47).trans q_47
                have q_48 := (PT.slot_get A 48).trans q_48
                have q_49 := (PT.slot_get A 49).trans q_49
                have q_50 := (PT.slot_get A 50).trans q_50
                have q_63 := (PT.slot_get A 63).trans q_63
                have q_64 := (PT.slot_get A 64).trans q_64
                have hA := PT.frame_of (A := A) (n := 65) hS.size
                have hd : A.defers = [] := hS.defers
                rw [hd] at hA
                obtain ⟨fr, hf⟩ : ∃ f, PB.slot A = f := ⟨_, rfl⟩
                rw [hf] at hA h_51 h_53 h_55 h_56 h_57 h_58 h_59 h_62 q_0 q_1 q_2 q_3 q_4 q_5 q_6 q_7 q_8 q_9 q_10 q_11 q_12 q_13 q_14 q_15 q_16 q_17 q_18 q_19 q_20 q_21 q_22 q_23 q_24 q_25 q_26 q_27 q_28 q_29 q_30 q_31 q_32 q_33 q_34 q_35 q_36 q_37 q_38 q_39 q_40 q_41 q_42 q_43 q_44 q_45 q_46 q_47 q_48 q_49 q_50 q_63 q_64
                rw [hA]
                clear hA hf hd hL hS
                simp only [List.range, List.range.loop, List.map_cons, List.map_nil, List.drop_succ_cons, List.drop_zero, h_51, h_53, h_55, h_56, h_57, h_58, h_59, h_62, q_0, q_1, q_2, q_3, q_4, q_5, q_6, q_7, q_8, q_9, q_10, q_11, q_12, q_13, q_14, q_15, q_16, q_17, q_18, q_19, q_20, q_21, q_22, q_23, q_24, q_25, q_26, q_27, q_28, q_29, q_30, q_31, q_32, q_33, q_34, q_35, q_36, q_37, q_38, q_39, q_40, q_41, q_42, q_43, q_44, q_45, q_46, q_47, q_48, q_49, q_50, q_63, q_64]
                clear h_51 h_53 h_55 h_56 h_57 h_58 h_59 h_62 q_0 q_1 q_2 q_3 q_4 q_5 q_6 q_7 q_8 q_9 q_10 q_11 q_12 q_13 q_14 q_15 q_16 q_17 q_18 q_19 q_20 q_21 q_22 q_23 q_24 q_25 q_26 q_27 q_28 q_29 q_30 q_31 q_32 q_33 q_34 q_35 q_36 q_37 q_38 q_39 q_40 q_41 q_42 q_43 q_44 q_45 q_46 q_47 q_48 q_49 q_50 q_63 q_64
                clear q_0 q_1 q_2 q_3 q_4 q_5 q_6 q_7 q_8 q_9 q_10 q_11 q_12 q_13 q_14 q_15 q_16 q_17 q_18 q_19 q_20 q_21 q_22 q_23 q_24 q_25 q_26 q_27 q_28 q_29 q_30 q_31 q_32 q_33 q_34 q_35 q_36 q_37 q_38 q_39 q_40 q_41 q_42 q_43 q_44 q_45 q_46 q_47 q_48 q_49 q_50 q_63 q_64
                subst eu
                have HX := hid' ho6
                have HB4 := hid' hB
                have hsz4 := hB.size
                have HR4 := hid' (HRW.out.keep hB)
                have HLN : Hid (((bs.take j).map (rowOf l)).length = j) := by unfold Hid; rw [List.length_map, List.length_take, HM.out]; omega
                have HO4 : Hid (W.ownsRow w2.heap.size 39 1 u12 j ((List.range j).map f)) := by
                  have := HR4.out.outer
                  rw [HLN.out] at this
                  exact this
                have HC6 : Hid (∀ k u, [Value.slice (some ⟨gu, 0, none⟩) (l ++ [((0, y, ⟨#[]⟩) : V)]).length cu][k]? = some u → W.cell? ((⟨g6, 0, none⟩ : Addr).add k) = some u) := by
                  intro k u hk
                  rw [addr_add, Nat.zero_add, cell_of_row _ _ _ _ _ _ hc6]
                  simpa using hk
                generalize hxl : (l ++ [((0, y, ⟨#[]⟩) : V)]).length = xl at HC6 HX
                have HXL := hid' hxl
                clear hxl ho6 hc6 hB
                go_wp2_with (at_builtin; refine wpList_append_own _ rfl (.tmp 51) (.tmp 62) 41 rfl w2.heap.size 39 iR (.slice none 0 0) 1 24 Try.underlying41 hiR hR0 hR1 hR2 rfl (by decide) _ _ _ rfl HO4.out ⟨g6, 0, none⟩ 1 1 [.slice (some ⟨gu, 0, none⟩) xl cu] rfl rfl HC6.out (by intro u hu; simp at hu; subst hu; rfl) (by unfold maxLen; omega) (by omega) (by omega) ?_; intro v5 w5 hown5 hgrow5 hnil5)
                have hgr5 : W.grownBy w5 u12.ownBlock := hgrow5
                have bel4 : Below w2.heap.size w2 W := HBL.out.trans (HB4.out.mono hsz)
                have hb5 : Hid (Below w2.heap.size w2 w5) := bel4.grown hgr5 (by omega) (fun q hq => (HO4.out.lt q hq).1)
                have HR5 : Hid (Rws w2.heap.size w5 v5 ((bs.take (j + 1)).map (rowOf l)) (fun i => if i < j then f i else .slice (some ⟨gu, 0, none⟩) xl cu)) := by
                  unfold Hid
                  rw [HST.out]
                  have hx5 : W.ownsRow w2.heap.size 48 3 (.slice (some ⟨gu, 0, none⟩) xl cu) (rowOf l y).length (flat (rowOf l y)) := by
                    have h := HX.out
                    rw [show (rowOf l y).length = xl from HXL.out]
                    refine ⟨h.1, ?_⟩
                    rcases h.2 with hn | ⟨g, cp, cur, h1, h2, h3⟩
                    · exact .inl hn
                    · exact .inr ⟨g, cp, cur, h1, by omega, h3⟩
                  have := HR4.out.push hx5 hgr5 (by rw [HLN.out]; exact hown5)
                  rw [HLN.out] at this
                  exact this
                clear hgrow5 hnil5 hgr5 hown5
                go_roundg k
                case measure => omega
                case rel => exact ⟨j + 1, _, by omega, by simp, HR5, hb5⟩
        · rw [if_neg hcc]
          have hne : (cc == 0) = false := by simpa using hcc
          generalize bs.length = m at H1 hbl
          clear hv hn hc1
          go_enter Try.func17, Try.ntmps17
          go_wp2_with fail
          refine (H1.out _).mono ?_
          rintro e w2 ⟨a2, c2, rfl, n2, g2⟩
          go_wp2
          go_ret2
          exact ⟨_, fun _ => undef, rfl, Rws.nil _ _ _ _ (World.ownsRow_nil _ _ _ _), g2⟩
      · have HR : Hid (asT l (c : Int) size s = ([], 80)) := by unfold Hid asT; rw [hn, if_pos hc, if_neg h16, Int.toNat_natCast, if_neg hk]
        generalize asT l (c : Int) size s = R at HR ⊢
        rw [HR.out]
        generalize (l.getD c d0).1 = kk at p0 hk
        have hne : (kk == 0) = false := by simpa using hk
        clear HR hv hn hc1
        go_enter Try.func17, Try.ntmps17
        go_wp2
        go_ret2
        exact ⟨_, fun _ => undef, rfl, Rws.nil _ _ _ _ (World.ownsRow_nil _ _ _ _), Below.refl _ _⟩
  · have HR : Hid (asT l col size s = ([], 9)) := by unfold Hid asT; rw [hn, if_neg hc]
    generalize asT l col size s = R at HR ⊢
    rw [HR.out]
    clear HR hv hn
    by_cases hneg : col < 0
    · go_enter Try.func17, Try.ntmps17
      go_wp2
      go_ret2
      first
        | exact ⟨_, fun _ => undef, rfl, Rws.nil _ _ _ _ (World.ownsRow_nil _ _ _ _), Below.refl _ _⟩
        | exact ⟨_, rfl, ⟨fun _ => undef, Rws.nil _ _ _ _ (World.ownsRow_nil _ _ _ _)⟩, Below.refl _ _⟩
    · have hge : (n : Int) ≤ col := by omega
      go_enter Try.func17, Try.ntmps17
      go_wp2
      go_ret2
      first
        | exact ⟨_, fun _ => undef, rfl, Rws.nil _ _ _ _ (World.ownsRow_nil _ _ _ _), Below.refl _ _⟩
        | exact ⟨_, rfl, ⟨fun _ => undef, Rws.nil _ _ _ _ (World.ownsRow_nil _ _ _ _)⟩, Below.refl _ _⟩

end Go.Proofs.Ytioldkilfeemfaa
