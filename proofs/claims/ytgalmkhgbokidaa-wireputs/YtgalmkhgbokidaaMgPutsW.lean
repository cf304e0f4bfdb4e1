/-
  What is proved here: the law WirePuts answers true at all bytes and every command in memory and writes nothing that was there.
-/
import Derived.Test.YtgalmkhgbokidaaMgPutsA

namespace Go.Proofs.Ytgalmkhgbokidaa
open Go.RowKit Go.Proofs
set_option maxRecDepth 20000
set_option linter.unusedVariables false
set_option linter.unusedSimpArgs false

set_option maxHeartbeats 8000000 in
theorem puts_walk (P : Nat → Prop) (w : World) (a : Option Addr) (cap : Nat) (l : List Int) (c : Cm) (s : CmS) (hb : Bts w.heap.size w a l) (hsh : Sh a l.length cap) (hc : CmR P w c s) (hn : CmN c) :
    Calls Try.prog 3 #[.slice a l.length cap, cmV c s] w fun e w' => e = .returned (.bool true) ∧ Below w.heap.size w w' := by
  have HLV := hid' live_any
  by_cases hbig : 1000 < l.length
  · clear hb hc hn
    have HB := hid' (fun x => (Below.refl w.heap.size w).alloc (Nat.le_refl _) x)
    generalize l.length = ln at *
    have h' : (1000 : Int) < (ln : Int) := by omega
    unfold cmV cmA
    go_enter Try.func3, Try.ntmps3
    go_wp2_with fail
    refine (HLV.out _).mono ?_
    rintro e w1 ⟨rfl, hb1⟩
    go_wp2
    go_ret
    exact ⟨rfl, bel_trans' (HB.out _) hb1⟩
  · have h' : ¬ (1000 : Int) < (l.length : Int) := by omega
    have hl1 : l.length ≤ 1000 := by omega
    have HBT := hid' hb
    have HCR := hid' hc
    have HN := hid' hn
    have HSH := hid' hsh
    have B1 := (Below.refl w.heap.size w).alloc (Nat.le_refl _) (.cells (cmA c s) 31)
    have X1 := Bx.new w (cmA c s) 31
    obtain ⟨W1, hW1⟩ : ∃ W, w.alloc (.cells (cmA c s) 31) = W := ⟨_, rfl⟩
    have HW1 := hid' hW1
    have HG1 : Hid (W1.heap.size = w.heap.size + 1) := by rw [← hW1]; exact World.size_alloc _ _
    rw [hW1] at B1 X1
    have B2 := (Below.refl W1.heap.size W1).alloc (Nat.le_refl _) (.cells (cmA c s) 31)
    have HM := hid' (much_any (fun _ => True) _ _ 1 [(c, s)] (Cms.one (Bx.new W1 (cmA c s) 31) trivial ((hc.on (bel_trans' B1 B2)).mono (fun _ _ => trivial))))
    obtain ⟨W2, hW2⟩ : ∃ W, W1.alloc (.cells (cmA c s) 31) = W := ⟨_, rfl⟩
    have HW2 := hid' hW2
    have X2 := X1.keep B2
    rw [hW2] at B2 X2 HM
    rw [HG1.out] at HM
    have HB2 := hid' (bel_trans' B1 B2)
    have HX2 := hid' X2
    simp only [List.length_cons, List.length_nil, Nat.zero_add] at HM
    obtain ⟨ln, hln⟩ : ∃ n, l.length = n := ⟨_, rfl⟩
    have HLN := hid' hln
    rw [hln] at hl1 h' ⊢
    unfold cmA at HW1 HW2
    unfold cmV cmA
    clear hb hc hn hsh hbig B1 B2 X1 X2 hW1 hW2 hln
    go_enter Try.func3, Try.ntmps3
    go_wp2_with fail
    rw [HW1.out, HW2.out]
    refine HM.out.mono ?_
    rintro e w3 ⟨⟨b, rfl, hsm⟩, hb3⟩
    have HB3 := hid' (bel_trans' HB2.out hb3)
    have HX3 := hid' (HX2.out.keep hb3)
    clear hb3 HM HB2 HX2 HW1 HW2 HG1
    cases b with
    | true =>
      clear hsm
      go_wp2_with fail
      refine (HLV.out _).mono ?_
      rintro e w4 ⟨rfl, hb4⟩
      go_wp2
      go_ret
      exact ⟨rfl, bel_trans' HB3.out hb4⟩
    | false =>
      have HSM : Hid (Sm c) := (hsm rfl).2 (c, s) (by simp)
      have HP := hid' (wPut_any P w3 a cap l c s ((HBT.out.keep HB3.out).mono HB3.out.size) (fun h => (HSH.out.1 h).2) (by rw [HLN.out]; omega) (HCR.out.on HB3.out) HN.out)
      obtain ⟨n0, n1, n2, n3, n4, n5, n6, n7, n8⟩ := cm_cells HX3.out
      rw [HLN.out] at HP
      unfold cmV cmA at HP
      clear hsm
      go_wp2_with fail
      refine HP.out.mono ?_
      intro e4 w4 hans
      obtain ⟨xa, xn, xc, rfl, hb4, hcase⟩ := put_back HBT.out.range HCR.out.byt hans
      have HB4 := hid' (bel_trans' HB3.out hb4)
      have HX4 := hid' (HX3.out.keep hb4)
      have HCASE := hid' hcase
      have HRC := hid' (rCheck_any P w4 c s (HCR.out.on HB4.out))
      unfold cmV cmA at HRC
      clear hans hb4 hcase HP n0 n1 n2 n3 n4 n5 n6 n7 n8 HB3 HX3
      obtain ⟨n0, n1, n2, n3, n4, n5, n6, n7, n8⟩ := cm_cells HX4.out
      obtain ⟨er, her⟩ : ∃ n, chk c = n := ⟨_, rfl⟩
      have HER := hid' her
      rw [her] at HRC ⊢
      clear her
      go_wp2_with fail
      refine HRC.out.mono ?_
      rintro e w5 ⟨rfl, hb5⟩
      have HB5 := hid' (bel_trans' HB4.out hb5)
      have HB45 := hid' hb5
      have HX5 := hid' (HX4.out.keep hb5)
      have HCO : Hid (∀ (z : Int) (W : World), Calls Try.prog 12 #[.int .i64 z] W fun e w' => ∃ v, e = .returned v ∧ Below W.heap.size W w' ∧ PB.E (.int .i64 z) v w') := fun z W => (code_any z W).mono (by
        rintro e w' ⟨rfl, rfl⟩
        exact ⟨_, rfl, Below.refl _ _, rfl⟩)
      have HWC : Hid (∀ W, Below w5.heap.size w5 W → Calls Try.prog 13 #[cmV c s] W fun e w' => ∃ v, e = .returned v ∧ Below W.heap.size W w' ∧ PB.E (.int .i64 er) v w') := fun W hW => (wCheck_any P W c s (HCR.out.on (bel_trans' HB5.out hW))).mono (by
        rintro e w' ⟨rfl, hb⟩
        exact ⟨_, rfl, hb, by rw [HER.out]; rfl⟩)
      have HPL : Hid (∀ W, Below w5.heap.size w5 W → Calls Try.prog 15 #[cmV c s] W fun e w' => ∃ v, e = .returned v ∧ Below W.heap.size W w' ∧ IsC (plain c) v w') := fun W hW => (wPlain_any P W c s (HCR.out.on (bel_trans' HB5.out hW)) HSM.out).mono (by
        rintro e w' ⟨s', rfl, hcm, hb⟩
        exact ⟨_, rfl, hb, s', rfl, hcm.mono (fun _ _ => trivial)⟩)
      have HRP : Hid (∀ W, Below w5.heap.size w5 W → Calls Try.prog 16 #[cmV c s] W fun e w' => ∃ v, e = .returned v ∧ Below W.heap.size W w' ∧ IsC (plain c) v w') := fun W hW => (rPlain_any W c s).mono (by
        rintro e w' ⟨rfl, hb⟩
        exact ⟨_, rfl, hb, _, rfl, (((HCR.out.on (bel_trans' HB5.out hW)).plain).on hb).mono (fun _ _ => trivial)⟩)
      clear hb5 HRC HB4 HX4 n0 n1 n2 n3 n4 n5 n6 n7 n8
      go_wp2_with fail
      refine PT.wp_region_tail 21 (PB.phi [PB.E (.int .i64 er), PB.E (.int .i64 er), PB.E (.int .i64 er), PB.E (.bool false), PB.E (.bool false), PB.E (cmV c s), PB.E (.int .i64 er), PB.E (.int .i64 er), PB.E (.int .i64 er), PB.E (.bool false), PB.E (.bool false), PB.E (.bool false), PB.E (cmV c s), IsC (plain c), OneC (plain c), PB.E (cmV c s), IsC (plain c), OneC (plain c), PB.E (.bool true), PB.E (.bool false), PB.E (.bool false)]) mixed' (by kernel_rfl)
        (PB.phi_lasts _ ⟨PB.E_lasts _, PB.E_lasts _, PB.E_lasts _, PB.E_lasts _, PB.E_lasts _, PB.E_lasts _, PB.E_lasts _, PB.E_lasts _, PB.E_lasts _, PB.E_lasts _, PB.E_lasts _, PB.E_lasts _, PB.E_lasts _, isC_lasts _, oneC_lasts _, PB.E_lasts _, isC_lasts _, oneC_lasts _, PB.E_lasts _, PB.E_lasts _, PB.E_lasts _, trivial⟩) ?_ ?_
      · refine ⟨?_, ?_, ?_, ?_, ?_, ?_, ?_, ?_, ?_, ?_, ?_, ?_, ?_, ?_, ?_, ?_, ?_, ?_, ?_, ?_, ?_, trivial⟩ <;> intro A W hB hS hA hF
        · exact Or.inl (PB.does_move (PB.wanted_free rfl) rfl (hS.slots 6 rfl))
        · exact Or.inl (PB.does_call #[.int .i64 er] (PB.wanted_free rfl) rfl Try.func12 rfl rfl (by show [PB.slot A 28] = _; rw [show PB.slot A 28 = .int .i64 er from (hA 0 rfl)]) (HCO.out er W))
        · exact Or.inl (PB.does_move (PB.wanted_free rfl) rfl (hS.slots 7 rfl))
        · exact Or.inl (PB.does_bin (PB.wanted_free rfl) rfl (hA 1 rfl) (hA 2 rfl) (run_neqI W _ _ _) rfl)
        · exact Or.inl (PB.does_move (PB.wanted_free rfl) rfl (hA 3 rfl))
        · exact Or.inl (PB.does_run (PB.wanted_by rfl rfl (hA 4 rfl)) (run_loadC (o := 0) W (hS.slots 3 rfl) (fun i hi => by rw [Nat.zero_add]; exact (HX5.out.keep hB).cell i)) rfl)
        · exact Or.inl (PB.does_call #[cmV c s] (PB.wanted_by rfl rfl (hA 4 rfl)) rfl Try.func13 rfl rfl (by show [PB.slot A 33] = _; rw [show PB.slot A 33 = cmV c s from (hA 5 rfl)]) (HWC.out W hB))
        · exact Or.inl (PB.does_call #[.int .i64 er] (PB.wanted_by rfl rfl (hA 4 rfl)) rfl Try.func12 rfl rfl (by show [PB.slot A 34] = _; rw [show PB.slot A 34 = .int .i64 er from (hA 6 rfl)]) (HCO.out er W))
        · exact Or.inl (PB.does_move (PB.wanted_by rfl rfl (hA 4 rfl)) rfl (hS.slots 7 rfl))
        · exact Or.inl (PB.does_bin (PB.wanted_by rfl rfl (hA 4 rfl)) rfl (hA 7 rfl) (hA 8 rfl) (run_neqI W _ _ _) rfl)
        · exact Or.inl (PB.does_run (PB.wanted_free rfl) (run_pickE W (hA 4 rfl) (hA 9 rfl)) rfl)
        · exact Or.inl (PB.does_move (PB.wanted_free rfl) rfl (hA 10 rfl))
        · exact Or.inl (PB.does_run (PB.wanted_by rfl rfl (hA 11 rfl)) (run_loadC (o := 0) W (hS.slots 3 rfl) (fun i hi => by rw [Nat.zero_add]; exact (HX5.out.keep hB).cell i)) rfl)
        · exact Or.inl (PB.does_call #[cmV c s] (PB.wanted_by rfl rfl (hA 11 rfl)) rfl Try.func15 rfl rfl (by show [PB.slot A 40] = _; rw [show PB.slot A 40 = cmV c s from (hA 12 rfl)]) (HPL.out W hB))
        · exact Or.inl (does_oneC (PB.wanted_by rfl rfl (hA 11 rfl)) rfl (hA 13 rfl))
        · exact Or.inl (PB.does_run (PB.wanted_by rfl rfl (hA 11 rfl)) (run_loadC (o := 0) W (hS.slots 3 rfl) (fun i hi => by rw [Nat.zero_add]; exact (HX5.out.keep hB).cell i)) rfl)
        · exact Or.inl (PB.does_call #[cmV c s] (PB.wanted_by rfl rfl (hA 11 rfl)) rfl Try.func16 rfl rfl (by show [PB.slot A 43] = _; rw [show PB.slot A 43 = cmV c s from (hA 15 rfl)]) (HRP.out W hB))
        · exact Or.inl (does_oneC (PB.wanted_by rfl rfl (hA 11 rfl)) rfl (hA 16 rfl))
        · exact Or.inl (PB.does_call #[PB.slot A 42, PB.slot A 45, .bool false] (PB.wanted_by rfl rfl (hA 11 rfl)) rfl Try.func14 rfl rfl rfl (same_one (AlC.refl _) HSM.out.plain (hA 14 rfl) (hA 17 rfl)))
        · exact Or.inl (PB.does_run (PB.wanted_by rfl rfl (hA 11 rfl)) (run_notT W (hA 18 rfl)) rfl)
        · exact Or.inl (PB.does_run (PB.wanted_free rfl) (run_pickE W (hA 11 rfl) (hA 19 rfl)) rfl)
      · intro A W hB hS hL
        have h_28 : PB.slot A 28 = .int .i64 er := hL 0 (by decide)
        have h_29 : PB.slot A 29 = .int .i64 er := hL 1 (by decide)
        have h_30 : PB.slot A 30 = .int .i64 er := hL 2 (by decide)
        have h_31 : PB.slot A 31 = .bool false := hL 3 (by decide)
        have h_32 : PB.slot A 32 = .bool false := hL 4 (by decide)
        have h_33 : PB.slot A 33 = cmV c s := hL 5 (by decide)
        have h_34 : PB.slot A 34 = .int .i64 er := hL 6 (by decide)
        have h_35 : PB.slot A 35 = .int .i64 er := hL 7 (by decide)
        have h_36 : PB.slot A 36 = .int .i64 er := hL 8 (by decide)
        have h_37 : PB.slot A 37 = .bool false := hL 9 (by decide)
        have h_38 : PB.slot A 38 = .bool false := hL 10 (by decide)
        have h_39 : PB.slot A 39 = .bool false := hL 11 (by decide)
        have h_40 : PB.slot A 40 = cmV c s := hL 12 (by decide)
        have h_43 : PB.slot A 43 = cmV c s := hL 15 (by decide)
        have h_46 : PB.slot A 46 = .bool true := hL 18 (by decide)
        have h_47 : PB.slot A 47 = .bool false := hL 19 (by decide)
        have h_48 : PB.slot A 48 = .bool false := hL 20 (by decide)
        have q_0 : PB.slot A 0 = .slice a ln cap := hS.slots 0 rfl
        have q_3 : PB.slot A 3 = .pointer (some ⟨w.heap.size, 0, none⟩) := hS.slots 3 rfl
        have q_5 : PB.slot A 5 = .slice xa xn xc := hS.slots 5 rfl
        have q_6 : PB.slot A 6 = .int .i64 er := hS.slots 6 rfl
        have q_7 : PB.slot A 7 = .int .i64 er := hS.slots 7 rfl
        have hA := PT.frame_of (A := A) (n := 96) hS.size
        have hd : A.defers = [] := hS.defers
        rw [hd] at hA
        obtain ⟨fr, hf⟩ : ∃ f, PB.slot A = f := ⟨_, rfl⟩
        rw [hf] at hA h_28 h_29 h_30 h_31 h_32 h_33 h_34 h_35 h_36 h_37 h_38 h_39 h_40 h_43 h_46 h_47 h_48 q_0 q_3 q_5 q_6 q_7
        rw [hA]
        clear hA hf hd hL hS
        simp only [List.range, List.range.loop, List.map_cons, List.map_nil, List.drop_succ_cons, List.drop_zero, h_28, h_29, h_30, h_31, h_32, h_33, h_34, h_35, h_36, h_37, h_38, h_39, h_40, h_43, h_46, h_47, h_48, q_0, q_3, q_5, q_6, q_7]
        clear h_28 h_29 h_30 h_31 h_32 h_33 h_34 h_35 h_36 h_37 h_38 h_39 h_40 h_43 h_46 h_47 h_48 q_0 q_3 q_5 q_6 q_7
        have HBW := hid' (bel_trans' HB5.out hB)
        rcases HCASE.out with ⟨h0, hxn, hxc, hbts⟩ | ⟨h0, hxn⟩
        · obtain rfl : er = 0 := by rw [← HER.out]; exact h0
          have hlb : (l ++ cmdB c).length ≤ 1000000 := by
            have := len_cmd h0 HN.out
            rw [List.length_append, HLN.out]
            omega
          have B4W := bel_trans' HB45.out hB
          have HGET := hid' (wGet_any W xa xc (l ++ cmdB c) (l.length : Int) ((hbts.keep B4W).mono B4W.size) hxc (by omega))
          rw [← hxn, HLN.out] at HGET
          have HB4W := hid' B4W
          have HH0 := hid' h0
          have HXN := hid' hxn
          have HBS := hid' hbts
          have HL := hid' hlb
          have HBR := hid' hB
          clear hxn hbts hlb hxc h0 B4W HCASE hB HWC HPL HER
          go_wp2_with fail
          refine HGET.out.mono ?_
          intro e6 w6 hans6
          rw [← HLN.out] at hans6
          obtain ⟨sd, rfl, hcd, hb6⟩ := cmd_back HH0.out HN.out HCR.out.byt hans6
          rw [← HXN.out]
          have BA := (Below.refl w6.heap.size w6).alloc (Nat.le_refl _) (.cells (cmA (normC c) sd) 31)
          have HD7 := hid' (Bx.new w6 (cmA (normC c) sd) 31)
          have HB57 := hid' (bel_trans' HBR.out (bel_trans' hb6 BA))
          have HDC := hid' ((hcd.on BA).mono (Q := fun _ => True) (fun _ _ => trivial))
          have HB47 := hid' (bel_trans' HB4W.out (bel_trans' hb6 BA))
          obtain ⟨W7, hW7⟩ : ∃ W, w6.alloc (.cells (cmA (normC c) sd) 31) = W := ⟨_, rfl⟩
          rw [hW7] at HD7 HB57 HDC HB47
          have HW7 := hid' hW7
          have HB7 := hid' (bel_trans' HB5.out HB57.out)
          have HX7 := hid' (HX5.out.keep HB57.out)
          have HNI := hid' (normC_nice HH0.out HN.out HCR.out.byt)
          have HCX : Hid (∀ W' : World, Below W7.heap.size W7 W' → (convert 22 9 (.slice xa xn xc)).run Try.prog W' = .ok (.string (strOfNums (l ++ cmdB c))) W') := fun W' hW => ((HBS.out.keep (bel_trans' HB47.out hW)).conv xn xc HXN.out.symm)
          have HCB : Hid (∀ W' : World, Below W7.heap.size W7 W' → (convert 22 9 (.slice a ln cap)).run Try.prog W' = .ok (.string (strOfNums l)) W') := fun W' hW => ((HBT.out.keep (bel_trans' HB7.out hW)).conv ln cap HLN.out)
          have HRB : Hid (∀ W', Below W7.heap.size W7 W' → Calls Try.prog 18 #[cmV c s] W' fun e w' => ∃ v, e = .returned v ∧ Below W'.heap.size W' w' ∧ NewIs (cmdB c) v w') := fun W' hW => (rBytes_any P W' c s (HCR.out.on (bel_trans' HB7.out hW)) HN.out HH0.out).mono (by
            rintro e w' ⟨v, rfl, ho, hb⟩
            exact ⟨v, rfl, hb, new_own ho (byt_cmd HH0.out HCR.out.byt) cmdB_ne⟩)
          have HSZ : Hid ((strOfNums l).size + (strOfNums (cmdB c)).size ≤ 9223372036854775807) := (by
            have := HL.out
            rw [strOfNums_size, strOfNums_size, ← List.length_append]
            omega : _ ≤ _)
          have HLV2 : Hid (∀ W', Calls Try.prog 9 #[] W' fun e w' => ∃ v, e = .returned v ∧ Below W'.heap.size W' w' ∧ PB.E (.bool true) v w') := fun W' => (live_any W').mono (by
            rintro e w' ⟨rfl, hb⟩
            exact ⟨_, rfl, hb, rfl⟩)
          clear hans6 hcd hb6 BA hW7 HGET HBS HL HBR HB4W HB47 HBT
          unfold cmV
          unfold cmA at HW7 ⊢
          go_wp2_with fail
          rw [HW7.out]
          clear HW7
          refine PT.wp_region_tail 32 (PB.phi [PB.E (.slice xa xn xc), PB.E (.string (strOfNums (l ++ cmdB c))), PB.E (.slice a ln cap), PB.E (.string (strOfNums l)), PB.E (cmV c s), NewIs (cmdB c), PB.E (.string (strOfNums (cmdB c))), PB.E (.string (strOfNums l ++ strOfNums (cmdB c))), PB.E (.bool true), PB.E (.bool true), PB.E (.int .i64 0), PB.E (.int .i64 0), PB.E (.bool true), PB.E (.bool true), PB.E (.bool true), PB.E (.int .i64 (xn : Int)), PB.E (.slice xa xn xc), PB.E (.int .i64 (xn : Int)), PB.E (.bool true), PB.E (.bool true), PB.E (.bool true), PB.E (cmV (normC c) sd), OneC (normC c), PB.E (cmV c s), IsC (plain c), OneC (plain c), PB.E (.bool true), PB.E (.bool true), PB.E (.bool true), PB.E (.bool true), PB.E (.bool true), PB.E (.bool true)]) mixed' (by kernel_rfl)
            (PB.phi_lasts _ ⟨PB.E_lasts _, PB.E_lasts _, PB.E_lasts _, PB.E_lasts _, PB.E_lasts _, new_lasts _, PB.E_lasts _, PB.E_lasts _, PB.E_lasts _, PB.E_lasts _, PB.E_lasts _, PB.E_lasts _, PB.E_lasts _, PB.E_lasts _, PB.E_lasts _, PB.E_lasts _, PB.E_lasts _, PB.E_lasts _, PB.E_lasts _, PB.E_lasts _, PB.E_lasts _, PB.E_lasts _, oneC_lasts _, PB.E_lasts _, isC_lasts _, oneC_lasts _, PB.E_lasts _, PB.E_lasts _, PB.E_lasts _, PB.E_lasts _, PB.E_lasts _, PB.E_lasts _, trivial⟩) ?_ ?_
          · refine ⟨?_, ?_, ?_, ?_, ?_, ?_, ?_, ?_, ?_, ?_, ?_, ?_, ?_, ?_, ?_, ?_, ?_, ?_, ?_, ?_, ?_, ?_, ?_, ?_, ?_, ?_, ?_, ?_, ?_, ?_, ?_, ?_, trivial⟩ <;> intro A W hB hS hA hF
            · exact Or.inl (PB.does_move (PB.wanted_free rfl) rfl (hS.slots 5 rfl))
            · exact Or.inl (PB.does_convertOf (PB.wanted_free rfl) rfl (hA 0 rfl) (HCX.out W hB) rfl)
            · exact Or.inl (PB.does_move (PB.wanted_free rfl) rfl (hS.slots 0 rfl))
            · exact Or.inl (PB.does_convertOf (PB.wanted_free rfl) rfl (hA 2 rfl) (HCB.out W hB) rfl)
            · exact Or.inl (PB.does_run (PB.wanted_free rfl) (run_loadC (o := 0) W (hS.slots 3 rfl) (fun i hi => by rw [Nat.zero_add]; exact (HX7.out.keep hB).cell i)) rfl)
            · exact Or.inl (PB.does_call #[cmV c s] (PB.wanted_free rfl) rfl Try.func18 rfl rfl (by show [PB.slot A 69] = _; rw [show PB.slot A 69 = cmV c s from (hA 4 rfl)]) (HRB.out W hB))
            · exact Or.inl (PB.does_convert (PB.wanted_free rfl) rfl (new_conv (hA 5 rfl)) rfl)
            · exact Or.inl (PB.does_bin (PB.wanted_free rfl) rfl (hA 3 rfl) (hA 6 rfl) (run_addStr W _ _ _ _ HSZ.out) rfl)
            · exact Or.inl (PB.does_bin (PB.wanted_free rfl) rfl (hA 1 rfl) (show PB.slot A 72 = .string (strOfNums (l ++ cmdB c)) from (by rw [← str_add]; exact hA 7 rfl)) (run_eqlStr W _ _ _) rfl)
            · exact Or.inl (PB.does_move (PB.wanted_free rfl) rfl (hA 8 rfl))
            · exact Or.inl (PB.does_move (PB.wanted_by rfl rfl (hA 9 rfl)) rfl (hS.slots 10 rfl))
            · exact Or.inl (PB.does_call #[.int .i64 0] (PB.wanted_by rfl rfl (hA 9 rfl)) rfl Try.func12 rfl rfl (by show [PB.slot A 75] = _; rw [show PB.slot A 75 = .int .i64 0 from (hA 10 rfl)]) (HCO.out 0 W))
            · exact Or.inl (PB.does_bin2 (PB.wanted_by rfl rfl (hA 9 rfl)) rfl (hA 11 rfl) rfl (run_eqlI W _ _ _) rfl)
            · exact Or.inl (PB.does_run (PB.wanted_free rfl) (run_pickT W (hA 9 rfl) (hA 12 rfl)) rfl)
            · exact Or.inl (PB.does_move (PB.wanted_free rfl) rfl (hA 13 rfl))
            · exact Or.inl (PB.does_move (PB.wanted_by rfl rfl (hA 14 rfl)) rfl (hS.slots 9 rfl))
            · exact Or.inl (PB.does_move (PB.wanted_by rfl rfl (hA 14 rfl)) rfl (hS.slots 5 rfl))
            · exact Or.inl (PB.does_run (PB.wanted_by rfl rfl (hA 14 rfl)) (run_lenB W (hA 16 rfl)) rfl)
            · exact Or.inl (PB.does_bin (PB.wanted_by rfl rfl (hA 14 rfl)) rfl (hA 15 rfl) (hA 17 rfl) (run_eqlI W _ _ _) rfl)
            · exact Or.inl (PB.does_run (PB.wanted_free rfl) (run_pickT W (hA 14 rfl) (hA 18 rfl)) rfl)
            · exact Or.inl (PB.does_move (PB.wanted_free rfl) rfl (hA 19 rfl))
            · exact Or.inl (PB.does_run (PB.wanted_by rfl rfl (hA 20 rfl)) (run_loadC (o := 0) W (hS.slots 8 rfl) (fun i hi => by rw [Nat.zero_add]; exact (HD7.out.keep hB).cell i)) rfl)
            · exact Or.inl (does_oneC (PB.wanted_by rfl rfl (hA 20 rfl)) rfl (⟨sd, hA 21 rfl, (HDC.out.on hB)⟩))
            · exact Or.inl (PB.does_run (PB.wanted_by rfl rfl (hA 20 rfl)) (run_loadC (o := 0) W (hS.slots 3 rfl) (fun i hi => by rw [Nat.zero_add]; exact (HX7.out.keep hB).cell i)) rfl)
            · exact Or.inl (PB.does_call #[cmV c s] (PB.wanted_by rfl rfl (hA 20 rfl)) rfl Try.func16 rfl rfl (by show [PB.slot A 88] = _; rw [show PB.slot A 88 = cmV c s from (hA 23 rfl)]) (HRP.out W (bel_trans' HB57.out hB)))
            · exact Or.inl (does_oneC (PB.wanted_by rfl rfl (hA 20 rfl)) rfl (hA 24 rfl))
            · exact Or.inl (PB.does_call #[PB.slot A 87, PB.slot A 90, .bool false] (PB.wanted_by rfl rfl (hA 20 rfl)) rfl Try.func14 rfl rfl rfl (same_one (AlC.ofNorm _) (Nice.sm (.inr HNI.out)) (hA 22 rfl) (hA 25 rfl)))
            · exact Or.inl (PB.does_run (PB.wanted_free rfl) (run_pickT W (hA 20 rfl) (hA 26 rfl)) rfl)
            · exact Or.inl (PB.does_move (PB.wanted_free rfl) rfl (hA 27 rfl))
            · exact Or.inl (PB.does_call #[] (PB.wanted_by rfl rfl (hA 28 rfl)) rfl Try.func9 rfl rfl rfl (HLV2.out W))
            · exact Or.inl (PB.does_run (PB.wanted_free rfl) (run_pickT W (hA 28 rfl) (hA 29 rfl)) rfl)
            · exact Or.inl (PB.does_assign (PB.wanted_free rfl) rfl (hA 30 rfl))
          · intro A W hB hS hL
            have h_65 : PB.slot A 65 = .slice xa xn xc := hL 0 (by decide)
            have h_66 : PB.slot A 66 = .string (strOfNums (l ++ cmdB c)) := hL 1 (by decide)
            have h_67 : PB.slot A 67 = .slice a ln cap := hL 2 (by decide)
            have h_68 : PB.slot A 68 = .string (strOfNums l) := hL 3 (by decide)
            have h_69 : PB.slot A 69 = cmV c s := hL 4 (by decide)
            have h_71 : PB.slot A 71 = .string (strOfNums (cmdB c)) := hL 6 (by decide)
            have h_72 : PB.slot A 72 = .string (strOfNums l ++ strOfNums (cmdB c)) := hL 7 (by decide)
            have h_73 : PB.slot A 73 = .bool true := hL 8 (by decide)
            have h_74 : PB.slot A 74 = .bool true := hL 9 (by decide)
            have h_75 : PB.slot A 75 = .int .i64 0 := hL 10 (by decide)
            have h_76 : PB.slot A 76 = .int .i64 0 := hL 11 (by decide)
            have h_77 : PB.slot A 77 = .bool true := hL 12 (by decide)
            have h_78 : PB.slot A 78 = .bool true := hL 13 (by decide)
            have h_79 : PB.slot A 79 = .bool true := hL 14 (by decide)
            have h_80 : PB.slot A 80 = .int .i64 (xn : Int) := hL 15 (by decide)
            have h_81 : PB.slot A 81 = .slice xa xn xc := hL 16 (by decide)
            have h_82 : PB.slot A 82 = .int .i64 (xn : Int) := hL 17 (by decide)
            have h_83 : PB.slot A 83 = .bool true := hL 18 (by decide)
            have h_84 : PB.slot A 84 = .bool true := hL 19 (by decide)
            have h_85 : PB.slot A 85 = .bool true := hL 20 (by decide)
            have h_86 : PB.slot A 86 = cmV (normC c) sd := hL 21 (by decide)
            have h_88 : PB.slot A 88 = cmV c s := hL 23 (by decide)
            have h_91 : PB.slot A 91 = .bool true := hL 26 (by decide)
            have h_92 : PB.slot A 92 = .bool true := hL 27 (by decide)
            have h_93 : PB.slot A 93 = .bool true := hL 28 (by decide)
            have h_94 : PB.slot A 94 = .bool true := hL 29 (by decide)
            have h_95 : PB.slot A 95 = .bool true := hL 30 (by decide)
            have h_4 : PB.slot A 4 = .bool true := hL 31 (by decide)
            have hA := PT.frame_of (A := A) (n := 96) hS.size
            have hd : A.defers = [] := hS.defers
            rw [hd] at hA
            obtain ⟨fr, hf⟩ : ∃ f, PB.slot A = f := ⟨_, rfl⟩
            rw [hf] at hA h_65 h_66 h_67 h_68 h_69 h_71 h_72 h_73 h_74 h_75 h_76 h_77 h_78 h_79 h_80 h_81 h_82 h_83 h_84 h_85 h_86 h_88 h_91 h_92 h_93 h_94 h_95 h_4
            rw [hA]
            clear hA hf hd hL hS
            simp only [List.range, List.range.loop, List.map_cons, List.map_nil, List.drop_succ_cons, List.drop_zero, h_65, h_66, h_67, h_68, h_69, h_71, h_72, h_73, h_74, h_75, h_76, h_77, h_78, h_79, h_80, h_81, h_82, h_83, h_84, h_85, h_86, h_88, h_91, h_92, h_93, h_94, h_95, h_4]
            clear h_65 h_66 h_67 h_68 h_69 h_71 h_72 h_73 h_74 h_75 h_76 h_77 h_78 h_79 h_80 h_81 h_82 h_83 h_84 h_85 h_86 h_88 h_91 h_92 h_93 h_94 h_95 h_4
            go_wp2
            go_ret
            exact ⟨rfl, bel_trans' HB7.out hB⟩
        · subst hxn
          have hz : er ≠ 0 := by rw [← HER.out]; exact h0
          clear HCASE HWC HPL HRP HCO HER h0 hB HB5 HB45 HX5
          go_wp2_with fail
          refine (HLV.out _).mono ?_
          rintro e w6 ⟨rfl, hb6⟩
          go_wp2
          go_ret
          exact ⟨rfl, bel_trans' HBW.out hb6⟩

end Go.Proofs.Ytgalmkhgbokidaa
