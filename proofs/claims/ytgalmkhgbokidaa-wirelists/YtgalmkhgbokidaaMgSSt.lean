/-
  What is proved here: the document's Same of commands that are alike in what they use.
-/
import Derived.Test.YtgalmkhgbokidaaMgP

namespace Go.Proofs.Ytgalmkhgbokidaa
open Go.RowKit Go.Proofs
set_option maxRecDepth 20000
set_option linter.unusedVariables false
set_option linter.unusedSimpArgs false

set_option maxHeartbeats 8000000 in
theorem rSame_true (P Q : Nat → Prop) (w : World) (a b : Option Addr) (ca cb : Nat) (X Y : List (Cm × CmS)) (hX : Cms P w a X) (hY : Cms Q w b Y) (hlen : X.length = Y.length) (hl : X.length ≤ 100000) (hal : ∀ i, i < X.length → AlC (plain (X.getD i (c0, s0)).1) (plain (Y.getD i (c0, s0)).1)) (hsm : ∀ q ∈ X, Sm q.1) :
    Calls Try.prog 14 #[.slice a X.length ca, .slice b Y.length cb, .bool true] w fun e w' => e = .returned (.bool true) ∧ Below w.heap.size w w' := by
  have H1 := hid' hX
  have H2 := hid' hY
  have HAL := hid' hal
  have HSM := hid' hsm
  rw [← hlen]
  have HLEN := hid' hlen
  obtain ⟨n, hn⟩ : ∃ n, X.length = n := ⟨_, rfl⟩
  have HN := hid' hn
  rw [hn] at hl ⊢
  clear hX hY hn hal hsm hlen
  go_enter Try.func14, Try.ntmps14
  go_wp2
  go_loopg [7] n (fun k i wr => ∃ j : Nat, j + k = n ∧ i = .int .i64 (j : Int) ∧ Hid (Below w.heap.size w wr))
  case atStart => exact ⟨0, by omega, rfl, Below.refl _ _⟩
  case round =>
    obtain ⟨j, hj, rfl, HB⟩ := hrel
    cases gk with
    | zero =>
      obtain rfl : j = n := by omega
      go_wp2
      go_ret
      exact ⟨rfl, HB.out⟩
    | succ k =>
      have hjl : j < X.length := by rw [HN.out]; omega
      have hjr : j < Y.length := by rw [← HLEN.out]; exact hjl
      obtain ⟨b1, o1, rfl⟩ := SP.lt H1.out.cells (by rintro rfl; simp at hjl)
      obtain ⟨b2, o2, rfl⟩ := SP.lt H2.out.cells (by rintro rfl; simp at hjr)
      have HC1 := hid' (fun W (hW : Below w.heap.size w W) => (Cms.at (H1.out.on hW) hjl).2)
      have HC2 := hid' (fun W (hW : Below w.heap.size w W) => (Cms.at (H2.out.on hW) hjr).2)
      have HCR1 := hid' (fun W (hW : Below w.heap.size w W) => (H1.out.each _ (getD_mem (d := (c0, s0)) hjl)).on hW)
      have HCR2 := hid' (fun W (hW : Below w.heap.size w W) => (H2.out.each _ (getD_mem (d := (c0, s0)) hjr)).on hW)
      have HA := hid' (HAL.out j hjl)
      have HS := hid' (HSM.out _ (getD_mem (d := (c0, s0)) hjl))
      generalize X.getD j (c0, s0) = qx at *
      generalize Y.getD j (c0, s0) = qy at *
      obtain ⟨x, sx⟩ := qx
      obtain ⟨y, sy⟩ := qy
      simp only at HC1 HC2 HCR1 HCR2 HA HS
      have hjn : j < n := by omega
      clear hjl hjr
      go_wp2_with fail
      generalize hA0 : Act.mk _ _ = A0
      have e0 : PB.slot A0 0 = .slice (some ⟨b1, o1, none⟩) n ca := by rw [← hA0]; rfl
      have e1 : PB.slot A0 1 = .slice (some ⟨b2, o2, none⟩) n cb := by rw [← hA0]; rfl
      have e7 : PB.slot A0 7 = .int .i64 (j : Int) := by rw [← hA0]; rfl
      have esz : A0.tmps.size = 98 := by rw [← hA0]; rfl
      have ed : A0.defers = [] := by rw [← hA0]
      have hBW : ∀ W, Below wr.heap.size wr W → Below w.heap.size w W := fun W h => bel_trans' HB.out h
      refine PB.wp_region_invT (R6 (vals6 b1 o1 n ca b2 o2 cb j (cmV x sx) (cmV y sy)) (cmA x sx) (cmA y sy) A0 wr) mixed' (by kernel_rfl)
        ⟨rfl, rfl, fun _ _ _ _ => rfl, (Below.refl _ _).drew, fun k v _ h => (by cases h), fun h => (by cases h), fun h => (by cases h), fun h => (by cases h), fun h => (by cases h), fun h => (by cases h), fun h => (by cases h), fun h => (by cases h)⟩ ?_ ?_
      · refine ⟨?_, ?_, ?_, ?_, ?_, ?_, ?_, ?_, ?_, ?_, ?_, ?_, trivial⟩ <;> intro L A W hl hw hI
        · exact PB.inv_does (v := .slice (some ⟨b1, o1, none⟩) n ca) (PB.does_move (PB.wanted_free rfl) rfl ((hI.oth 0 (by omega) (by omega) (by omega)).trans e0)) (fun w' hb => hI.pure (by omega) (i := 0) (by omega) rfl hb)
        · exact PB.inv_does (v := .int .i64 (j : Int)) (PB.does_move (PB.wanted_free rfl) rfl ((hI.oth 7 (by omega) (by omega) (by omega)).trans e7)) (fun w' hb => hI.pure (by omega) (i := 1) (by omega) rfl hb)
        · exact PB.inv_does (v := .pointer (some ⟨b1, o1 + j * 9, none⟩)) (PB.does_run (PB.wanted_free rfl) (run_ixK W (hI.vals 0 _ rfl (hw 0 rfl)) (hI.vals 1 _ rfl (hw 1 rfl)) hjn (by omega)) rfl) (fun w' hb => hI.pure (by omega) (i := 2) (by omega) rfl hb)
        · exact PB.inv_does (v := cmV x sx) (PB.does_run (PB.wanted_free rfl) (run_loadC W (hI.vals 2 _ rfl (hw 2 rfl)) (HC1.out W (hBW W hI.below))) rfl) (fun w' hb => hI.pure (by omega) (i := 3) (by omega) rfl hb)
        · exact PB.inv_does (v := .slice (some ⟨b2, o2, none⟩) n cb) (PB.does_move (PB.wanted_free rfl) rfl ((hI.oth 1 (by omega) (by omega) (by omega)).trans e1)) (fun w' hb => hI.pure (by omega) (i := 4) (by omega) rfl hb)
        · exact PB.inv_does (v := .int .i64 (j : Int)) (PB.does_move (PB.wanted_free rfl) rfl ((hI.oth 7 (by omega) (by omega) (by omega)).trans e7)) (fun w' hb => hI.pure (by omega) (i := 5) (by omega) rfl hb)
        · exact PB.inv_does (v := .pointer (some ⟨b2, o2 + j * 9, none⟩)) (PB.does_run (PB.wanted_free rfl) (run_ixK W (hI.vals 4 _ rfl (hw 4 rfl)) (hI.vals 5 _ rfl (hw 5 rfl)) hjn (by omega)) rfl) (fun w' hb => hI.pure (by omega) (i := 6) (by omega) rfl hb)
        · exact PB.inv_does (v := cmV y sy) (PB.does_run (PB.wanted_free rfl) (run_loadC W (hI.vals 6 _ rfl (hw 6 rfl)) (HC2.out W (hBW W hI.below))) rfl) (fun w' hb => hI.pure (by omega) (i := 7) (by omega) rfl hb)
        · exact PB.inv_value (PB.wanted_free rfl) (run_allocNd W) (hI.new6 (by omega) vals6_lt hl)
        · exact PB.inv_value (PB.wanted_free rfl) (run_allocNd W) (hI.new7 (by omega) vals6_lt hl)
        · obtain ⟨g, c, e, hg, hb, h9⟩ := hI.p6 (hw 8 rfl)
          exact PB.inv_skip (PB.wanted_free rfl) rfl (run_storeNd W e (hI.vals 3 _ rfl (hw 3 rfl)) hb h9 rfl (cm9_one x sx)) (hI.store12 vals6_lt (hw 8 rfl) (hw 9 rfl) e hg hb rfl)
        · obtain ⟨g, c, e, hg, hb, h9⟩ := hI.p7 (hw 9 rfl)
          exact PB.inv_skip (PB.wanted_free rfl) rfl (run_storeNd W e (hI.vals 7 _ rfl (hw 7 rfl)) hb h9 rfl (cm9_one y sy)) (hI.store13 vals6_lt (hw 8 rfl) (hw 9 rfl) e hg hb rfl)
      · intro L A W hall hI
        obtain ⟨g6, z6, bx6⟩ := hI.b12 (hall 10 (by decide))
        obtain ⟨g7, z7, bx7⟩ := hI.b13 (hall 11 (by decide))
        have hge6 : wr.heap.size ≤ g6 := by
          obtain ⟨g', c', h1, h2, _⟩ := hI.p6 (hall 8 (by decide))
          rw [z6] at h1
          have := ptr_inj h1
          omega
        have hge7 : wr.heap.size ≤ g7 := by
          obtain ⟨g', c', h1, h2, _⟩ := hI.p7 (hall 9 (by decide))
          rw [z7] at h1
          have := ptr_inj h1
          omega
        have hne67 : g6 ≠ g7 := fun e => hI.apart (hall 8 (by decide)) (hall 9 (by decide)) (by rw [z6, z7, e])
        have hA := PQ.frame_puts hI.defers hI.size [8, 9, 21, 22, 23, 24, 25, 26, 27, 28] (fun t ht => hI.oth t (by rintro rfl; simp at ht) (by rintro rfl; simp at ht) (by
          rcases Nat.lt_or_ge t 21 with h | h
          · exact .inl h
          · rcases Nat.lt_or_ge t 29 with h' | h'
            · exact absurd (show t ∈ [8, 9, 21, 22, 23, 24, 25, 26, 27, 28] by
                rcases (show t = 21 ∨ t = 22 ∨ t = 23 ∨ t = 24 ∨ t = 25 ∨ t = 26 ∨ t = 27 ∨ t = 28 by omega) with h | h | h | h | h | h | h | h <;> subst h <;> simp) ht
            · exact .inr h'))
        have BW := hid' hI.below
        have BX6 := hid' bx6
        have BX7 := hid' bx7
        clear hI hall bx6 bx7
        rw [hA, ← hA0]
        simp only [PQ.puts, z6, z7]
        generalize PB.slot A 21 = f21
        generalize PB.slot A 22 = f22
        generalize PB.slot A 23 = f23
        generalize PB.slot A 24 = f24
        generalize PB.slot A 25 = f25
        generalize PB.slot A 26 = f26
        generalize PB.slot A 27 = f27
        generalize PB.slot A 28 = f28
        clear hA z6 z7 hA0 e0 e1 e7 esz ed
        simp only [Act.put, List.setIfInBounds_toArray, List.set_cons_succ, List.set_cons_zero, ptr]
        have HEQ := hid' (show (plain x).front = (plain y).front ∧ (plain x).time = (plain y).time ∧ (plain x).diff = (plain y).diff from ⟨HA.out.front, HA.out.time, HA.out.diff⟩)
        have HPI : Hid (plInv wr g6 g7 x y sx sy [] W.drew) := ⟨BW.out.drew, hge6, hge7, hne67, BX6.out.keep (Below.refl _ _).drew, BX7.out.keep (Below.refl _ _).drew⟩
        clear BX6 BX7 BW
        go_wp2_with fail
        refine PQ.wp_region_quiet (plVal (cmV x sx) (cmV y sy)) (plInv wr g6 g7 x y sx sy) mixed' (by kernel_rfl) HPI.out ?_ ?_
        · refine ⟨?_, ?_, ?_, ?_, ?_, ?_, trivial⟩
          · intro vs A W hI hC
            have hlt : vs.length ≤ 0 := hC.ahead 1 _ rfl rfl rfl
            obtain rfl : vs = [] := List.length_eq_zero_iff.1 (by omega)
            exact ⟨PB.wanted_free rfl, run_loadC (o := 0) W (hC.outer 8 rfl) (fun i hi => by rw [Nat.zero_add]; exact hI.2.2.2.2.1.cell i)⟩
          · intro vs A W hk hI hC
            obtain rfl : vs = [] := List.length_eq_zero_iff.1 hk
            obtain ⟨i1, i2, i3, i4, i5, i6⟩ := hI
            refine ⟨PB.wanted_free rfl, PQ.loud_call #[cmV x sx] rfl Try.func16 rfl rfl (congrArg (fun x => [x]) (hC.left 0 rfl)) ?_⟩
            refine (rPlain_any W x sx).mono ?_
            rintro e W2 ⟨rfl, hb⟩
            exact ⟨_, rfl, bel_trans' i1 hb, i2, i3, i4, i5.keep hb, i6.keep hb, rfl⟩
          · intro vs A W hI hC
            have hlt : vs.length ≤ 1 := hC.ahead 3 _ rfl rfl rfl
            match vs, hlt, hI, hC with
            | [], _, hI, hC => exact ⟨PB.wanted_free rfl, run_loadC (o := 0) W (hC.outer 9 rfl) (fun i hi => by rw [Nat.zero_add]; exact hI.2.2.2.2.2.cell i)⟩
            | [p], _, hI, hC => exact ⟨PB.wanted_free rfl, run_loadC (o := 0) W (hC.outer 9 rfl) (fun i hi => by rw [Nat.zero_add]; exact hI.2.2.2.2.2.1.cell i)⟩
          · intro vs A W hk hI hC
            match vs, hk, hI, hC with
            | [p], _, hI, hC =>
              obtain ⟨i1, i2, i3, i4, i5, i6, i7⟩ := hI
              refine ⟨PB.wanted_free rfl, PQ.loud_call #[cmV y sy] rfl Try.func16 rfl rfl (congrArg (fun x => [x]) (hC.left 2 rfl)) ?_⟩
              refine (rPlain_any W y sy).mono ?_
              rintro e W2 ⟨rfl, hb⟩
              exact ⟨_, rfl, bel_trans' i1 hb, i2, i3, i4, i5.keep hb, i6.keep hb, i7, rfl⟩
          · intro vs A W hk hI hC
            match vs, hk, hI, hC with
            | [p, q], _, hI, hC =>
              obtain ⟨i1, i2, i3, i4, i5, i6, rfl, i8⟩ := hI
              refine ⟨PB.wanted_free rfl, PQ.loud_skip rfl (run_storeC W (hC.outer 8 rfl) (hC.left 1 rfl) i5) ?_⟩
              exact ⟨set9_below i1 i2 _ _, i2, i3, i4, set9_bx i5 _ _, (set9_other W _ _ _ (Ne.symm i4)).trans i6, i8⟩
          · intro vs A W hk hI hC
            match vs, hk, hI, hC with
            | [p, q, r], _, hI, hC =>
              obtain ⟨i1, i2, i3, i4, i5, i6, rfl⟩ := hI
              refine ⟨PB.wanted_free rfl, PQ.loud_skip rfl (run_storeC W (hC.outer 9 rfl) (hC.left 3 rfl) i6) ?_⟩
              exact ⟨set9_below i1 i3 _ _, i2, i3, i4, (set9_other W _ _ _ i4).trans i5, set9_bx i6 _ _⟩
        · intro vs A W4 hk hI hE
          match vs, hk, hI, hE with
          | [p, q, r, t], _, hI, hE =>
            obtain ⟨i1, i2, i3, i4, i5, i6⟩ := hI
            have BW := hid' i1
            have BX6 := hid' i5
            have BX7 := hid' i6
            clear i1 i2 i3 i4 i5 i6 HPI
            have h_30 : PB.slot A 30 = cmV x sx := hE.left 0
            have h_31 : PB.slot A 31 = p := hE.left 1
            have h_32 : PB.slot A 32 = cmV y sy := hE.left 2
            have h_33 : PB.slot A 33 = q := hE.left 3
            have hA := PQ.frame_puts hE.defers hE.size [30, 31, 32, 33] (fun t ht => hE.outer t (by simp only [List.mem_cons, List.not_mem_nil, or_false, not_or] at ht; simp [PB.outer]; omega))
            obtain ⟨fr, hf⟩ : ∃ f, PB.slot A = f := ⟨_, rfl⟩
            rw [hA]
            simp only [PQ.puts]
            rw [hf] at h_30 h_31 h_32 h_33 ⊢
            clear hA hf hE
            simp only [h_30, h_31, h_32, h_33, Act.put, List.setIfInBounds_toArray, List.set_cons_succ, List.set_cons_zero]
            clear h_30 h_31 h_32 h_33
            have HW := hid' (hBW _ BW.out)
            have CX := hid' (HCR1.out _ HW.out)
            have CY := hid' (HCR2.out _ HW.out)
            replace CX := hid' CX.out.plain
            replace CY := hid' CY.out.plain
            replace HS := hid' HS.out.plain
            generalize hcx : plain x = x' at *
            generalize hcy : plain y = y' at *
            generalize hsx : plainS x sx = sx' at *
            generalize hsy : plainS y sy = sy' at *
            obtain ⟨m0, m1, m2, m3, m4, m5, m6, m7, m8⟩ := cm_cells BX6.out
            obtain ⟨l0, l1, l2, l3, l4, l5, l6, l7, l8⟩ := cm_cells BX7.out
            obtain ⟨a0, a1, a2, a3, a4, a5, a6, a7⟩ := HA.out
            have hcvx := (BP.bts CX.out.sheet CX.out.byt).conv x'.sheet.length sx'.sc rfl
            have hcvy := (BP.bts CY.out.sheet CY.out.byt).conv y'.sheet.length sy'.sc rfl
            rw [← a7] at hcvy l8
            rw [← a5] at l6
            rw [← a0] at l0
            rw [← a1] at l1
            rw [← a3] at l3 l4
            rw [← a4] at l5
            rw [← a6] at l7
            have HSO := hid' (oSame_alike P Q W4 sx'.ra sy'.ra sx'.rc sy'.rc x'.row y'.row CX.out.row CY.out.row a2 HS.out.1)
            have HSF := hid' (fun W' (h : Below (W4).heap.size (W4) W') => mSame_any P Q W' sx'.fa sy'.fa sx'.fc sy'.fc x'.front (SP.on CX.out.front h) (by rw [a5]; exact SP.on CY.out.front h) HS.out.2.1)
            generalize strOfNums x'.sheet = st at *
            clear a0 a1 a2 a3 a4 a5 a6 a7 HC1 HC2 HCR1 HCR2 HA hcx hcy hsx hsy
            go_wp2_with fail
            refine HSO.out.mono ?_
            rintro e w3 ⟨rfl, hb3⟩
            have HW3 := hid' (bel_trans' HW.out hb3)
            obtain ⟨m0, m1, m2, m3, m4, m5, m6, m7, m8⟩ := cm_cells (BX6.out.keep hb3)
            have yk := BX7.out.keep hb3
            have n3 : w3.cell? ⟨g7, 3, none⟩ = some (.int .i64 x'.time.1) := by rw [HEQ.out.2.1]; exact yk.cell 3
            have n4 : w3.cell? ⟨g7, 4, none⟩ = some (.int .i64 x'.time.2) := by rw [HEQ.out.2.1]; exact yk.cell 4
            have n5 : w3.cell? ⟨g7, 5, none⟩ = some (.int .i64 x'.diff) := by rw [HEQ.out.2.2]; exact yk.cell 5
            have n6 := yk.cell 6
            have HS3 := hid' (HSF.out w3 hb3)
            have n6' : w3.cell? ⟨g7, 6, none⟩ = some (.slice sy'.fa x'.front.length sy'.fc) := by rw [HEQ.out.1]; exact yk.cell 6
            have HEQF := hid' HEQ.out.1
            clear yk n6 HSF HSO hb3 l0 l1 l2 l3 l4 l5 l6 l7 l8 hcvx hcvy CX CY BX6 BX7
            go_wp2_with fail
            refine HS3.out.mono ?_
            rintro e w4 ⟨rfl, hb4⟩
            have HW4 := hid' (bel_trans' HW3.out hb4)
            clear HS3 hb4
            go_wp2
            go_roundg k
            case measure => omega
            case rel => exact ⟨j + 1, by omega, by simp, HW4⟩

end Go.Proofs.Ytgalmkhgbokidaa
