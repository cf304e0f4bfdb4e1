/-
  What is proved here: Dot of the document; live: the page's example.
-/
import Derived.Test.YtpmlcpnnfllenaaSums
import Derived.Test.YtpmlcpnnfllenaaTail
namespace Go.Proofs.Ytpmlcpnnfllenaa
open Go.RowKit Go.Proofs
set_option linter.unusedVariables false
set_option linter.unusedSimpArgs false

section
variable {a : Act} {t u c : Nat} {dst : Option Tmp} {ty : TypeId} {pos : String} {aft : Array Edge} {guard : Option (Nat × Bool)}

theorem run_index {b off n cap i : Nat} (w : World) (h : PB.slot a t = .slice (some ⟨b, off, none⟩) n cap) (h' : PB.slot a u = .int .i64 (i : Int)) (hi : i < n) (hn : n < 4611686018427387904) :
    (execOp a.eval { dst := dst, op := .indexAddr 31 (.tmp t) (.tmp u), type := ty, pos := pos, after := aft, guard := guard }).run Try.prog w = .ok (.value (.pointer (some ⟨b, off + i, none⟩))) w := by
  have h1 : a.tmps[t]?.getD undef = .slice (some ⟨b, off, none⟩) n cap := by rw [← Array.getD_eq_getD_getElem?]; exact h
  have h2 : a.tmps[u]?.getD undef = .int .i64 (i : Int) := by rw [← Array.getD_eq_getD_getElem?]; exact h'
  go_simp

theorem run_load {b o : Nat} {x : Int} (w : World) (h : PB.slot a t = .pointer (some ⟨b, o, none⟩)) (h1 : w.cell? ⟨b, o, none⟩ = some (.int .i64 x)) :
    (execOp a.eval { dst := dst, op := .load 3 (.tmp t), type := ty, pos := pos, after := aft, guard := guard }).run Try.prog w = .ok (.value (.int .i64 x)) w := by
  have h0 : a.tmps[t]?.getD undef = .pointer (some ⟨b, o, none⟩) := by rw [← Array.getD_eq_getD_getElem?]; exact h
  go_simp

theorem run_extract0 {x y : Value} (w : World) (h : PB.slot a t = .tuple #[x, y]) :
    (execOp a.eval { dst := dst, op := .extract (.tmp t) 0, type := ty, pos := pos, after := aft, guard := guard }).run Try.prog w = .ok (.value x) w := by
  have h0 : a.tmps[t]?.getD undef = .tuple #[x, y] := by rw [← Array.getD_eq_getD_getElem?]; exact h
  go_simp

theorem run_extract1 {x y : Value} (w : World) (h : PB.slot a t = .tuple #[x, y]) :
    (execOp a.eval { dst := dst, op := .extract (.tmp t) 1, type := ty, pos := pos, after := aft, guard := guard }).run Try.prog w = .ok (.value y) w := by
  have h0 : a.tmps[t]?.getD undef = .tuple #[x, y] := by rw [← Array.getD_eq_getD_getElem?]; exact h
  go_simp
end

theorem rMul_newB (x y : Int) (w : World) (hx : R64 x) (hy : R64 y) : Calls Try.prog 15 #[.int .i64 x, .int .i64 y] w fun e w' => ∃ v, e = .returned v ∧ Below w.heap.size w w' ∧ PB.E (pr (fit (x * y))) v w' :=
  (rMul_any x y w hx hy).mono fun e w' ⟨he, hg⟩ => ⟨_, he, hg.below, rfl⟩

set_option maxRecDepth 10000 in
set_option maxHeartbeats 2000000 in
theorem rDot_any (w : World) (a b : Option Addr) (ca cb : Nat) (l r : List Int) (h : Ns w.heap.size w a l) (h' : Ns w.heap.size w b r) (hl : l.length < 4611686018427387904) (hr : r.length < 4611686018427387904) :
    Calls Try.prog 19 #[.slice a l.length ca, .slice b r.length cb] w fun e w' => e = .returned (pr (dotT l r)) ∧ Below w.heap.size w w' := by
  have mixed : Try.prog.follows .mixedOrders = true := by kernel_rfl
  by_cases hlen : l.length = r.length
  · generalize hR : dotT l r = R
    have HR : Hid (dotF 0 (l.zip r) = R) := hid' (by rw [← hR]; unfold dotT; rw [if_pos hlen])
    obtain ⟨n, hn⟩ : ∃ n, l.length = n := ⟨_, rfl⟩
    have HN := hid' hn
    have HM := hid' (hlen.symm.trans hn)
    have HTS := hid' h
    have HTS' := hid' h'
    rw [HM.out, HN.out]
    rw [hn] at hl
    clear hn h hR h' hlen hr
    go_enter Try.func19, Try.ntmps19
    go_wp2
    go_loopg [6, 7] n (fun k s i wr => ∃ (j : Nat) (t : Int), j + k = n ∧ i = .int .i64 (j : Int) ∧ s = .int .i64 t ∧ Hid (R64 t) ∧ Hid (dotF t ((l.zip r).drop j) = R) ∧ Hid (Below w.heap.size w wr))
    case atStart => exact ⟨0, 0, by omega, rfl, rfl, hid' ⟨by simp, by simp⟩, hid' (by simpa using HR.out), hid' (Below.refl _ _)⟩
    case round =>
      obtain ⟨j, t, hj, rfl, rfl, ht, hs, hg⟩ := hrel
      cases gk with
      | zero =>
        obtain rfl : j = n := by omega
        have HE : Hid ((t, (0 : Int)) = R) := by
          have := hs.out
          rw [List.drop_of_length_le (by rw [List.length_zip, HN.out, HM.out]; omega)] at this
          exact this
        clear hs
        go_wp2
        go_ret2
        exact ⟨by rw [← HE.out]; rfl, hg.out⟩
      | succ k =>
        have hjl : j < l.length := by rw [HN.out]; omega
        have hjr : j < r.length := by rw [HM.out]; omega
        obtain ⟨b1, o1, rfl, hB1, hc1⟩ := HTS.out.cells (by rintro rfl; simp at hjl)
        obtain ⟨b2, o2, rfl, hB2, hc2⟩ := HTS'.out.cells (by rintro rfl; simp at hjr)
        have HP1 : Hid (∀ W, Below wr.heap.size wr W → W.cell? ⟨b1, o1 + j, none⟩ = some (.int .i64 (l.getD j 0))) := fun W hW => (hW.cell (p := ⟨b1, o1 + j, none⟩) (Nat.lt_of_lt_of_le hB1 hg.out.size)).trans ((hg.out.cell (p := ⟨b1, o1 + j, none⟩) hB1).trans (hc1 j hjl))
        have HP2 : Hid (∀ W, Below wr.heap.size wr W → W.cell? ⟨b2, o2 + j, none⟩ = some (.int .i64 (r.getD j 0))) := fun W hW => (hW.cell (p := ⟨b2, o2 + j, none⟩) (Nat.lt_of_lt_of_le hB2 hg.out.size)).trans ((hg.out.cell (p := ⟨b2, o2 + j, none⟩) hB2).trans (hc2 j hjr))
        have hx := HTS.out.range _ (getD_mem hjl)
        have hy := HTS'.out.range _ (getD_mem hjr)
        have HX := hs
        rw [zip_step hjl hjr] at HX
        generalize l.getD j 0 = x at HP1 hx HX
        generalize r.getD j 0 = y at HP2 hy HX
        unfold dotF at HX
        simp only at HX
        have HC := hid' (fun w => rMul_newB x y w hx hy)
        clear hc1 hc2 hjl hjr hs hx hy
        generalize x * y = z at HX HC
        by_cases hz : R64 z
        · rw [if_pos hz] at HX
          rw [fit_in hz] at HC
          have HA := hid' (fun w => rAdd_any t z w ht.out hz)
          clear hz
          unfold pr at HC HA
          by_cases h : R64 (t + z)
          · rw [if_pos h] at HX
            rw [fit_in h] at HA
            have HH := hid' h
            clear h
            go_wp2
            refine PT.wp_region_tail 14 (PB.phi [PB.E (.slice (some ⟨b1, o1, none⟩) n ca), PB.E (.int .i64 (j : Int)), PB.E (.pointer (some ⟨b1, o1 + j, none⟩)), PB.E (.int .i64 x), PB.E (.slice (some ⟨b2, o2, none⟩) n cb), PB.E (.int .i64 (j : Int)), PB.E (.pointer (some ⟨b2, o2 + j, none⟩)), PB.E (.int .i64 y), PB.E (.tuple #[.int .i64 z, .int .i64 0]), PB.E (.tuple #[.int .i64 z, .int .i64 0]), PB.E (.int .i64 z), PB.E (.int .i64 0), PB.E (.int .i64 z), PB.E (.int .i64 0)]) mixed (by kernel_rfl)
              (PB.phi_lasts _ ⟨PB.E_lasts _, PB.E_lasts _, PB.E_lasts _, PB.E_lasts _, PB.E_lasts _, PB.E_lasts _, PB.E_lasts _, PB.E_lasts _, PB.E_lasts _, PB.E_lasts _, PB.E_lasts _, PB.E_lasts _, PB.E_lasts _, PB.E_lasts _, trivial⟩) ?_ ?_
            · refine ⟨?_, ?_, ?_, ?_, ?_, ?_, ?_, ?_, ?_, ?_, ?_, ?_, ?_, ?_, trivial⟩ <;> intro A W hB hS hA hF
              · exact Or.inl (PB.does_move (PB.wanted_free rfl) rfl (hS.slots 0 rfl))
              · exact Or.inl (PB.does_move (PB.wanted_free rfl) rfl (hS.slots 7 rfl))
              · exact Or.inl (PB.does_run (PB.wanted_free rfl) (run_index W (hA 0 rfl) (hA 1 rfl) (by omega) (by omega)) rfl)
              · exact Or.inl (PB.does_run (PB.wanted_free rfl) (run_load W (hA 2 rfl) (HP1.out W hB)) rfl)
              · exact Or.inl (PB.does_move (PB.wanted_free rfl) rfl (hS.slots 1 rfl))
              · exact Or.inl (PB.does_move (PB.wanted_free rfl) rfl (hS.slots 7 rfl))
              · exact Or.inl (PB.does_run (PB.wanted_free rfl) (run_index W (hA 4 rfl) (hA 5 rfl) (by omega) (by omega)) rfl)
              · exact Or.inl (PB.does_run (PB.wanted_free rfl) (run_load W (hA 6 rfl) (HP2.out W hB)) rfl)
              · exact Or.inl (PB.does_call #[.int .i64 x, .int .i64 y] (PB.wanted_free rfl) rfl Try.func15 rfl rfl (by show [PB.slot A 27, PB.slot A 31] = _; rw [show PB.slot A 27 = .int .i64 x from (hA 3 rfl), show PB.slot A 31 = .int .i64 y from (hA 7 rfl)]) (HC.out W))
              · exact Or.inl (PB.does_move (PB.wanted_free rfl) rfl (hA 8 rfl))
              · exact Or.inl (PB.does_run (PB.wanted_free rfl) (run_extract0 W (hA 9 rfl)) rfl)
              · exact Or.inl (PB.does_run (PB.wanted_free rfl) (run_extract1 W (hA 9 rfl)) rfl)
              · exact Or.inl (PB.does_assign (PB.wanted_free rfl) rfl (hA 10 rfl))
              · exact Or.inl (PB.does_assign (PB.wanted_free rfl) rfl (hA 11 rfl))
            · intro A W hB hS hL
              have h_24 : PB.slot A 24 = .slice (some ⟨b1, o1, none⟩) n ca := hL 0 (by decide)
              have h_25 : PB.slot A 25 = .int .i64 (j : Int) := hL 1 (by decide)
              have h_26 : PB.slot A 26 = .pointer (some ⟨b1, o1 + j, none⟩) := hL 2 (by decide)
              have h_27 : PB.slot A 27 = .int .i64 x := hL 3 (by decide)
              have h_28 : PB.slot A 28 = .slice (some ⟨b2, o2, none⟩) n cb := hL 4 (by decide)
              have h_29 : PB.slot A 29 = .int .i64 (j : Int) := hL 5 (by decide)
              have h_30 : PB.slot A 30 = .pointer (some ⟨b2, o2 + j, none⟩) := hL 6 (by decide)
              have h_31 : PB.slot A 31 = .int .i64 y := hL 7 (by decide)
              have h_32 : PB.slot A 32 = .tuple #[.int .i64 z, .int .i64 0] := hL 8 (by decide)
              have h_23 : PB.slot A 23 = .tuple #[.int .i64 z, .int .i64 0] := hL 9 (by decide)
              have h_33 : PB.slot A 33 = .int .i64 z := hL 10 (by decide)
              have h_34 : PB.slot A 34 = .int .i64 0 := hL 11 (by decide)
              have h_8 : PB.slot A 8 = .int .i64 z := hL 12 (by decide)
              have h_9 : PB.slot A 9 = .int .i64 0 := hL 13 (by decide)
              have q_0 := hS.slots 0 rfl
              have q_1 := hS.slots 1 rfl
              have q_2 := hS.slots 2 rfl
              have q_3 := hS.slots 3 rfl
              have q_4 := hS.slots 4 rfl
              have q_5 := hS.slots 5 rfl
              have q_6 := hS.slots 6 rfl
              have q_7 := hS.slots 7 rfl
              have q_10 := hS.slots 10 rfl
              have q_11 := hS.slots 11 rfl
              have q_12 := hS.slots 12 rfl
              have q_13 := hS.slots 13 rfl
              have q_14 := hS.slots 14 rfl
              have q_15 := hS.slots 15 rfl
              have q_16 := hS.slots 16 rfl
              have q_17 := hS.slots 17 rfl
              have q_18 := hS.slots 18 rfl
              have q_19 := hS.slots 19 rfl
              have q_20 := hS.slots 20 rfl
              have q_21 := hS.slots 21 rfl
              have q_22 := hS.slots 22 rfl
              have q_35 := hS.slots 35 rfl
              have q_36 := hS.slots 36 rfl
              have q_37 := hS.slots 37 rfl
              have q_38 := hS.slots 38 rfl
              have q_39 := hS.slots 39 rfl
              have q_40 := hS.slots 40 rfl
              have q_41 := hS.slots 41 rfl
              have q_42 := hS.slots 42 rfl
              have q_43 := hS.slots 43 rfl
              have q_44 := hS.slots 44 rfl
              have q_45 := hS.slots 45 rfl
              have q_46 := hS.slots 46 rfl
              have q_47 := hS.slots 47 rfl
              have q_48 := hS.slots 48 rfl
              simp only [PB.slot, Array.getD_eq_getD_getElem?, List.getElem?_toArray, List.getElem?_cons_succ, List.getElem?_cons_zero, Option.getD_some] at q_0 q_1 q_2 q_3 q_4 q_5 q_6 q_7 q_10 q_11 q_12 q_13 q_14 q_15 q_16 q_17 q_18 q_19 q_20 q_21 q_22 q_35 q_36 q_37 q_38 q_39 q_40 q_41 q_42 q_43 q_44 q_45 q_46 q_47 q_48
              have q_0 := (PT.slot_get A 0).trans q_0
              have q_1 := (PT.slot_get A 1).trans q_1
              have q_2 := (PT.slot_get A 2).trans q_2
              have q_3 := (PT.slot_get A 3).trans q_3
              have q_4 := (PT.slot_get A 4).trans q_4
              have q_5 := (PT.slot_get A 5).trans q_5
              have q_6 := (PT.slot_get A 6).trans q_6
              have q_7 := (PT.slot_get A 7).trans q_7
              have q_10 := (PT.slot_get A 10).trans q_10
              have q_11 := (PT.slot_get A 11).trans q_11
              have q_12 := (PT.slot_get A 12).trans q_12
              have q_13 := (PT.slot_get A 13).trans q_13
              have q_14 := (PT.slot_get A 14).trans q_14
              have q_15 := (PT.slot_get A 15).trans q_15
              have q_16 := (PT.slot_get A 16).trans q_16
              have q_17 := (PT.slot_get A 17).trans q_17
              have q_18 := (PT.slot_get A 18).trans q_18
              have q_19 := (PT.slot_get A 19).trans q_19
              have q_20 := (PT.slot_get A 20).trans q_20
              have q_21 := (PT.slot_get A 21).trans q_21
              have q_22 := (PT.slot_get A 22).trans q_22
              have q_35 := (PT.slot_get A 35).trans q_35
              have q_36 := (PT.slot_get A 36).trans q_36
              have q_37 := (PT.slot_get A 37).trans q_37
              have q_38 := (PT.slot_get A 38).trans q_38
              have q_39 := (PT.slot_get A 39).trans q_39
              have q_40 := (PT.slot_get A 40).trans q_40
              have q_41 := (PT.slot_get A 41).trans q_41
              have q_42 := (PT.slot_get A 42).trans q_42
              have q_43 := (PT.slot_get A 43).trans q_43
              have q_44 := (PT.slot_get A 44).trans q_44
              have q_45 := (PT.slot_get A 45).trans q_45
              have q_46 := (PT.slot_get A 46).trans q_46
              have q_47 := (PT.slot_get A 47).trans q_47
              have q_48 := (PT.slot_get A 48).trans q_48
              have hA := PT.frame_of (A := A) (n := 49) hS.size
              have hd : A.defers = [] := hS.defers
              rw [hd] at hA
              obtain ⟨fr, hf⟩ : ∃ f, PB.slot A = f := ⟨_, rfl⟩
              rw [hf] at hA h_24 h_25 h_26 h_27 h_28 h_29 h_30 h_31 h_32 h_23 h_33 h_34 h_8 h_9 q_0 q_1 q_2 q_3 q_4 q_5 q_6 q_7 q_10 q_11 q_12 q_13 q_14 q_15 q_16 q_17 q_18 q_19 q_20 q_21 q_22 q_35 q_36 q_37 q_38 q_39 q_40 q_41 q_42 q_43 q_44 q_45 q_46 q_47 q_48
              rw [hA]
              clear hA hf hd hL hS
              simp only [List.range, List.range.loop, List.map_cons, List.map_nil, List.drop_succ_cons, List.drop_zero, h_24, h_25, h_26, h_27, h_28, h_29, h_30, h_31, h_32, h_23, h_33, h_34, h_8, h_9, q_0, q_1, q_2, q_3, q_4, q_5, q_6, q_7, q_10, q_11, q_12, q_13, q_14, q_15, q_16, q_17, q_18, q_19, q_20, q_21, q_22, q_35, q_36, q_37, q_38, q_39, q_40, q_41, q_42, q_43, q_44, q_45, q_46, q_47, q_48]
              clear h_24 h_25 h_26 h_27 h_28 h_29 h_30 h_31 h_32 h_23 h_33 h_34 h_8 h_9 q_0 q_1 q_2 q_3 q_4 q_5 q_6 q_7 q_10 q_11 q_12 q_13 q_14 q_15 q_16 q_17 q_18 q_19 q_20 q_21 q_22 q_35 q_36 q_37 q_38 q_39 q_40 q_41 q_42 q_43 q_44 q_45 q_46 q_47 q_48
              have HG2 : Hid (Below w.heap.size w W) := hid' (hg.out.trans (hB.mono hg.out.size))
              clear hB
              go_wp2_with fail
              refine (HA.out _).mono ?_
              clear HA
              rintro e w3 ⟨rfl, hg2⟩
              go_wp2
              go_roundg k
              case measure => omega
              case rel => exact ⟨j + 1, t + z, by omega, by simp, rfl, HH, HX, hid' (HG2.out.trans (hg2.below.mono HG2.out.size))⟩
          · rw [if_neg h] at HX
            rw [fit_out h] at HA
            clear h
            go_wp2
            refine PT.wp_region_tail 14 (PB.phi [PB.E (.slice (some ⟨b1, o1, none⟩) n ca), PB.E (.int .i64 (j : Int)), PB.E (.pointer (some ⟨b1, o1 + j, none⟩)), PB.E (.int .i64 x), PB.E (.slice (some ⟨b2, o2, none⟩) n cb), PB.E (.int .i64 (j : Int)), PB.E (.pointer (some ⟨b2, o2 + j, none⟩)), PB.E (.int .i64 y), PB.E (.tuple #[.int .i64 z, .int .i64 0]), PB.E (.tuple #[.int .i64 z, .int .i64 0]), PB.E (.int .i64 z), PB.E (.int .i64 0), PB.E (.int .i64 z), PB.E (.int .i64 0)]) mixed (by kernel_rfl)
              (PB.phi_lasts _ ⟨PB.E_lasts _, PB.E_lasts _, PB.E_lasts _, PB.E_lasts _, PB.E_lasts _, PB.E_lasts _, PB.E_lasts _, PB.E_lasts _, PB.E_lasts _, PB.E_lasts _, PB.E_lasts _, PB.E_lasts _, PB.E_lasts _, PB.E_lasts _, trivial⟩) ?_ ?_
            · refine ⟨?_, ?_, ?_, ?_, ?_, ?_, ?_, ?_, ?_, ?_, ?_, ?_, ?_, ?_, trivial⟩ <;> intro A W hB hS hA hF
              · exact Or.inl (PB.does_move (PB.wanted_free rfl) rfl (hS.slots 0 rfl))
              · exact Or.inl (PB.does_move (PB.wanted_free rfl) rfl (hS.slots 7 rfl))
              · exact Or.inl (PB.does_run (PB.wanted_free rfl) (run_index W (hA 0 rfl) (hA 1 rfl) (by omega) (by omega)) rfl)
              · exact Or.inl (PB.does_run (PB.wanted_free rfl) (run_load W (hA 2 rfl) (HP1.out W hB)) rfl)
              · exact Or.inl (PB.does_move (PB.wanted_free rfl) rfl (hS.slots 1 rfl))
              · exact Or.inl (PB.does_move (PB.wanted_free rfl) rfl (hS.slots 7 rfl))
              · exact Or.inl (PB.does_run (PB.wanted_free rfl) (run_index W (hA 4 rfl) (hA 5 rfl) (by omega) (by omega)) rfl)
              · exact Or.inl (PB.does_run (PB.wanted_free rfl) (run_load W (hA 6 rfl) (HP2.out W hB)) rfl)
              · exact Or.inl (PB.does_call #[.int .i64 x, .int .i64 y] (PB.wanted_free rfl) rfl Try.func15 rfl rfl (by show [PB.slot A 27, PB.slot A 31] = _; rw [show PB.slot A 27 = .int .i64 x from (hA 3 rfl), show PB.slot A 31 = .int .i64 y from (hA 7 rfl)]) (HC.out W))
              · exact Or.inl (PB.does_move (PB.wanted_free rfl) rfl (hA 8 rfl))
              · exact Or.inl (PB.does_run (PB.wanted_free rfl) (run_extract0 W (hA 9 rfl)) rfl)
              · exact Or.inl (PB.does_run (PB.wanted_free rfl) (run_extract1 W (hA 9 rfl)) rfl)
              · exact Or.inl (PB.does_assign (PB.wanted_free rfl) rfl (hA 10 rfl))
              · exact Or.inl (PB.does_assign (PB.wanted_free rfl) rfl (hA 11 rfl))
            · intro A W hB hS hL
              have h_24 : PB.slot A 24 = .slice (some ⟨b1, o1, none⟩) n ca := hL 0 (by decide)
              have h_25 : PB.slot A 25 = .int .i64 (j : Int) := hL 1 (by decide)
              have h_26 : PB.slot A 26 = .pointer (some ⟨b1, o1 + j, none⟩) := hL 2 (by decide)
              have h_27 : PB.slot A 27 = .int .i64 x := hL 3 (by decide)
              have h_28 : PB.slot A 28 = .slice (some ⟨b2, o2, none⟩) n cb := hL 4 (by decide)
              have h_29 : PB.slot A 29 = .int .i64 (j : Int) := hL 5 (by decide)
              have h_30 : PB.slot A 30 = .pointer (some ⟨b2, o2 + j, none⟩) := hL 6 (by decide)
              have h_31 : PB.slot A 31 = .int .i64 y := hL 7 (by decide)
              have h_32 : PB.slot A 32 = .tuple #[.int .i64 z, .int .i64 0] := hL 8 (by decide)
              have h_23 : PB.slot A 23 = .tuple #[.int .i64 z, .int .i64 0] := hL 9 (by decide)
              have h_33 : PB.slot A 33 = .int .i64 z := hL 10 (by decide)
              have h_34 : PB.slot A 34 = .int .i64 0 := hL 11 (by decide)
              have h_8 : PB.slot A 8 = .int .i64 z := hL 12 (by decide)
              have h_9 : PB.slot A 9 = .int .i64 0 := hL 13 (by decide)
              have q_0 := hS.slots 0 rfl
              have q_1 := hS.slots 1 rfl
              have q_2 := hS.slots 2 rfl
              have q_3 := hS.slots 3 rfl
              have q_4 := hS.slots 4 rfl
              have q_5 := hS.slots 5 rfl
              have q_6 := hS.slots 6 rfl
              have q_7 := hS.slots 7 rfl
              have q_10 := hS.slots 10 rfl
              have q_11 := hS.slots 11 rfl
              have q_12 := hS.slots 12 rfl
              have q_13 := hS.slots 13 rfl
              have q_14 := hS.slots 14 rfl
              have q_15 := hS.slots 15 rfl
              have q_16 := hS.slots 16 rfl
              have q_17 := hS.slots 17 rfl
              have q_18 := hS.slots 18 rfl
              have q_19 := hS.slots 19 rfl
              have q_20 := hS.slots 20 rfl
              have q_21 := hS.slots 21 rfl
              have q_22 := hS.slots 22 rfl
              have q_35 := hS.slots 35 rfl
              have q_36 := hS.slots 36 rfl
              have q_37 := hS.slots 37 rfl
              have q_38 := hS.slots 38 rfl
              have q_39 := hS.slots 39 rfl
              have q_40 := hS.slots 40 rfl
              have q_41 := hS.slots 41 rfl
              have q_42 := hS.slots 42 rfl
              have q_43 := hS.slots 43 rfl
              have q_44 := hS.slots 44 rfl
              have q_45 := hS.slots 45 rfl
              have q_46 := hS.slots 46 rfl
              have q_47 := hS.slots 47 rfl
              have q_48 := hS.slots 48 rfl
              simp only [PB.slot, Array.getD_eq_getD_getElem?, List.getElem?_toArray, List.getElem?_cons_succ, List.getElem?_cons_zero, Option.getD_some] at q_0 q_1 q_2 q_3 q_4 q_5 q_6 q_7 q_10 q_11 q_12 q_13 q_14 q_15 q_16 q_17 q_18 q_19 q_20 q_21 q_22 q_35 q_36 q_37 q_38 q_39 q_40 q_41 q_42 q_43 q_44 q_45 q_46 q_47 q_48
              have q_0 := (PT.slot_get A 0).trans q_0
              have q_1 := (PT.slot_get A 1).trans q_1
              have q_2 := (PT.slot_get A 2).trans q_2
              have q_3 := (PT.slot_get A 3).trans q_3
              have q_4 := (PT.slot_get A 4).trans q_4
              have q_5 := (PT.slot_get A 5).trans q_5
              have q_6 := (PT.slot_get A 6).trans q_6
              have q_7 := (PT.slot_get A 7).trans q_7
              have q_10 := (PT.slot_get A 10).trans q_10
              have q_11 := (PT.slot_get A 11).trans q_11
              have q_12 := (PT.slot_get A 12).trans q_12
              have q_13 := (PT.slot_get A 13).trans q_13
              have q_14 := (PT.slot_get A 14).trans q_14
              have q_15 := (PT.slot_get A 15).trans q_15
              have q_16 := (PT.slot_get A 16).trans q_16
              have q_17 := (PT.slot_get A 17).trans q_17
              have q_18 := (PT.slot_get A 18).trans q_18
              have q_19 := (PT.slot_get A 19).trans q_19
              have q_20 := (PT.slot_get A 20).trans q_20
              have q_21 := (PT.slot_get A 21).trans q_21
              have q_22 := (PT.slot_get A 22).trans q_22
              have q_35 := (PT.slot_get A 35).trans q_35
              have q_36 := (PT.slot_get A 36).trans q_36
              have q_37 := (PT.slot_get A 37).trans q_37
              have q_38 := (PT.slot_get A 38).trans q_38
              have q_39 := (PT.slot_get A 39).trans q_39
              have q_40 := (PT.slot_get A 40).trans q_40
              have q_41 := (PT.slot_get A 41).trans q_41
              have q_42 := (PT.slot_get A 42).trans q_42
              have q_43 := (PT.slot_get A 43).trans q_43
              have q_44 := (PT.slot_get A 44).trans q_44
              have q_45 := (PT.slot_get A 45).trans q_45
              have q_46 := (PT.slot_get A 46).trans q_46
              have q_47 := (PT.slot_get A 47).trans q_47
              have q_48 := (PT.slot_get A 48).trans q_48
              have hA := PT.frame_of (A := A) (n := 49) hS.size
              have hd : A.defers = [] := hS.defers
              rw [hd] at hA
              obtain ⟨fr, hf⟩ : ∃ f, PB.slot A = f := ⟨_, rfl⟩
              rw [hf] at hA h_24 h_25 h_26 h_27 h_28 h_29 h_30 h_31 h_32 h_23 h_33 h_34 h_8 h_9 q_0 q_1 q_2 q_3 q_4 q_5 q_6 q_7 q_10 q_11 q_12 q_13 q_14 q_15 q_16 q_17 q_18 q_19 q_20 q_21 q_22 q_35 q_36 q_37 q_38 q_39 q_40 q_41 q_42 q_43 q_44 q_45 q_46 q_47 q_48
              rw [hA]
              clear hA hf hd hL hS
              simp only [List.range, List.range.loop, List.map_cons, List.map_nil, List.drop_succ_cons, List.drop_zero, h_24, h_25, h_26, h_27, h_28, h_29, h_30, h_31, h_32, h_23, h_33, h_34, h_8, h_9, q_0, q_1, q_2, q_3, q_4, q_5, q_6, q_7, q_10, q_11, q_12, q_13, q_14, q_15, q_16, q_17, q_18, q_19, q_20, q_21, q_22, q_35, q_36, q_37, q_38, q_39, q_40, q_41, q_42, q_43, q_44, q_45, q_46, q_47, q_48]
              clear h_24 h_25 h_26 h_27 h_28 h_29 h_30 h_31 h_32 h_23 h_33 h_34 h_8 h_9 q_0 q_1 q_2 q_3 q_4 q_5 q_6 q_7 q_10 q_11 q_12 q_13 q_14 q_15 q_16 q_17 q_18 q_19 q_20 q_21 q_22 q_35 q_36 q_37 q_38 q_39 q_40 q_41 q_42 q_43 q_44 q_45 q_46 q_47 q_48
              have HG2 : Hid (Below w.heap.size w W) := hid' (hg.out.trans (hB.mono hg.out.size))
              clear hB
              go_wp2_with fail
              refine (HA.out _).mono ?_
              clear HA
              rintro e w3 ⟨rfl, hg2⟩
              go_wp2
              go_ret2
              exact ⟨by rw [← HX.out]; rfl, HG2.out.trans (hg2.below.mono HG2.out.size)⟩
        · rw [if_neg hz] at HX
          rw [fit_out hz] at HC
          clear hz
          unfold pr at HC
          go_wp2
          refine PT.wp_region_tail 14 (PB.phi [PB.E (.slice (some ⟨b1, o1, none⟩) n ca), PB.E (.int .i64 (j : Int)), PB.E (.pointer (some ⟨b1, o1 + j, none⟩)), PB.E (.int .i64 x), PB.E (.slice (some ⟨b2, o2, none⟩) n cb), PB.E (.int .i64 (j : Int)), PB.E (.pointer (some ⟨b2, o2 + j, none⟩)), PB.E (.int .i64 y), PB.E (.tuple #[.int .i64 0, .int .i64 60]), PB.E (.tuple #[.int .i64 0, .int .i64 60]), PB.E (.int .i64 0), PB.E (.int .i64 60), PB.E (.int .i64 0), PB.E (.int .i64 60)]) mixed (by kernel_rfl)
            (PB.phi_lasts _ ⟨PB.E_lasts _, PB.E_lasts _, PB.E_lasts _, PB.E_lasts _, PB.E_lasts _, PB.E_lasts _, PB.E_lasts _, PB.E_lasts _, PB.E_lasts _, PB.E_lasts _, PB.E_lasts _, PB.E_lasts _, PB.E_lasts _, PB.E_lasts _, trivial⟩) ?_ ?_
          · refine ⟨?_, ?_, ?_, ?_, ?_, ?_, ?_, ?_, ?_, ?_, ?_, ?_, ?_, ?_, trivial⟩ <;> intro A W hB hS hA hF
            · exact Or.inl (PB.does_move (PB.wanted_free rfl) rfl (hS.slots 0 rfl))
            · exact Or.inl (PB.does_move (PB.wanted_free rfl) rfl (hS.slots 7 rfl))
            · exact Or.inl (PB.does_run (PB.wanted_free rfl) (run_index W (hA 0 rfl) (hA 1 rfl) (by omega) (by omega)) rfl)
            · exact Or.inl (PB.does_run (PB.wanted_free rfl) (run_load W (hA 2 rfl) (HP1.out W hB)) rfl)
            · exact Or.inl (PB.does_move (PB.wanted_free rfl) rfl (hS.slots 1 rfl))
            · exact Or.inl (PB.does_move (PB.wanted_free rfl) rfl (hS.slots 7 rfl))
            · exact Or.inl (PB.does_run (PB.wanted_free rfl) (run_index W (hA 4 rfl) (hA 5 rfl) (by omega) (by omega)) rfl)
            · exact Or.inl (PB.does_run (PB.wanted_free rfl) (run_load W (hA 6 rfl) (HP2.out W hB)) rfl)
            · exact Or.inl (PB.does_call #[.int .i64 x, .int .i64 y] (PB.wanted_free rfl) rfl Try.func15 rfl rfl (by show [PB.slot A 27, PB.slot A 31] = _; rw [show PB.slot A 27 = .int .i64 x from (hA 3 rfl), show PB.slot A 31 = .int .i64 y from (hA 7 rfl)]) (HC.out W))
            · exact Or.inl (PB.does_move (PB.wanted_free rfl) rfl (hA 8 rfl))
            · exact Or.inl (PB.does_run (PB.wanted_free rfl) (run_extract0 W (hA 9 rfl)) rfl)
            · exact Or.inl (PB.does_run (PB.wanted_free rfl) (run_extract1 W (hA 9 rfl)) rfl)
            · exact Or.inl (PB.does_assign (PB.wanted_free rfl) rfl (hA 10 rfl))
            · exact Or.inl (PB.does_assign (PB.wanted_free rfl) rfl (hA 11 rfl))
          · intro A W hB hS hL
            have h_24 : PB.slot A 24 = .slice (some ⟨b1, o1, none⟩) n ca := hL 0 (by decide)
            have h_25 : PB.slot A 25 = .int .i64 (j : Int) := hL 1 (by decide)
            have h_26 : PB.slot A 26 = .pointer (some ⟨b1, o1 + j, none⟩) := hL 2 (by decide)
            have h_27 : PB.slot A 27 = .int .i64 x := hL 3 (by decide)
            have h_28 : PB.slot A 28 = .slice (some ⟨b2, o2, none⟩) n cb := hL 4 (by decide)
            have h_29 : PB.slot A 29 = .int .i64 (j : Int) := hL 5 (by decide)
            have h_30 : PB.slot A 30 = .pointer (some ⟨b2, o2 + j, none⟩) := hL 6 (by decide)
            have h_31 : PB.slot A 31 = .int .i64 y := hL 7 (by decide)
            have h_32 : PB.slot A 32 = .tuple #[.int .i64 0, .int .i64 60] := hL 8 (by decide)
            have h_23 : PB.slot A 23 = .tuple #[.int .i64 0, .int .i64 60] := hL 9 (by decide)
            have h_33 : PB.slot A 33 = .int .i64 0 := hL 10 (by decide)
            have h_34 : PB.slot A 34 = .int .i64 60 := hL 11 (by decide)
            have h_8 : PB.slot A 8 = .int .i64 0 := hL 12 (by decide)
            have h_9 : PB.slot A 9 = .int .i64 60 := hL 13 (by decide)
            have q_0 := hS.slots 0 rfl
            have q_1 := hS.slots 1 rfl
            have q_2 := hS.slots 2 rfl
            have q_3 := hS.slots 3 rfl
            have q_4 := hS.slots 4 rfl
            have q_5 := hS.slots 5 rfl
            have q_6 := hS.slots 6 rfl
            have q_7 := hS.slots 7 rfl
            have q_10 := hS.slots 10 rfl
            have q_11 := hS.slots 11 rfl
            have q_12 := hS.slots 12 rfl
            have q_13 := hS.slots 13 rfl
            have q_14 := hS.slots 14 rfl
            have q_15 := hS.slots 15 rfl
            have q_16 := hS.slots 16 rfl
            have q_17 := hS.slots 17 rfl
            have q_18 := hS.slots 18 rfl
            have q_19 := hS.slots 19 rfl
            have q_20 := hS.slots 20 rfl
            have q_21 := hS.slots 21 rfl
            have q_22 := hS.slots 22 rfl
            have q_35 := hS.slots 35 rfl
            have q_36 := hS.slots 36 rfl
            have q_37 := hS.slots 37 rfl
            have q_38 := hS.slots 38 rfl
            have q_39 := hS.slots 39 rfl
            have q_40 := hS.slots 40 rfl
            have q_41 := hS.slots 41 rfl
            have q_42 := hS.slots 42 rfl
            have q_43 := hS.slots 43 rfl
            have q_44 := hS.slots 44 rfl
            have q_45 := hS.slots 45 rfl
            have q_46 := hS.slots 46 rfl
            have q_47 := hS.slots 47 rfl
            have q_48 := hS.slots 48 rfl
            simp only [PB.slot, Array.getD_eq_getD_getElem?, List.getElem?_toArray, List.getElem?_cons_succ, List.getElem?_cons_zero, Option.getD_some] at q_0 q_1 q_2 q_3 q_4 q_5 q_6 q_7 q_10 q_11 q_12 q_13 q_14 q_15 q_16 q_17 q_18 q_19 q_20 q_21 q_22 q_35 q_36 q_37 q_38 q_39 q_40 q_41 q_42 q_43 q_44 q_45 q_46 q_47 q_48
            have q_0 := (PT.slot_get A 0).trans q_0
            have q_1 := (PT.slot_get A 1).trans q_1
            have q_2 := (PT.slot_get A 2).trans q_2
            have q_3 := (PT.slot_get A 3).trans q_3
            have q_4 := (PT.slot_get A 4).trans q_4
            have q_5 := (PT.slot_get A 5).trans q_5
            have q_6 := (PT.slot_get A 6).trans q_6
            have q_7 := (PT.slot_get A 7).trans q_7
            have q_10 := (PT.slot_get A 10).trans q_10
            have q_11 := (PT.slot_get A 11).trans q_11
            have q_12 := (PT.slot_get A 12).trans q_12
            have q_13 := (PT.slot_get A 13).trans q_13
            have q_14 := (PT.slot_get A 14).trans q_14
            have q_15 := (PT.slot_get A 15).trans q_15
            have q_16 := (PT.slot_get A 16).trans q_16
            have q_17 := (PT.slot_get A 17).trans q_17
            have q_18 := (PT.slot_get A 18).trans q_18
            have q_19 := (PT.slot_get A 19).trans q_19
            have q_20 := (PT.slot_get A 20).trans q_20
            have q_21 := (PT.slot_get A 21).trans q_21
            have q_22 := (PT.slot_get A 22).trans q_22
            have q_35 := (PT.slot_get A 35).trans q_35
            have q_36 := (PT.slot_get A 36).trans q_36
            have q_37 := (PT.slot_get A 37).trans q_37
            have q_38 := (PT.slot_get A 38).trans q_38
            have q_39 := (PT.slot_get A 39).trans q_39
            have q_40 := (PT.slot_get A 40).trans q_40
            have q_41 := (PT.slot_get A 41).trans q_41
            have q_42 := (PT.slot_get A 42).trans q_42
            have q_43 := (PT.slot_get A 43).trans q_43
            have q_44 := (PT.slot_get A 44).trans q_44
            have q_45 := (PT.slot_get A 45).trans q_45
            have q_46 := (PT.slot_get A 46).trans q_46
            have q_47 := (PT.slot_get A 47).trans q_47
            have q_48 := (PT.slot_get A 48).trans q_48
            have hA := PT.frame_of (A := A) (n := 49) hS.size
            have hd : A.defers = [] := hS.defers
            rw [hd] at hA
            obtain ⟨fr, hf⟩ : ∃ f, PB.slot A = f := ⟨_, rfl⟩
            rw [hf] at hA h_24 h_25 h_26 h_27 h_28 h_29 h_30 h_31 h_32 h_23 h_33 h_34 h_8 h_9 q_0 q_1 q_2 q_3 q_4 q_5 q_6 q_7 q_10 q_11 q_12 q_13 q_14 q_15 q_16 q_17 q_18 q_19 q_20 q_21 q_22 q_35 q_36 q_37 q_38 q_39 q_40 q_41 q_42 q_43 q_44 q_45 q_46 q_47 q_48
            rw [hA]
            clear hA hf hd hL hS
            simp only [List.range, List.range.loop, List.map_cons, List.map_nil, List.drop_succ_cons, List.drop_zero, h_24, h_25, h_26, h_27, h_28, h_29, h_30, h_31, h_32, h_23, h_33, h_34, h_8, h_9, q_0, q_1, q_2, q_3, q_4, q_5, q_6, q_7, q_10, q_11, q_12, q_13, q_14, q_15, q_16, q_17, q_18, q_19, q_20, q_21, q_22, q_35, q_36, q_37, q_38, q_39, q_40, q_41, q_42, q_43, q_44, q_45, q_46, q_47, q_48]
            clear h_24 h_25 h_26 h_27 h_28 h_29 h_30 h_31 h_32 h_23 h_33 h_34 h_8 h_9 q_0 q_1 q_2 q_3 q_4 q_5 q_6 q_7 q_10 q_11 q_12 q_13 q_14 q_15 q_16 q_17 q_18 q_19 q_20 q_21 q_22 q_35 q_36 q_37 q_38 q_39 q_40 q_41 q_42 q_43 q_44 q_45 q_46 q_47 q_48
            have HG2 : Hid (Below w.heap.size w W) := hid' (hg.out.trans (hB.mono hg.out.size))
            clear hB
            go_wp2
            go_ret2
            exact ⟨by rw [← HX.out]; rfl, HG2.out⟩
  · have HR : Hid ((0, 1) = dotT l r) := hid' (by unfold dotT; rw [if_neg hlen])
    generalize dotT l r = R at HR
    generalize l.length = n at hl hlen
    generalize r.length = m at hr hlen
    have hne : ((n : Int) == (m : Int)) = false := by simp; omega
    go_enter Try.func19, Try.ntmps19
    go_wp2
    go_ret2
    exact ⟨by rw [← HR.out]; rfl, Below.refl _ _⟩

set_option maxHeartbeats 1000000 in
theorem live_any (w : World) : Calls Try.prog 13 #[] w fun e w' => e = .returned (.bool true) ∧ Gr w w' := by
  have H1 := hid' (fun w => Add_any 9223372036854775807 1 w (by decide) (by decide))
  have H2 := hid' (fun w => Mul_any (-9223372036854775808) (-1) w (by decide) (by decide))
  have H3 := hid' (fun w => Mul_any 3 (-4) w (by decide) (by decide))
  rw [show fit (9223372036854775807 + 1) = (0, 60) by decide] at H1
  rw [show fit (-9223372036854775808 * -1) = (0, 60) by decide] at H2
  rw [show fit (3 * -4) = (-12, 0) by decide] at H3
  unfold pr at H1 H2 H3
  go_enter Try.func13, Try.ntmps13
  go_wp2_with fail
  refine (H1.out _).mono ?_
  rintro e w1 ⟨rfl, g1⟩
  go_wp2_with fail
  refine (H2.out _).mono ?_
  rintro e w2 ⟨rfl, rfl⟩
  go_wp2_with fail
  refine (H3.out _).mono ?_
  rintro e w3 ⟨rfl, rfl⟩
  clear H1 H2 H3
  have HC := hid' code_any
  go_wp2_with fail
  refine (HC.out _ _).mono ?_
  rintro e w4 ⟨rfl, rfl⟩
  go_wp2_with fail
  refine (HC.out _ _).mono ?_
  rintro e w5 ⟨rfl, rfl⟩
  go_wp2_with fail
  refine (HC.out _ _).mono ?_
  rintro e w6 ⟨rfl, rfl⟩
  go_wp2
  go_ret
  exact ⟨rfl, g1⟩

end Go.Proofs.Ytpmlcpnnfllenaa
