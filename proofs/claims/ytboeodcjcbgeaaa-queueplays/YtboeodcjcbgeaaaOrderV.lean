/-
  What is proved here: the document's Order, Same and SameRows at rows that read alike.
-/
import Derived.Test.YtboeodcjcbgeaaaVals
import Derived.Laws.OwnMore
namespace Go.Proofs.Ytboeodcjcbgeaaa
open Go.RowKit Go.Proofs
set_option linter.unusedVariables false
set_option linter.unusedSimpArgs false

set_option maxRecDepth 10000 in
set_option maxHeartbeats 2000000 in
theorem Order_same (w : World) (a b : Option Addr) (ca cb n : Nat) (l : List V) (hn : l.length = n) (ha : Vs w.heap.size w a l) (hb : Vs w.heap.size w b l) (hl : n ≤ 1000000) :
    Calls Try.prog 28 #[.slice a n ca, .slice b n cb] w fun e w' => e = .returned (.int .i64 0) ∧ Below w.heap.size w w' := by
  have mixed : Try.prog.follows .mixedOrders = true := by kernel_rfl
  have HN := hid' hn
  have HA := hid' ha
  have HA' := hid' hb
  clear hn ha hb
  go_enter Try.func28, Try.ntmps28
  go_wp2
  go_loopg [5] n (fun k i wr => ∃ j : Nat, j + k = n ∧ i = .int .i64 (j : Int) ∧ Hid (Below w.heap.size w wr))
  case atStart => exact ⟨0, by omega, rfl, hid' (Below.refl _ _)⟩
  case round =>
    obtain ⟨j, hj, rfl, hg⟩ := hrel
    cases gk with
    | zero =>
      obtain rfl : j = n := by omega
      go_wp2
      go_ret
      exact ⟨rfl, hg.out⟩
    | succ k =>
      have hjl : j < l.length := by rw [HN.out]; omega
      obtain ⟨b1, o1, rfl, hB1, hc1⟩ := (HA.out.on hg.out).cells (by rintro rfl; simp at hjl)
      obtain ⟨b2, o2, rfl, hB2, hc2⟩ := (HA'.out.on hg.out).cells (by rintro rfl; simp at hjl)
      have HP1 : Hid (∀ W, Below wr.heap.size wr W → W.cell? ⟨b1, o1 + j * 3, none⟩ = some (.int .i64 (l.getD j d0).1) ∧ W.cell? ⟨b1, o1 + j * 3 + 1, none⟩ = some (.int .i64 (l.getD j d0).2.1) ∧ W.cell? ⟨b1, o1 + j * 3 + 2, none⟩ = some (.string (l.getD j d0).2.2)) := fun W hB =>
        ⟨(hB.cell (p := ⟨b1, o1 + j * 3, none⟩) hB1).trans (hc1 j hjl).1, (hB.cell (p := ⟨b1, o1 + j * 3 + 1, none⟩) hB1).trans (hc1 j hjl).2.1, (hB.cell (p := ⟨b1, o1 + j * 3 + 2, none⟩) hB1).trans (hc1 j hjl).2.2⟩
      have HP2 : Hid (∀ W, Below wr.heap.size wr W → W.cell? ⟨b2, o2 + j * 3, none⟩ = some (.int .i64 (l.getD j d0).1) ∧ W.cell? ⟨b2, o2 + j * 3 + 1, none⟩ = some (.int .i64 (l.getD j d0).2.1) ∧ W.cell? ⟨b2, o2 + j * 3 + 2, none⟩ = some (.string (l.getD j d0).2.2)) := fun W hB =>
        ⟨(hB.cell (p := ⟨b2, o2 + j * 3, none⟩) hB2).trans (hc2 j hjl).1, (hB.cell (p := ⟨b2, o2 + j * 3 + 1, none⟩) hB2).trans (hc2 j hjl).2.1, (hB.cell (p := ⟨b2, o2 + j * 3 + 2, none⟩) hB2).trans (hc2 j hjl).2.2⟩
      have HC := hid' (fun w => Cmp_newB (l.getD j d0) w)
      generalize l.getD j d0 = x at HP1 HP2 HC
      obtain ⟨xk, xi, xs⟩ := x
      simp only at HP1 HP2 HC
      clear hc1 hc2 hjl
      go_wp2
      refine PT.wp_region_tail 10 (PB.phi [PB.E (.slice (some ⟨b1, o1, none⟩) n ca), PB.E (.int .i64 (j : Int)), PB.E (.pointer (some ⟨b1, o1 + j * 3, none⟩)), PB.E (.agg #[.int .i64 xk, .int .i64 xi, .string xs]), PB.E (.slice (some ⟨b2, o2, none⟩) n cb), PB.E (.int .i64 (j : Int)), PB.E (.pointer (some ⟨b2, o2 + j * 3, none⟩)), PB.E (.agg #[.int .i64 xk, .int .i64 xi, .string xs]), PB.E (.int .i64 0), PB.E (.int .i64 0)]) mixed (by kernel_rfl)
        (PB.phi_lasts _ ⟨PB.E_lasts _, PB.E_lasts _, PB.E_lasts _, PB.E_lasts _, PB.E_lasts _, PB.E_lasts _, PB.E_lasts _, PB.E_lasts _, PB.E_lasts _, PB.E_lasts _, trivial⟩) ?_ ?_
      · refine ⟨?_, ?_, ?_, ?_, ?_, ?_, ?_, ?_, ?_, ?_, trivial⟩ <;> intro A W hB hS hA hF
        · exact Or.inl (PB.does_move (PB.wanted_free rfl) rfl (hS.slots 0 rfl))
        · exact Or.inl (PB.does_move (PB.wanted_free rfl) rfl (hS.slots 5 rfl))
        · exact Or.inl (PB.does_run (PB.wanted_free rfl) (run_indexV W (hA 0 rfl) (hA 1 rfl) (by omega) (by omega)) rfl)
        · exact Or.inl (PB.does_run (PB.wanted_free rfl) (run_loadV W (hA 2 rfl) (HP1.out W hB)) rfl)
        · exact Or.inl (PB.does_move (PB.wanted_free rfl) rfl (hS.slots 1 rfl))
        · exact Or.inl (PB.does_move (PB.wanted_free rfl) rfl (hS.slots 5 rfl))
        · exact Or.inl (PB.does_run (PB.wanted_free rfl) (run_indexV W (hA 4 rfl) (hA 5 rfl) (by omega) (by omega)) rfl)
        · exact Or.inl (PB.does_run (PB.wanted_free rfl) (run_loadV W (hA 6 rfl) (HP2.out W hB)) rfl)
        · exact Or.inl (PB.does_call #[.agg #[.int .i64 xk, .int .i64 xi, .string xs], .agg #[.int .i64 xk, .int .i64 xi, .string xs]] (PB.wanted_free rfl) rfl Try.func35 rfl rfl (by show [PB.slot A 22, PB.slot A 26] = _; rw [show PB.slot A 22 = .agg #[.int .i64 xk, .int .i64 xi, .string xs] from (hA 3 rfl), show PB.slot A 26 = .agg #[.int .i64 xk, .int .i64 xi, .string xs] from (hA 7 rfl)]) (HC.out W))
        · exact Or.inl (PB.does_assign (PB.wanted_free rfl) rfl (hA 8 rfl))
      · intro A W hB hS hL
        have h_19 : PB.slot A 19 = .slice (some ⟨b1, o1, none⟩) n ca := hL 0 (by decide)
        have h_20 : PB.slot A 20 = .int .i64 (j : Int) := hL 1 (by decide)
        have h_21 : PB.slot A 21 = .pointer (some ⟨b1, o1 + j * 3, none⟩) := hL 2 (by decide)
        have h_22 : PB.slot A 22 = .agg #[.int .i64 xk, .int .i64 xi, .string xs] := hL 3 (by decide)
        have h_23 : PB.slot A 23 = .slice (some ⟨b2, o2, none⟩) n cb := hL 4 (by decide)
        have h_24 : PB.slot A 24 = .int .i64 (j : Int) := hL 5 (by decide)
        have h_25 : PB.slot A 25 = .pointer (some ⟨b2, o2 + j * 3, none⟩) := hL 6 (by decide)
        have h_26 : PB.slot A 26 = .agg #[.int .i64 xk, .int .i64 xi, .string xs] := hL 7 (by decide)
        have h_27 : PB.slot A 27 = .int .i64 0 := hL 8 (by decide)
        have h_6 : PB.slot A 6 = .int .i64 0 := hL 9 (by decide)
        have q_0 := hS.slots 0 rfl
        have q_1 := hS.slots 1 rfl
        have q_2 := hS.slots 2 rfl
        have q_3 := hS.slots 3 rfl
        have q_4 := hS.slots 4 rfl
        have q_5 := hS.slots 5 rfl
        have q_7 := hS.slots 7 rfl
        have q_8 := hS.slots 8 rfl
        have q_9 := hS.slots 9 rfl
        have q_10 := hS.slots 10 rfl
        have q_11 := hS.slots 11 rfl
        have q_12 := hS.slots 12 rfl
        have q_13 := hS.slots 13 rfl
        have q_14 := hS.slots 14 rfl
        have q_15 := hS.slots 15 rfl
        have q_16 := hS.slots 16 rfl
        have q_17 := hS.slots 17 rfl
        have q_18 := hS.slots 18 rfl
        have q_28 := hS.slots 28 rfl
        have q_29 := hS.slots 29 rfl
        have q_30 := hS.slots 30 rfl
        have q_31 := hS.slots 31 rfl
        have q_32 := hS.slots 32 rfl
        have q_33 := hS.slots 33 rfl
        have q_34 := hS.slots 34 rfl
        have q_35 := hS.slots 35 rfl
        have q_36 := hS.slots 36 rfl
        have q_37 := hS.slots 37 rfl
        have q_38 := hS.slots 38 rfl
        have q_39 := hS.slots 39 rfl
        have q_40 := hS.slots 40 rfl
        simp only [PB.slot, Array.getD_eq_getD_getElem?, List.getElem?_toArray, List.getElem?_cons_succ, List.getElem?_cons_zero, Option.getD_some] at q_0 q_1 q_2 q_3 q_4 q_5 q_7 q_8 q_9 q_10 q_11 q_12 q_13 q_14 q_15 q_16 q_17 q_18 q_28 q_29 q_30 q_31 q_32 q_33 q_34 q_35 q_36 q_37 q_38 q_39 q_40
        have q_0 := (PT.slot_get A 0).trans q_0
        have q_1 := (PT.slot_get A 1).trans q_1
        have q_2 := (PT.slot_get A 2).trans q_2
        have q_3 := (PT.slot_get A 3).trans q_3
        have q_4 := (PT.slot_get A 4).trans q_4
        have q_5 := (PT.slot_get A 5).trans q_5
        have q_7 := (PT.slot_get A 7).trans q_7
        have q_8 := (PT.slot_get A 8).trans q_8
        have q_9 := (PT.slot_get A 9).trans q_9
        have q_10 := (PT.slot_get A 10).trans q_10
        have q_11 := (PT.slot_get A 11).trans q_11
        have q_12 := (PT.slot_get A 12).trans q_12
        have q_13 := (PT.slot_get A 13).trans q_13
        have q_14 := (PT.slot_get A 14).trans q_14
        have q_15 := (PT.slot_get A 15).trans q_15
        have q_16 := (PT.slot_get A 16).trans q_16
        have q_17 := (PT.slot_get A 17).trans q_17
        have q_18 := (PT.slot_get A 18).trans q_18
        have q_28 := (PT.slot_get A 28).trans q_28
        have q_29 := (PT.slot_get A 29).trans q_29
        have q_30 := (PT.slot_get A 30).trans q_30
        have q_31 := (PT.slot_get A 31).trans q_31
        have q_32 := (PT.slot_get A 32).trans q_32
        have q_33 := (PT.slot_get A 33).trans q_33
        have q_34 := (PT.slot_get A 34).trans q_34
        have q_35 := (PT.slot_get A 35).trans q_35
        have q_36 := (PT.slot_get A 36).trans q_36
        have q_37 := (PT.slot_get A 37).trans q_37
        have q_38 := (PT.slot_get A 38).trans q_38
        have q_39 := (PT.slot_get A 39).trans q_39
        have q_40 := (PT.slot_get A 40).trans q_40
        have hA := PT.frame_of (A := A) (n := 41) hS.size
        have hd : A.defers = [] := hS.defers
        rw [hd] at hA
        obtain ⟨fr, hf⟩ : ∃ f, PB.slot A = f := ⟨_, rfl⟩
        rw [hf] at hA h_19 h_20 h_21 h_22 h_23 h_24 h_25 h_26 h_27 h_6 q_0 q_1 q_2 q_3 q_4 q_5 q_7 q_8 q_9 q_10 q_11 q_12 q_13 q_14 q_15 q_16 q_17 q_18 q_28 q_29 q_30 q_31 q_32 q_33 q_34 q_35 q_36 q_37 q_38 q_39 q_40
        rw [hA]
        clear hA hf hd hL hS
        simp only [List.range, List.range.loop, List.map_cons, List.map_nil, List.drop_succ_cons, List.drop_zero, h_19, h_20, h_21, h_22, h_23, h_24, h_25, h_26, h_27, h_6, q_0, q_1, q_2, q_3, q_4, q_5, q_7, q_8, q_9, q_10, q_11, q_12, q_13, q_14, q_15, q_16, q_17, q_18, q_28, q_29, q_30, q_31, q_32, q_33, q_34, q_35, q_36, q_37, q_38, q_39, q_40]
        clear h_19 h_20 h_21 h_22 h_23 h_24 h_25 h_26 h_27 h_6 q_0 q_1 q_2 q_3 q_4 q_5 q_7 q_8 q_9 q_10 q_11 q_12 q_13 q_14 q_15 q_16 q_17 q_18 q_28 q_29 q_30 q_31 q_32 q_33 q_34 q_35 q_36 q_37 q_38 q_39 q_40
        have HG2 : Hid (Below w.heap.size w W) := hid' (hg.out.trans (hB.mono hg.out.size))
        clear hB
        go_wp2
        go_roundg k
        case measure => omega
        case rel => exact ⟨j + 1, by omega, by simp, HG2⟩

theorem ownsRow_onV {B : Nat} {e : TypeId} {k : Nat} {v : Value} {n : Nat} {xs : List Value} {w w' : World} (h : w.ownsRow B e k v n xs) (hb : Below w.heap.size w w') : w'.ownsRow B e k v n xs :=
  h.kept (row := none) ⟨hb.os, hb.tape, hb.output, hb.size, fun j hj _ => hb.block j hj⟩ (by cases hv : v.ownBlock <;> simp)

end Go.Proofs.Ytboeodcjcbgeaaa
