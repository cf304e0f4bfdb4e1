/-
  What is proved here: the document's number, count and numbers: what they read, and that nothing but the reader has changed.
-/
import Derived.Test.YtjpjeledbjpaeaaDec
namespace Go.Proofs.Ytjpjeledbjpaeaa
open Go.RowKit Go.Proofs
set_option maxRecDepth 20000
set_option linter.unusedVariables false
set_option linter.unusedSimpArgs false

set_option maxHeartbeats 4000000 in
theorem rnumber_any (w : World) (g : Nat) (ba : Option Addr) (cap : Nat) (l : List Int) (s : Option (List Int)) (hr : RdS 67 w g ba cap l s) (hb : Bts g w ba l) (hc : l.length ≤ cap) (hl : l.length ≤ 1000000000) :
    Calls Try.prog 31 #[.pointer (some ⟨g, 0, none⟩)] w (RdAns 67 oneB R64 (Value.int .i64) w g ba cap l s) := by
  have hgl := hr.lt
  obtain ⟨at', ha, hs⟩ := hr
  obtain ⟨n, next, er, hrel⟩ := getRel_total l (at' : Int)
  obtain ⟨bad, hbx⟩ : ∃ bad : Bool, Bx w g #[.slice ba l.length cap, .int .i64 (at' : Int), .bool bad] 67 := by
    rcases hs with ⟨r, _, _, h⟩ | ⟨_, h⟩
    · exact ⟨_, h⟩
    · exact ⟨_, h⟩
  have HC : Hid (∀ W, Below w.heap.size w W → W.cell? ⟨g, 0, none⟩ = some (.slice ba l.length cap) ∧ W.cell? ⟨g, 1, none⟩ = some (.int .i64 (at' : Int))) := fun W hB => ⟨(hbx.keep hB).cell 0, (hbx.keep hB).cell 1⟩
  have HBT : Hid (∀ W, Below w.heap.size w W → Bts W.heap.size W ba l) := fun W hB => (hb.keep (hB.mono (Nat.le_of_lt hgl))).mono (by have := hB.size; omega)
  have HG : Hid (∀ W, Below w.heap.size w W → Calls Try.prog 56 #[.slice ba l.length cap, .int .i64 (at' : Int)] W fun e w' => ∃ v, e = .returned v ∧ Below W.heap.size W w' ∧ PB.E (.tuple #[.int .i64 (unzig n), .int .i64 next, .int .i64 er]) v w') := fun W hB => (rgetInt_any W ba cap l at' (HBT.out W hB) hc (by omega)).mono (by
    rintro e w' ⟨⟨n', next', er', rfl, h'⟩, hw⟩
    obtain ⟨rfl, rfl, rfl⟩ := hrel.uniq h'
    exact ⟨_, rfl, hw, rfl⟩)
  have HS := hid' hs
  clear hs hb hbx
  go_enter Try.func31, Try.ntmps31
  go_wp2_with fail
  refine PT.wp_region_tail 16 (PB.phi [PB.E (ptr g), PB.E (ptr g), PB.E (.pointer (some ⟨g, 0, none⟩)), PB.E (.slice ba l.length cap), PB.E (ptr g), PB.E (ptr g), PB.E (.pointer (some ⟨g, 1, none⟩)), PB.E (.int .i64 (at' : Int)), PB.E (.tuple #[.int .i64 (unzig n), .int .i64 next, .int .i64 er]), PB.E (.tuple #[.int .i64 (unzig n), .int .i64 next, .int .i64 er]), PB.E (.int .i64 (unzig n)), PB.E (.int .i64 next), PB.E (.int .i64 er), PB.E (.int .i64 (unzig n)), PB.E (.int .i64 next), PB.E (.int .i64 er)]) mixed' (by kernel_rfl)
    (PB.phi_lasts _ ⟨PB.E_lasts _, PB.E_lasts _, PB.E_lasts _, PB.E_lasts _, PB.E_lasts _, PB.E_lasts _, PB.E_lasts _, PB.E_lasts _, PB.E_lasts _, PB.E_lasts _, PB.E_lasts _, PB.E_lasts _, PB.E_lasts _, PB.E_lasts _, PB.E_lasts _, PB.E_lasts _, trivial⟩) ?_ ?_
  · refine ⟨?_, ?_, ?_, ?_, ?_, ?_, ?_, ?_, ?_, ?_, ?_, ?_, ?_, ?_, ?_, ?_, trivial⟩ <;> intro A W hB hS hA hF
    · exact Or.inl (PB.does_move (PB.wanted_free rfl) rfl (hS.slots 0 rfl))
    · exact Or.inl (PB.does_run (PB.wanted_free rfl) (run_nilc W (hA 0 rfl)) rfl)
    · exact Or.inl (PB.does_run (PB.wanted_free rfl) (run_fFrom0 W (hA 1 rfl)) rfl)
    · exact Or.inl (PB.does_run (PB.wanted_free rfl) (run_loadBy W (hA 2 rfl) (HC.out W hB).1) rfl)
    · exact Or.inl (PB.does_move (PB.wanted_free rfl) rfl (hS.slots 0 rfl))
    · exact Or.inl (PB.does_run (PB.wanted_free rfl) (run_nilc W (hA 4 rfl)) rfl)
    · exact Or.inl (PB.does_run (PB.wanted_free rfl) (run_fFrom1 W (hA 5 rfl)) rfl)
    · exact Or.inl (PB.does_run (PB.wanted_free rfl) (run_loadZ W (hA 6 rfl) (HC.out W hB).2) rfl)
    · exact Or.inl (PB.does_call #[.slice ba l.length cap, .int .i64 (at' : Int)] (PB.wanted_free rfl) rfl Try.func56 rfl rfl (by show [PB.slot A 10, PB.slot A 14] = _; rw [show PB.slot A 10 = .slice ba l.length cap from hA 3 rfl, show PB.slot A 14 = .int .i64 (at' : Int) from hA 7 rfl]) (HG.out W hB))
    · exact Or.inl (PB.does_move (PB.wanted_free rfl) rfl (hA 8 rfl))
    · exact Or.inl (PB.does_run (PB.wanted_free rfl) (run_ext0 W (hA 9 rfl)) rfl)
    · exact Or.inl (PB.does_run (PB.wanted_free rfl) (run_ext1 W (hA 9 rfl)) rfl)
    · exact Or.inl (PB.does_run (PB.wanted_free rfl) (run_ext2 W (hA 9 rfl)) rfl)
    · exact Or.inl (PB.does_assign (PB.wanted_free rfl) rfl (hA 10 rfl))
    · exact Or.inl (PB.does_assign (PB.wanted_free rfl) rfl (hA 11 rfl))
    · exact Or.inl (PB.does_assign (PB.wanted_free rfl) rfl (hA 12 rfl))
  · intro A W hB hS hL
    have h_7 : PB.slot A 7 = ptr g := hL 0 (by decide)
    have h_8 : PB.slot A 8 = ptr g := hL 1 (by decide)
    have h_9 : PB.slot A 9 = .pointer (some ⟨g, 0, none⟩) := hL 2 (by decide)
    have h_10 : PB.slot A 10 = .slice ba l.length cap := hL 3 (by decide)
    have h_11 : PB.slot A 11 = ptr g := hL 4 (by decide)
    have h_12 : PB.slot A 12 = ptr g := hL 5 (by decide)
    have h_13 : PB.slot A 13 = .pointer (some ⟨g, 1, none⟩) := hL 6 (by decide)
    have h_14 : PB.slot A 14 = .int .i64 (at' : Int) := hL 7 (by decide)
    have h_15 : PB.slot A 15 = .tuple #[.int .i64 (unzig n), .int .i64 next, .int .i64 er] := hL 8 (by decide)
    have h_6 : PB.slot A 6 = .tuple #[.int .i64 (unzig n), .int .i64 next, .int .i64 er] := hL 9 (by decide)
    have h_16 : PB.slot A 16 = .int .i64 (unzig n) := hL 10 (by decide)
    have h_17 : PB.slot A 17 = .int .i64 next := hL 11 (by decide)
    have h_18 : PB.slot A 18 = .int .i64 er := hL 12 (by decide)
    have h_3 : PB.slot A 3 = .int .i64 (unzig n) := hL 13 (by decide)
    have h_4 : PB.slot A 4 = .int .i64 next := hL 14 (by decide)
    have h_5 : PB.slot A 5 = .int .i64 er := hL 15 (by decide)
    have q_0 : PB.slot A 0 = ptr g := hS.slots 0 rfl
    have q_2 : PB.slot A 2 = .int .i64 0 := hS.slots 2 rfl
    have hA := PT.frame_of (A := A) (n := 35) hS.size
    have hd : A.defers = [] := hS.defers
    rw [hd] at hA
    obtain ⟨fr, hf⟩ : ∃ f, PB.slot A = f := ⟨_, rfl⟩
    rw [hf] at hA h_7 h_8 h_9 h_10 h_11 h_12 h_13 h_14 h_15 h_6 h_16 h_17 h_18 h_3 h_4 h_5 q_0 q_2
    rw [hA]
    clear hA hf hd hL hS
    simp only [List.range, List.range.loop, List.map_cons, List.map_nil, List.drop_succ_cons, List.drop_zero, h_7, h_8, h_9, h_10, h_11, h_12, h_13, h_14, h_15, h_6, h_16, h_17, h_18, h_3, h_4, h_5, q_0, q_2]
    clear h_7 h_8 h_9 h_10 h_11 h_12 h_13 h_14 h_15 h_6 h_16 h_17 h_18 h_3 h_4 h_5 q_0 q_2
    have BG : Hid (But g w W) := But.of_below hB
    simp only [ptr]
    clear HC HBT HG
    rcases HS.out with ⟨r, rfl, rfl, hbx⟩ | ⟨rfl, hbx⟩
    · replace hbx := hid' (hbx.keep hB)
      clear HS hB
      by_cases h0 : er = 0
      · subst h0
        obtain ⟨y1, y2, y3, y4, y5⟩ := get_yes hrel
        have d2 : W.cell? ⟨g, 2, none⟩ = some (.bool false) := hbx.out.cell 2
        have d1 : W.cell? ⟨g, 1, none⟩ = some (.int .i64 (at' : Int)) := hbx.out.cell 1
        have f1 := hbx.out.frozen 1
        have hb2 : Bx (W.setCell ⟨g, 1, none⟩ (.int .i64 next)) g #[.slice ba l.length cap, .int .i64 next, .bool false] 67 := hbx.out.setCell (i := 1)
        have HF : Hid (RdAns 67 oneB R64 (Value.int .i64) w g ba cap l (some (l.drop at')) (.returned (.int .i64 (unzig n))) (W.setCell ⟨g, 1, none⟩ (.int .i64 next))) := rd_yes (unzig_rng y2 y3) (by unfold oneB; rw [zig_unzig y2]; exact y1) y5 (by rw [y4]; exact hb2) (BG.out.trans (But.setCell g 1 W _))
        clear hbx hb2 y1 y2 y3 y4 y5 hrel BG
        go_wp2
        go_ret
        exact HF.out
      · have eb : (er != 0) = true := by simpa using h0
        have d2 : W.cell? ⟨g, 2, none⟩ = some (.bool false) := hbx.out.cell 2
        have f2 := hbx.out.frozen 2
        have hb2 : Bx (W.setCell ⟨g, 2, none⟩ (.bool true)) g #[.slice ba l.length cap, .int .i64 (at' : Int), .bool true] 67 := hbx.out.setCell (i := 2)
        have HF : Hid (RdAns 67 oneB R64 (Value.int .i64) w g ba cap l (some (l.drop at')) (.returned (.int .i64 0)) (W.setCell ⟨g, 2, none⟩ (.bool true))) := rd_no 0 rfl (.inr ⟨rfl, fun y r hy => get_no ha hrel h0 _ r (zig_small hy)⟩) ha hb2 (BG.out.trans (But.setCell g 2 W _))
        clear hbx hb2 hrel BG
        go_wp2
        go_ret
        exact HF.out
    · replace hbx := hid' (hbx.keep hB)
      clear HS hB
      have d2 : W.cell? ⟨g, 2, none⟩ = some (.bool true) := hbx.out.cell 2
      have f2 := hbx.out.frozen 2
      have hb2 : Bx (W.setCell ⟨g, 2, none⟩ (.bool true)) g #[.slice ba l.length cap, .int .i64 (at' : Int), .bool true] 67 := hbx.out.setCell (i := 2)
      have HF : Hid (RdAns 67 oneB R64 (Value.int .i64) w g ba cap l none (.returned (.int .i64 0)) (W.setCell ⟨g, 2, none⟩ (.bool true))) := rd_no (at' := at') 0 rfl (.inl rfl) ha hb2 (BG.out.trans (But.setCell g 2 W _))
      clear hbx hb2 hrel BG
      go_wp2
      go_ret
      exact HF.out

set_option maxHeartbeats 4000000 in
theorem rcount_any (w : World) (g : Nat) (ba : Option Addr) (cap : Nat) (l : List Int) (s : Option (List Int)) (most : Nat) (hm : most ≤ 64) (hr : RdS 67 w g ba cap l s) (hb : Bts g w ba l) (hc : l.length ≤ cap) (hl : l.length ≤ 1000000000) :
    Calls Try.prog 33 #[.pointer (some ⟨g, 0, none⟩), .int .i64 (most : Int)] w (CntAns 67 most w g ba cap l s) := by
  have hgl := hr.lt
  obtain ⟨at', ha, hs⟩ := hr
  obtain ⟨n, next, er, hrel⟩ := getRel_total l (at' : Int)
  obtain ⟨bad, hbx⟩ : ∃ bad : Bool, Bx w g #[.slice ba l.length cap, .int .i64 (at' : Int), .bool bad] 67 := by
    rcases hs with ⟨r, _, _, h⟩ | ⟨_, h⟩
    · exact ⟨_, h⟩
    · exact ⟨_, h⟩
  have HC : Hid (∀ W, Below w.heap.size w W → W.cell? ⟨g, 0, none⟩ = some (.slice ba l.length cap) ∧ W.cell? ⟨g, 1, none⟩ = some (.int .i64 (at' : Int))) := fun W hB => ⟨(hbx.keep hB).cell 0, (hbx.keep hB).cell 1⟩
  have HBT : Hid (∀ W, Below w.heap.size w W → Bts W.heap.size W ba l) := fun W hB => (hb.keep (hB.mono (Nat.le_of_lt hgl))).mono (by have := hB.size; omega)
  have HG : Hid (∀ W, Below w.heap.size w W → Calls Try.prog 57 #[.slice ba l.length cap, .int .i64 (at' : Int)] W fun e w' => ∃ v, e = .returned v ∧ Below W.heap.size W w' ∧ PB.E (.tuple #[.int .u64 (n), .int .i64 next, .int .i64 er]) v w') := fun W hB => (rget_any W ba cap l at' (HBT.out W hB) hc (by omega)).mono (by
    rintro e w' ⟨⟨n', next', er', rfl, h'⟩, hw⟩
    obtain ⟨rfl, rfl, rfl⟩ := hrel.uniq h'
    exact ⟨_, rfl, hw, rfl⟩)
  have HS := hid' hs
  clear hs hb hbx
  have hnr := hrel.range
  go_enter Try.func33, Try.ntmps33
  go_wp2_with fail
  refine PT.wp_region_tail 16 (PB.phi [PB.E (ptr g), PB.E (ptr g), PB.E (.pointer (some ⟨g, 0, none⟩)), PB.E (.slice ba l.length cap), PB.E (ptr g), PB.E (ptr g), PB.E (.pointer (some ⟨g, 1, none⟩)), PB.E (.int .i64 (at' : Int)), PB.E (.tuple #[.int .u64 n, .int .i64 next, .int .i64 er]), PB.E (.tuple #[.int .u64 n, .int .i64 next, .int .i64 er]), PB.E (.int .u64 n), PB.E (.int .i64 next), PB.E (.int .i64 er), PB.E (.int .u64 n), PB.E (.int .i64 next), PB.E (.int .i64 er)]) mixed' (by kernel_rfl)
    (PB.phi_lasts _ ⟨PB.E_lasts _, PB.E_lasts _, PB.E_lasts _, PB.E_lasts _, PB.E_lasts _, PB.E_lasts _, PB.E_lasts _, PB.E_lasts _, PB.E_lasts _, PB.E_lasts _, PB.E_lasts _, PB.E_lasts _, PB.E_lasts _, PB.E_lasts _, PB.E_lasts _, PB.E_lasts _, trivial⟩) ?_ ?_
  · refine ⟨?_, ?_, ?_, ?_, ?_, ?_, ?_, ?_, ?_, ?_, ?_, ?_, ?_, ?_, ?_, ?_, trivial⟩ <;> intro A W hB hS hA hF
    · exact Or.inl (PB.does_move (PB.wanted_free rfl) rfl (hS.slots 0 rfl))
    · exact Or.inl (PB.does_run (PB.wanted_free rfl) (run_nilc W (hA 0 rfl)) rfl)
    · exact Or.inl (PB.does_run (PB.wanted_free rfl) (run_fFrom0 W (hA 1 rfl)) rfl)
    · exact Or.inl (PB.does_run (PB.wanted_free rfl) (run_loadBy W (hA 2 rfl) (HC.out W hB).1) rfl)
    · exact Or.inl (PB.does_move (PB.wanted_free rfl) rfl (hS.slots 0 rfl))
    · exact Or.inl (PB.does_run (PB.wanted_free rfl) (run_nilc W (hA 4 rfl)) rfl)
    · exact Or.inl (PB.does_run (PB.wanted_free rfl) (run_fFrom1 W (hA 5 rfl)) rfl)
    · exact Or.inl (PB.does_run (PB.wanted_free rfl) (run_loadZ W (hA 6 rfl) (HC.out W hB).2) rfl)
    · exact Or.inl (PB.does_call #[.slice ba l.length cap, .int .i64 (at' : Int)] (PB.wanted_free rfl) rfl Try.func57 rfl rfl (by show [PB.slot A 12, PB.slot A 16] = _; rw [show PB.slot A 12 = .slice ba l.length cap from hA 3 rfl, show PB.slot A 16 = .int .i64 (at' : Int) from hA 7 rfl]) (HG.out W hB))
    · exact Or.inl (PB.does_move (PB.wanted_free rfl) rfl (hA 8 rfl))
    · exact Or.inl (PB.does_run (PB.wanted_free rfl) (run_ext0 W (hA 9 rfl)) rfl)
    · exact Or.inl (PB.does_run (PB.wanted_free rfl) (run_ext1 W (hA 9 rfl)) rfl)
    · exact Or.inl (PB.does_run (PB.wanted_free rfl) (run_ext2 W (hA 9 rfl)) rfl)
    · exact Or.inl (PB.does_assign (PB.wanted_free rfl) rfl (hA 10 rfl))
    · exact Or.inl (PB.does_assign (PB.wanted_free rfl) rfl (hA 11 rfl))
    · exact Or.inl (PB.does_assign (PB.wanted_free rfl) rfl (hA 12 rfl))
  · intro A W hB hS hL
    have h_9 : PB.slot A 9 = ptr g := hL 0 (by decide)
    have h_10 : PB.slot A 10 = ptr g := hL 1 (by decide)
    have h_11 : PB.slot A 11 = .pointer (some ⟨g, 0, none⟩) := hL 2 (by decide)
    have h_12 : PB.slot A 12 = .slice ba l.length cap := hL 3 (by decide)
    have h_13 : PB.slot A 13 = ptr g := hL 4 (by decide)
    have h_14 : PB.slot A 14 = ptr g := hL 5 (by decide)
    have h_15 : PB.slot A 15 = .pointer (some ⟨g, 1, none⟩) := hL 6 (by decide)
    have h_16 : PB.slot A 16 = .int .i64 (at' : Int) := hL 7 (by decide)
    have h_17 : PB.slot A 17 = .tuple #[.int .u64 n, .int .i64 next, .int .i64 er] := hL 8 (by decide)
    have h_8 : PB.slot A 8 = .tuple #[.int .u64 n, .int .i64 next, .int .i64 er] := hL 9 (by decide)
    have h_18 : PB.slot A 18 = .int .u64 n := hL 10 (by decide)
    have h_19 : PB.slot A 19 = .int .i64 next := hL 11 (by decide)
    have h_20 : PB.slot A 20 = .int .i64 er := hL 12 (by decide)
    have h_5 : PB.slot A 5 = .int .u64 n := hL 13 (by decide)
    have h_6 : PB.slot A 6 = .int .i64 next := hL 14 (by decide)
    have h_7 : PB.slot A 7 = .int .i64 er := hL 15 (by decide)
    have q_0 : PB.slot A 0 = ptr g := hS.slots 0 rfl
    have q_1 : PB.slot A 1 = .int .i64 (most : Int) := hS.slots 1 rfl
    have q_4 : PB.slot A 4 = .int .i64 0 := hS.slots 4 rfl
    have hA := PT.frame_of (A := A) (n := 44) hS.size
    have hd : A.defers = [] := hS.defers
    rw [hd] at hA
    obtain ⟨fr, hf⟩ : ∃ f, PB.slot A = f := ⟨_, rfl⟩
    rw [hf] at hA h_9 h_10 h_11 h_12 h_13 h_14 h_15 h_16 h_17 h_8 h_18 h_19 h_20 h_5 h_6 h_7 q_0 q_1 q_4
    rw [hA]
    clear hA hf hd hL hS
    simp only [List.range, List.range.loop, List.map_cons, List.map_nil, List.drop_succ_cons, List.drop_zero, h_9, h_10, h_11, h_12, h_13, h_14, h_15, h_16, h_17, h_8, h_18, h_19, h_20, h_5, h_6, h_7, q_0, q_1, q_4]
    clear h_9 h_10 h_11 h_12 h_13 h_14 h_15 h_16 h_17 h_8 h_18 h_19 h_20 h_5 h_6 h_7 q_0 q_1 q_4
    have BG : Hid (But g w W) := But.of_below hB
    simp only [ptr]
    clear HC HBT HG
    rcases HS.out with ⟨r, rfl, rfl, hbx⟩ | ⟨rfl, hbx⟩
    · replace hbx := hid' (hbx.keep hB)
      clear HS hB
      by_cases h0 : er = 0
      · subst h0
        by_cases hbig : (most : Int) < n
        · have d2 : W.cell? ⟨g, 2, none⟩ = some (.bool false) := hbx.out.cell 2
          have f2 := hbx.out.frozen 2
          have hb2 : Bx (W.setCell ⟨g, 2, none⟩ (.bool true)) g #[.slice ba l.length cap, .int .i64 (at' : Int), .bool true] 67 := hbx.out.setCell (i := 2)
          have HF : Hid (CntAns 67 most w g ba cap l (some (l.drop at')) (.returned (.int .i64 ((0 : Nat) : Int))) (W.setCell ⟨g, 2, none⟩ (.bool true))) := cnt_no 0 (by omega) (.inr ⟨rfl, many_no hrel hbig⟩) ha hb2 (BG.out.trans (But.setCell g 2 W _))
          clear hbx hb2 hrel BG
          go_wp2
          go_ret
          exact HF.out
        · obtain ⟨k, rfl⟩ := Int.eq_ofNat_of_zero_le hnr.1
          have hk : k ≤ most := by omega
          obtain ⟨y1, y2, y3, y4, y5⟩ := get_yes hrel
          have d2 : W.cell? ⟨g, 2, none⟩ = some (.bool false) := hbx.out.cell 2
          have d1 : W.cell? ⟨g, 1, none⟩ = some (.int .i64 (at' : Int)) := hbx.out.cell 1
          have f1 := hbx.out.frozen 1
          have hb2 : Bx (W.setCell ⟨g, 1, none⟩ (.int .i64 next)) g #[.slice ba l.length cap, .int .i64 next, .bool false] 67 := hbx.out.setCell (i := 1)
          have HF : Hid (CntAns 67 most w g ba cap l (some (l.drop at')) (.returned (.int .i64 (k : Int))) (W.setCell ⟨g, 1, none⟩ (.int .i64 next))) := cnt_yes hk (by rw [Int.toNat_natCast] at y1; exact y1) y5 (by rw [y4]; exact hb2) (BG.out.trans (But.setCell g 1 W _))
          clear hbx hb2 y1 y2 y3 y4 y5 hrel BG hnr
          go_wp2
          go_ret
          exact HF.out
      · have eb : (er != 0) = true := by simpa using h0
        have d2 : W.cell? ⟨g, 2, none⟩ = some (.bool false) := hbx.out.cell 2
        have f2 := hbx.out.frozen 2
        have hb2 : Bx (W.setCell ⟨g, 2, none⟩ (.bool true)) g #[.slice ba l.length cap, .int .i64 (at' : Int), .bool true] 67 := hbx.out.setCell (i := 2)
        have HF : Hid (CntAns 67 most w g ba cap l (some (l.drop at')) (.returned (.int .i64 ((0 : Nat) : Int))) (W.setCell ⟨g, 2, none⟩ (.bool true))) := cnt_no 0 (by omega) (.inr ⟨rfl, fun y r hy => get_no ha hrel h0 y r (by omega)⟩) ha hb2 (BG.out.trans (But.setCell g 2 W _))
        clear hbx hb2 hrel BG
        go_wp2
        go_ret
        exact HF.out
    · replace hbx := hid' (hbx.keep hB)
      clear HS hB
      have d2 : W.cell? ⟨g, 2, none⟩ = some (.bool true) := hbx.out.cell 2
      have f2 := hbx.out.frozen 2
      have hb2 : Bx (W.setCell ⟨g, 2, none⟩ (.bool true)) g #[.slice ba l.length cap, .int .i64 (at' : Int), .bool true] 67 := hbx.out.setCell (i := 2)
      have HF : Hid (CntAns 67 most w g ba cap l none (.returned (.int .i64 ((0 : Nat) : Int))) (W.setCell ⟨g, 2, none⟩ (.bool true))) := cnt_no (at' := at') 0 (by omega) (.inl rfl) ha hb2 (BG.out.trans (But.setCell g 2 W _))
      clear hbx hb2 hrel BG
      go_wp2
      go_ret
      exact HF.out

end Go.Proofs.Ytjpjeledbjpaeaa
