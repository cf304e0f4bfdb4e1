/-
  What is proved here: QueuePlays, call by call.
-/
import Derived.Test.YtboeodcjcbgeaaaQK
import Derived.Deep.DeepCutAuto
namespace Go.Proofs.Ytboeodcjcbgeaaa
open Go.RowKit Go.Proofs
set_option linter.unusedVariables false
set_option linter.unusedSimpArgs false

/-- How the queue and the list beside it stand behind j calls. -/
structure Pl (w : World) (G R : Nat) (room : Int) (j : Nat) (L : List U) (p : Nat) (v : Value) (wr : World) : Prop where
  q : Q wr G R room L p
  want : IsWant w.heap.size wr G R v L
  below : Below w.heap.size w wr
  hG : w.heap.size ≤ G
  hR : w.heap.size ≤ R
  few : p + L.length ≤ 60 * j

theorem Q.good {w : World} {G R : Nat} {room : Int} {L : List U} {p : Nat} (h : Q w G R room L p) : ∀ u ∈ L, Fit u := by
  obtain ⟨S, f, ra, h⟩ := h
  exact h.good

theorem Pl.on {w : World} {G R : Nat} {room : Int} {j : Nat} {L : List U} {p : Nat} {v : Value} {wr w' : World} (h : Pl w G R room j L p v wr) (hb : Below wr.heap.size wr w') : Pl w G R room j L p v w' :=
  ⟨h.q.on hb, h.want.on hb h.below.size, h.below.trans (hb.mono h.below.size), h.hG, h.hR, h.few⟩

theorem Q.passed {w : World} {G R : Nat} {room : Int} {L : List U} {p : Nat} (h : Q w G R room L p) (hp : p ≤ 1000000) (hl : L.length ≤ 1000000) : Calls Try.prog 13 #[.pointer (some ⟨G, 0, none⟩)] w fun e w' => e = .returned (.tuple #[.int .i64 ((p : Int) + (L.length : Int)), .int .i64 (p : Int)]) ∧ Below w.heap.size w w' := by
  obtain ⟨S, f, ra, h⟩ := h
  exact passed_at G p L.length w (by omega) (by omega) h.cells.2.2.2.2 h.cells.2.2.2.1

theorem IsWant.lower {B : Nat} {w : World} {G R : Nat} {a : Option Addr} {n cap : Nat} {L : List U} (h : IsWant B w G R (.slice a n cap) L) (hr : ∀ u ∈ L, RT u.time) (hm : n ≤ 100000) : Calls Try.prog 18 #[.slice a n cap] w fun e w' => ∃ u f, e = .returned u ∧ StepsOf (L.map U.time) f ∧ f.length ≤ L.length ∧ IsL f u w' ∧ Below w.heap.size w w' := by
  obtain ⟨a', cap', e, hc, hs, hl⟩ := h.ex
  simp at e
  obtain ⟨rfl, rfl, rfl⟩ := e
  refine rlower_any w (fun k => k < B) a L.length cap L rfl (fun hne => ?_) hr hm
  obtain ⟨b, off, e2, hbw, _, _, hu⟩ := hl hne
  exact ⟨b, off, e2, hbw, hu⟩

set_option maxRecDepth 20000 in
set_option maxHeartbeats 8000000 in
theorem plays_walk (w : World) (room : Int) (a : Option Addr) (n c : Nat) (A : List Ac) (hA : IsActs w.heap.size w a n A) :
    Calls Try.prog 3 #[.int .i64 room, .slice a n c] w fun e w' => e = .returned (.bool true) ∧ Below w.heap.size w w' := by
  have mixed : Try.prog.follows .mixedOrders = true := by kernel_rfl
  have HM := hid' (much19_any w w.heap.size a n c A hA (Nat.le_refl _))
  have HA := hid' hA
  clear hA
  go_enter Try.func3, Try.ntmps3
  go_wp2_with fail
  refine HM.out.mono ?_
  rintro e w0 ⟨bm, rfl, hfew, rfl⟩
  clear HM
  cases bm with
  | true =>
    clear hfew HA
    go_wp2_with fail
    refine (live_any _).mono ?_
    rintro e w1 ⟨rfl, hb1⟩
    go_wp2
    go_ret
    exact ⟨rfl, hb1⟩
  | false =>
    have hfew := hfew rfl
    by_cases hin : 1 ≤ room ∧ room ≤ 65536
    · have HN := hid' (qNew_in room w0 hin.1 hin.2)
      have HF := hid' hfew
      have hn100 : n ≤ 100 := by rw [← HA.out.len]; exact hfew.1
      have hr1 : ¬ room < 1 := by omega
      have hr2 : ¬ room > 65536 := by omega
      clear hfew hin
      go_wp2_with fail
      refine HN.out.mono ?_
      rintro e w1 ⟨G, rfl, hG, hq, hb1⟩
      have HP : Hid (Pl w0 G G room 0 [] 0 (.slice none 0 0) w1) := ⟨hq, IsWant.nil _ _ _ _, hb1, hG, hG, by simp⟩
      clear hq hb1 HN
      go_wp2_with fail
      refine (code_any 0 _).mono ?_
      rintro e w' ⟨rfl, rfl⟩
      go_wp2
      go_loopg [7, 8, 9, 10] n (fun k v inn out i wr => ∃ (j R p : Nat) (L : List U), j + k = n ∧ i = .int .i64 (j : Int) ∧ inn = .int .i64 ((p : Int) + (L.length : Int)) ∧ out = .int .i64 (p : Int) ∧ Hid (Pl w0 G R room j L p v wr))
      case atStart => exact ⟨0, G, 0, [], by omega, rfl, by simp, rfl, HP⟩
      case round =>
        obtain ⟨j, R, p, L, hj, rfl, rfl, rfl, hP⟩ := hrel
        cases gk with
        | zero =>
          obtain rfl : j = n := by omega
          go_wp2_with fail
          refine (peek_neg _ _ (-1) (by omega)).mono ?_
          rintro e w2 ⟨rfl, hb2⟩
          have hb3 : Below w2.heap.size w2 (w2.alloc (.cells #[.slice none 0 0, .int .i64 0, .int .i64 0, .int .i64 0] 38)) := (Below.refl _ w2).alloc (Nat.le_refl _) _
          have B2 := hid' (((hP.out.on hb2).on hb3).below)
          clear hb2 hb3
          unfold s0 Slot.val
          simp only
          go_wp2_with fail
          refine (live_any _).mono ?_
          rintro e w4 ⟨rfl, hb4⟩
          have B4 := hid' (B2.out.trans (hb4.mono B2.out.size))
          clear hb4 B2
          go_wp2
          go_ret
          exact ⟨rfl, B4.out⟩
        | succ k =>
          have hjA : j < A.length := by rw [HA.out.len]; omega
          obtain ⟨b, off, rfl, hb, hcells⟩ := (HA.out.keep hP.out.below).cells (by rintro rfl; simp at hjA)
          obtain ⟨la, ln, lc, c0, c1, hups⟩ := hcells j hjA
          have hfewj : Few (A.getD j ac0).l := HF.out.2 _ (by rw [List.getD, List.getElem?_eq_getElem hjA]; exact List.getElem_mem hjA)
          have HU := hid' hups
          have HFJ := hid' hfewj
          generalize A.getD j ac0 = x at c0 HU HFJ
          obtain ⟨xp, xl⟩ := x
          simp only at c0 HU HFJ
          clear hcells hjA hups hfewj
          go_upto_if 61 with fail
          go_cut [7, 8, 9] (fun v inn out wx => ∃ (R' p' : Nat) (L' : List U), inn = .int .i64 ((p' : Int) + (L'.length : Int)) ∧ out = .int .i64 (p' : Int) ∧ Hid (Pl w0 G R' room (j + 1) L' p' v wx))
          case first =>
            have hfw := hP.out.few
            have hszw := hP.out.below.size
            have hhG := hP.out.hG
            have hhR := hP.out.hR
            cases xp with
            | true =>
              clear c1 HU HFJ
              cases L with
              | nil =>
                obtain ⟨va, vcap, hv, hvc, hvs, hvl⟩ := hP.out.want.ex
                rw [List.length_nil] at hv
                subst hv
                clear hvl hvs
                have HPO := hid' (pop_empty wr G R room p hP.out.q)
                go_wp2_with fail
                refine HPO.out.mono ?_
                rintro e w2 ⟨rfl, hb2⟩
                have HB2 := hid' hb2
                clear HPO hb2
                unfold s0 Slot.val
                simp only
                go_wp2_with fail
                generalize hw3 : w2.alloc (.cells #[.slice none 0 0, .int .i64 0, .int .i64 0, .int .i64 0] 38) = w3
                have hb3 : Below w2.heap.size w2 w3 := by rw [← hw3]; exact (Below.refl _ w2).alloc (Nat.le_refl _) _
                have P3 := hid' ((hP.out.on HB2.out).on hb3)
                clear hw3 hb3 HB2 hP
                refine PT.wp_region_tail 16 (PB.phi [PB.E (.bool false), PB.E (.slice va 0 vcap), PB.E (.int .i64 ((0 : Nat) : Int)), PB.E (.bool false), PB.E (.bool false), PB.E (.bool false), PB.E (.bool false), PB.E (.bool false), PB.E undef, PB.E undef, PB.E undef, PB.E undef, PB.E undef, PB.E undef, PB.E (.bool false), PB.E (.bool false)]) mixed (by kernel_rfl)
                  (PB.phi_lasts _ ⟨PB.E_lasts _, PB.E_lasts _, PB.E_lasts _, PB.E_lasts _, PB.E_lasts _, PB.E_lasts _, PB.E_lasts _, PB.E_lasts _, PB.E_lasts _, PB.E_lasts _, PB.E_lasts _, PB.E_lasts _, PB.E_lasts _, PB.E_lasts _, PB.E_lasts _, PB.E_lasts _, trivial⟩) ?_ ?_
                · refine ⟨?_, ?_, ?_, ?_, ?_, ?_, ?_, ?_, ?_, ?_, ?_, ?_, ?_, ?_, ?_, ?_, trivial⟩ <;> intro A W hB hS hA hF
                  · exact Or.inl (PB.does_move (PB.wanted_free rfl) rfl (hS.slots 12 rfl))
                  · exact Or.inl (PB.does_move (PB.wanted_free rfl) rfl (hS.slots 7 rfl))
                  · exact Or.inl (PB.does_run (PB.wanted_free rfl) (run_lenU W (hA 1 rfl)) rfl)
                  · exact Or.inl (PB.does_bin2 (PB.wanted_free rfl) rfl (hA 2 rfl) rfl ((run_gtI W ((0 : Nat) : Int) 0 _ _).trans (by rw [decide_eq_false (by omega)])) rfl)
                  · exact Or.inl (PB.does_bin (PB.wanted_free rfl) rfl (hA 0 rfl) (hA 3 rfl) (run_neB W false false _ _) rfl)
                  · exact Or.inl (PB.does_move (PB.wanted_free rfl) rfl (hA 4 rfl))
                  · exact Or.inl (PB.does_move (PB.wanted_by rfl rfl (hA 5 rfl)) rfl (hS.slots 12 rfl))
                  · exact Or.inl (PB.does_move (PB.wanted_by rfl rfl (hA 5 rfl)) rfl (hA 6 rfl))
                  · exact Or.inr ⟨PT.pass_by rfl rfl (hA 7 rfl) (by decide), rfl⟩
                  · exact Or.inr ⟨PT.pass_by rfl rfl (hA 7 rfl) (by decide), rfl⟩
                  · exact Or.inr ⟨PT.pass_by rfl rfl (hA 7 rfl) (by decide), rfl⟩
                  · exact Or.inr ⟨PT.pass_by rfl rfl (hA 7 rfl) (by decide), rfl⟩
                  · exact Or.inr ⟨PT.pass_by rfl rfl (hA 7 rfl) (by decide), rfl⟩
                  · exact Or.inr ⟨PT.pass_by rfl rfl (hA 7 rfl) (by decide), rfl⟩
                  · exact Or.inl (PB.does_run (PB.wanted_by rfl rfl (hA 5 rfl)) (run_pick_elseC W (hA 7 rfl)) rfl)
                  · exact Or.inl (PB.does_run (PB.wanted_free rfl) (run_pick_else W (hA 5 rfl) (hA 14 rfl)) rfl)
                · intro A W hB hS hL
                  have h_67 : PB.slot A 67 = .bool false := hL 0 (by decide)
                  have h_68 : PB.slot A 68 = .slice va 0 vcap := hL 1 (by decide)
                  have h_69 : PB.slot A 69 = .int .i64 ((0 : Nat) : Int) := hL 2 (by decide)
                  have h_70 : PB.slot A 70 = .bool false := hL 3 (by decide)
                  have h_71 : PB.slot A 71 = .bool false := hL 4 (by decide)
                  have h_72 : PB.slot A 72 = .bool false := hL 5 (by decide)
                  have h_73 : PB.slot A 73 = .bool false := hL 6 (by decide)
                  have h_74 : PB.slot A 74 = .bool false := hL 7 (by decide)
                  have h_75 : PB.slot A 75 = undef := hL 8 (by decide)
                  have h_76 : PB.slot A 76 = undef := hL 9 (by decide)
                  have h_77 : PB.slot A 77 = undef := hL 10 (by decide)
                  have h_78 : PB.slot A 78 = undef := hL 11 (by decide)
                  have h_79 : PB.slot A 79 = undef := hL 12 (by decide)
                  have h_80 : PB.slot A 80 = undef := hL 13 (by decide)
                  have h_81 : PB.slot A 81 = .bool false := hL 14 (by decide)
                  have h_82 : PB.slot A 82 = .bool false := hL 15 (by decide)
                  have hA := frame_puts hS.defers hS.size [67, 68, 69, 70, 71, 72, 73, 74, 75, 76, 77, 78, 79, 80, 81, 82] (fun t ht => hS.slots t (by simp only [List.mem_cons, List.not_mem_nil, or_false, not_or] at ht; simp [PT.outerK]; omega))
                  obtain ⟨fr, hf⟩ : ∃ f, PB.slot A = f := ⟨_, rfl⟩
                  rw [hA]
                  simp only [puts]
                  rw [hf] at h_67 h_68 h_69 h_70 h_71 h_72 h_73 h_74 h_75 h_76 h_77 h_78 h_79 h_80 h_81 h_82 ⊢
                  clear hA hf hL hS
                  simp only [h_67, h_68, h_69, h_70, h_71, h_72, h_73, h_74, h_75, h_76, h_77, h_78, h_79, h_80, h_81, h_82, Act.put, List.setIfInBounds_toArray, List.set_cons_succ, List.set_cons_zero, List.drop_succ_cons, List.drop_zero, List.drop_nil]
                  clear h_67 h_68 h_69 h_70 h_71 h_72 h_73 h_74 h_75 h_76 h_77 h_78 h_79 h_80 h_81 h_82
                  have P4 := hid' (P3.out.on hB)
                  clear P3 hB
                  go_wp2
                  go_meet
                  case rel => exact ⟨R, p, [], by simp, rfl, ⟨P4.out.q, P4.out.want, P4.out.below, hhG, hhR, by simp at hfw ⊢; omega⟩⟩
              | cons u L =>
                obtain ⟨b', o', cap', hv, hcap⟩ := hP.out.want.shape (by simp)
                rw [List.length_cons] at hv hcap
                subst hv
                have HPO := hid' (pop_some wr G R room L u p hP.out.q (by omega))
                have HFU := hid' (hP.out.q.good u (by simp))
                have hltR := hP.out.q.ltR.1
                go_wp2_with fail
                refine HPO.out.mono ?_
                rintro e w2 ⟨s, rfl, hrd, hq2, hk2⟩
                have HRD := hid' hrd
                have HQ2 := hid' hq2
                have HK2 := hid' hk2
                clear HPO hrd hq2 hk2
                unfold Slot.val
                go_wp2_with fail
                generalize hw3 : w2.alloc (.cells #[.slice s.a s.n s.c, .int .i64 s.t.1, .int .i64 s.t.2, .int .i64 s.d] 38) = w3
                have hb3 : Below w2.heap.size w2 w3 := by rw [← hw3]; exact (Below.refl _ w2).alloc (Nat.le_refl _) _
                have HV : Hid (∀ W, Below w3.heap.size w3 W → C4 W w2.heap.size 0 s) := by
                  intro W hB
                  have : W.heap[w2.heap.size]? = some (.cells (flatS [s]).toArray 38 (0, 0)) := by
                    rw [hB.block w2.heap.size (by rw [← hw3]; simp), ← hw3]
                    exact heap_alloc_new w2 _
                  exact C4.of_block this (i := 0) (by simp)
                have hw2b : Below w0.heap.size w0 w2 := HK2.out.below hP.out.below (Nat.le_refl _) hhG hhR
                have HWN := hid' ((hP.out.want.kp HK2.out hhG hhR).on hb3 hw2b.size)
                have HRW : Hid (∀ W, Below w3.heap.size w3 W → Rd (Out G R) W s u) := fun W hB => (Kp.of_below hB).rd ((Kp.of_below hb3).rd HRD.out)
                have HW : Hid (∀ W, Below w3.heap.size w3 W → OneIs u (.slice (some ⟨b', o', none⟩) 1 cap') W) := fun W hB => by
                  have h := (HWN.out.on hB (Nat.le_trans hw2b.size hb3.size)).one (i := 0) (by simp) cap'
                  simpa using h
                have P3 : Hid (∀ v W, Below w3.heap.size w3 W → IsWant w0.heap.size W G R v L → Pl w0 G R room (j + 1) L (p + 1) v W) := fun v W hB hw =>
                  ⟨(HQ2.out.on hb3).on hB, hw, (hw2b.trans (hb3.mono hw2b.size)).trans (hB.mono (Nat.le_trans hw2b.size hb3.size)), hhG, hhR, by rw [List.length_cons] at hfw; omega⟩
                have HWT : Hid (∀ W, Below w3.heap.size w3 W → IsWant w0.heap.size W G R (.slice (if cap' = 1 then some ⟨b', o', none⟩ else some ⟨b', o' + 4, none⟩) L.length (cap' - 1)) L) := fun W hB => (HWN.out.on hB (Nat.le_trans hw2b.size hb3.size)).tail
                have hn0 : ((L.length + 1 : Nat) : Int) > 0 := by omega
                clear hw3 hb3 HRD HQ2 HK2 hP hw2b HWN
                refine PT.wp_region_tail 16 (PB.phi [PB.E (.bool true), PB.E (.slice (some ⟨b', o', none⟩) (L.length + 1) cap'), PB.E (.int .i64 ((L.length + 1 : Nat) : Int)), PB.E (.bool true), PB.E (.bool false), PB.E (.bool false), PB.E (.bool true), PB.E (.bool true), PB.E (s.val), OneIs u, PB.E (.slice (some ⟨b', o', none⟩) (L.length + 1) cap'), PB.E (.slice (some ⟨b', o', none⟩) 1 cap'), PB.E (.bool true), PB.E (.bool (!true)), PB.E (.bool (!true)), PB.E (.bool (!true))]) mixed (by kernel_rfl)
                  (PB.phi_lasts _ ⟨PB.E_lasts _, PB.E_lasts _, PB.E_lasts _, PB.E_lasts _, PB.E_lasts _, PB.E_lasts _, PB.E_lasts _, PB.E_lasts _, PB.E_lasts _, oneIs_lasts _, PB.E_lasts _, PB.E_lasts _, PB.E_lasts _, PB.E_lasts _, PB.E_lasts _, PB.E_lasts _, trivial⟩) ?_ ?_
                · refine ⟨?_, ?_, ?_, ?_, ?_, ?_, ?_, ?_, ?_, ?_, ?_, ?_, ?_, ?_, ?_, ?_, trivial⟩ <;> intro A W hB hS hA hF
                  · exact Or.inl (PB.does_move (PB.wanted_free rfl) rfl (hS.slots 12 rfl))
                  · exact Or.inl (PB.does_move (PB.wanted_free rfl) rfl (hS.slots 7 rfl))
                  · exact Or.inl (PB.does_run (PB.wanted_free rfl) (run_lenU W (hA 1 rfl)) rfl)
                  · exact Or.inl (PB.does_bin2 (PB.wanted_free rfl) rfl (hA 2 rfl) rfl ((run_gtI W ((L.length + 1 : Nat) : Int) 0 _ _).trans (by rw [decide_eq_true (by omega)])) rfl)
                  · exact Or.inl (PB.does_bin (PB.wanted_free rfl) rfl (hA 0 rfl) (hA 3 rfl) (run_neB W true true _ _) rfl)
                  · exact Or.inl (PB.does_move (PB.wanted_free rfl) rfl (hA 4 rfl))
                  · exact Or.inl (PB.does_move (PB.wanted_by rfl rfl (hA 5 rfl)) rfl (hS.slots 12 rfl))
                  · exact Or.inl (PB.does_move (PB.wanted_by rfl rfl (hA 5 rfl)) rfl (hA 6 rfl))
                  · exact Or.inl (PB.does_run (PB.wanted_by rfl rfl (hA 7 rfl)) (run_loadU W (hS.slots 11 rfl) (HV.out W hB)) rfl)
                  · exact Or.inl (PT.does_grown (PB.wanted_by rfl rfl (hA 7 rfl)) (run_buildU W (hA 8 rfl)) ((Below.refl _ W).alloc (Nat.le_refl _) _) (one_new W s u _ (HRW.out W hB)))
                  · exact Or.inl (PB.does_move (PB.wanted_by rfl rfl (hA 7 rfl)) rfl (hS.slots 7 rfl))
                  · exact Or.inl (PB.does_run (PB.wanted_by rfl rfl (hA 7 rfl)) (run_slice1 W (hA 10 rfl) (by omega) hcap) rfl)
                  · exact Or.inl (PB.does_call #[PB.slot A 76, .slice (some ⟨b', o', none⟩) 1 cap'] (PB.wanted_by rfl rfl (hA 7 rfl)) rfl Try.func11 rfl rfl (by show [PB.slot A 76, PB.slot A 78] = _; rw [show PB.slot A 78 = .slice (some ⟨b', o', none⟩) 1 cap' from (hA 11 rfl)]) (same_newB W u HFU.out _ _ (hA 9 rfl) (HW.out W hB)))
                  · exact Or.inl (PB.does_run (PB.wanted_by rfl rfl (hA 7 rfl)) (run_not W (hA 12 rfl)) rfl)
                  · exact Or.inl (PB.does_run (PB.wanted_by rfl rfl (hA 5 rfl)) (run_pick_then W (hA 7 rfl) (hA 13 rfl)) rfl)
                  · exact Or.inl (PB.does_run (PB.wanted_free rfl) (run_pick_else W (hA 5 rfl) (hA 14 rfl)) rfl)
                · intro A W hB hS hL
                  have h_67 : PB.slot A 67 = .bool true := hL 0 (by decide)
                  have h_68 : PB.slot A 68 = .slice (some ⟨b', o', none⟩) (L.length + 1) cap' := hL 1 (by decide)
                  have h_69 : PB.slot A 69 = .int .i64 ((L.length + 1 : Nat) : Int) := hL 2 (by decide)
                  have h_70 : PB.slot A 70 = .bool true := hL 3 (by decide)
                  have h_71 : PB.slot A 71 = .bool false := hL 4 (by decide)
                  have h_72 : PB.slot A 72 = .bool false := hL 5 (by decide)
                  have h_73 : PB.slot A 73 = .bool true := hL 6 (by decide)
                  have h_74 : PB.slot A 74 = .bool true := hL 7 (by decide)
                  have h_75 : PB.slot A 75 = s.val := hL 8 (by decide)
                  have h_77 : PB.slot A 77 = .slice (some ⟨b', o', none⟩) (L.length + 1) cap' := hL 10 (by decide)
                  have h_78 : PB.slot A 78 = .slice (some ⟨b', o', none⟩) 1 cap' := hL 11 (by decide)
                  have h_79 : PB.slot A 79 = .bool true := hL 12 (by decide)
                  have h_80 : PB.slot A 80 = .bool (!true) := hL 13 (by decide)
                  have h_81 : PB.slot A 81 = .bool (!true) := hL 14 (by decide)
                  have h_82 : PB.slot A 82 = .bool (!true) := hL 15 (by decide)
                  have hA := frame_puts hS.defers hS.size [67, 68, 69, 70, 71, 72, 73, 74, 75, 76, 77, 78, 79, 80, 81, 82] (fun t ht => hS.slots t (by simp only [List.mem_cons, List.not_mem_nil, or_false, not_or] at ht; simp [PT.outerK]; omega))
                  obtain ⟨fr, hf⟩ : ∃ f, PB.slot A = f := ⟨_, rfl⟩
                  rw [hA]
                  simp only [puts]
                  rw [hf] at h_67 h_68 h_69 h_70 h_71 h_72 h_73 h_74 h_75 h_77 h_78 h_79 h_80 h_81 h_82 ⊢
                  clear hA hf hL hS
                  simp only [h_67, h_68, h_69, h_70, h_71, h_72, h_73, h_74, h_75, h_77, h_78, h_79, h_80, h_81, h_82, Act.put, List.setIfInBounds_toArray, List.set_cons_succ, List.set_cons_zero, List.drop_succ_cons, List.drop_zero, List.drop_nil]
                  clear h_67 h_68 h_69 h_70 h_71 h_72 h_73 h_74 h_75 h_77 h_78 h_79 h_80 h_81 h_82
                  have P4 := hid' (fun v h => P3.out v W hB h)
                  have W4 := hid' (HWT.out W hB)
                  clear P3 hB HV HRW HW HFU HWT
                  by_cases hc1 : cap' = 1
                  · subst hc1
                    have hl0 : L.length = 0 := by omega
                    have W5 := hid' (show IsWant w0.heap.size W G R (.slice (some ⟨b', o', none⟩) 0 0) L by have h := W4.out; rw [if_pos rfl, hl0] at h; exact h)
                    clear W4
                    go_wp2
                    go_meet
                    case rel => exact ⟨R, p + 1, L, congrArg (Value.int .i64) (by omega), congrArg (Value.int .i64) (by omega), P4.out _ W5.out⟩
                  · have W5 := hid' (show IsWant w0.heap.size W G R (.slice (some ⟨b', o' + 4, none⟩) L.length (cap' - 1)) L by have h := W4.out; rw [if_neg hc1] at h; exact h)
                    clear W4
                    go_wp2
                    go_meet
                    case rel => exact ⟨R, p + 1, L, congrArg (Value.int .i64) (by omega), congrArg (Value.int .i64) (by omega), P4.out _ W5.out⟩
            | false =>
              obtain ⟨va, vcap, hv, hvc, hvs, hvl⟩ := hP.out.want.ex
              subst hv
              clear hvl hvs
              have HPU := hid' (push_ups wr w0.heap.size G R room L xl p ln lc la hP.out.q HU.out HFJ.out hszw hhG hhR (by omega))
              go_wp2_with fail
              refine HPU.out.mono ?_
              rintro e w2 ⟨rfl, R', hR', hq2, hk2⟩
              have hw2b : Below w0.heap.size w0 w2 := hk2.below hP.out.below (Nat.le_refl _) hhG hhR
              have HU2 := hid' (HU.out.keep (⟨hk2.os, hk2.tape, hk2.output, by have := hk2.size; omega, fun k hk => hk2.block k (by omega) (by omega) (by omega)⟩ : Below w0.heap.size wr w2))
              have HQ2 := hid' hq2
              have c12 := ((⟨hk2.os, hk2.tape, hk2.output, by have := hk2.size; omega, fun k hk => hk2.block k (by omega) (by omega) (by omega)⟩ : Below w0.heap.size wr w2).cell (p := ⟨b, off + j * 2 + 1, none⟩) hb).trans c1
              obtain ⟨S1, hS1, hS1n, hR1, hsh1, hsrc1⟩ := (hP.out.want.kp hk2 hhG hhR).slots
              obtain ⟨S2, hS2, hR2, hsrc2⟩ := HU2.out.slots
              obtain ⟨R2, hR2c, hR2l, hq2'⟩ := hq2.real
              have hhR2 : w0.heap.size ≤ R2 := by rcases hR2c with rfl | rfl <;> rcases hR' with h | h <;> omega
              have hGl := hq2.lt
              have HSRC1 := hid' hsrc1
              have HSRC2 := hid' hsrc2
              have HR1 := hid' hR1
              have HR2 := hid' hR2
              have HQ3 := hid' hq2'
              have HW2B := hid' hw2b
              have hbw : b < w2.heap.size := by have := hk2.size; omega
              have hln := HU.out.len
              have h60 := HFJ.out.1
              have HSHP := hid' HU.out.shape
              have hsz2 := hw2b.size
              clear HPU hq2 hk2 hsrc1 hsrc2 hR1 hR2 hq2' hw2b HQ2
              go_wp2_with fail
              refine (code_any 0 _).mono ?_
              rintro e w3 ⟨rfl, rfl⟩
              go_wp2_with fail
              have hb3 : Below w3.heap.size w3 ((w3.alloc (.cells #[] 38)).drew) := ((Below.refl _ w3).alloc (Nat.le_refl _) _).drew
              have HB3 := hid' hb3
              clear hb3
              go_region_law (first
                | (refine step_append rfl (.tmp 97) (.tmp 98) rfl w3.heap.size _ 0 [] rfl (owns_empty w3) va L.length vcap S1 rfl hS1 hsh1 (HSRC1.out _ (by first | exact HB3.out | exact (Below.refl _ w3).drew.alloc (Nat.le_refl _) _ | exact (Below.refl _ w3).alloc (Nat.le_refl _) _)) (by omega) (by simp) ?_; intro v4 w4 hown4 hgrow4; have hb4 : Below w3.heap.size w3 w4 := HB3.out.grown hgrow4 (by simp) (fun k e => by cases e; exact Nat.le_refl _); have c14 := (hb4.cell (p := ⟨b, off + j * 2 + 1, none⟩) hbw).trans c12)
                | (refine step_append rfl (.tmp 99) (.tmp 104) rfl w3.heap.size _ _ _ rfl hown4 la ln lc S2 rfl hS2 HSHP.out (HSRC2.out _ (hb4.mono hsz2)) (by omega) hb4.size ?_; intro v5 w5 hown5 hgrow5))
              all_goals
                have hb5 : Below w3.heap.size w3 w5 := hb4.grown hgrow5 hb4.size (fun q hq => (hown4.lt q hq).1)
                have HW5 := hid' (want_append hown5 hS1 rfl hS2 hln HR1.out HR2.out hb5 hGl hR2l)
                have P5 : Hid (Pl w0 G R2 room (j + 1) (L ++ xl) p v5 w5) := ⟨HQ3.out.on hb5, HW5.out, HW2B.out.trans (hb5.mono hsz2), hhG, hhR2, by rw [List.length_append]; omega⟩
                have c15 := (hb5.cell (p := ⟨b, off + j * 2 + 1, none⟩) hbw).trans c12
                clear hown4 hgrow4 hown5 hgrow5 hb4 hb5 c14 c12 HW5 HR1 HR2 HSRC1 HSRC2 HQ3 HW2B HB3 HU HU2 hP
                go_wp2
                go_meet
                case rel => exact ⟨R2, p, L ++ xl, congrArg (Value.int .i64) (by rw [List.length_append]; omega), rfl, P5⟩
          case rest =>
            obtain ⟨R', p', L', rfl, rfl, hP'⟩ := hcut
            obtain ⟨va, vcap, hv, hvc, hvs, hvl⟩ := hP'.out.want.ex
            subst hv
            have hfw := hP'.out.few
            have HVL := hid' hvl
            have HPA := hid' (hP'.out.q.passed (by omega) (by omega))
            clear hvl c0 c1 HU HFJ hP hvs
            go_wp2_with fail
            refine HPA.out.mono ?_
            rintro e w1 ⟨rfl, hb1⟩
            clear HPA
            have P1 := hid' (hP'.out.on hb1)
            clear hb1 hP'
            go_wp2_with fail
            refine P1.out.q.len.mono ?_
            rintro e w2 ⟨rfl, rfl⟩
            go_wp2_with fail
            refine P1.out.q.open.mono ?_
            rintro e w2 ⟨rfl, hb2⟩
            have P2 := hid' (P1.out.on hb2)
            clear hb2 P1
            go_wp2_with fail
            refine (lower_any _ _ _ _ _ _ P2.out.q).mono ?_
            rintro e w3 ⟨t1, f1, rfl, hs1, hl1, ht1, hb3⟩
            have P3 := hid' (P2.out.on hb3)
            have HT1 := hid' ht1
            have HS1 := hid' hs1
            clear hb3 P2 ht1 hs1
            obtain ⟨ta, tn, rfl⟩ : ∃ ta tn, t1 = .slice ta f1.length tn := by obtain ⟨x, y, e, _⟩ := HT1.out; exact ⟨x, y, e⟩
            go_wp2_with fail
            refine (P3.out.want.lower (fun u hu => (P3.out.q.good u hu).time) (by omega)).mono ?_
            rintro e w4 ⟨t2, f2, rfl, hs2, hl2, ht2, hb4⟩
            have P4 := hid' (P3.out.on hb4)
            have HSM := hid' (same_L w4 f1 f2 _ _ (HT1.out.on hb4) ht2 (by omega) (by omega))
            have hff : f1 = f2 := HS1.out.eq hs2 (fun t => Iff.rfl)
            obtain ⟨ta2, tn2, rfl⟩ : ∃ ta tn, t2 = .slice ta f2.length tn := by obtain ⟨x, y, e, _⟩ := ht2; exact ⟨x, y, e⟩
            rw [decide_eq_true hff] at HSM
            clear hb4 P3 ht2 hs2 hff HT1 HS1
            go_wp2_with fail
            refine HSM.out.mono ?_
            rintro e w5 ⟨rfl, hb5⟩
            have P5 := hid' (P4.out.on hb5)
            clear hb5 P4 HSM
            go_wp2
            go_loopg [15] (L'.length + 1) (fun k i wr => ∃ m : Nat, m + k = L'.length + 1 ∧ i = .int .i64 (m : Int) ∧ Hid (Pl w0 G R' room (j + 1) L' p' (.slice va L'.length vcap) wr))
            case atStart => exact ⟨0, by omega, rfl, P5⟩
            case round =>
              obtain ⟨m, hm, rfl, hI⟩ := hrel
              cases gk with
              | zero =>
                obtain rfl : m = L'.length + 1 := by omega
                go_wp2
                go_roundg k
                case measure => omega
                case rel => exact ⟨j + 1, R', p', L', by omega, by simp, rfl, rfl, hI⟩
              | succ k' =>
                by_cases hmL : m < L'.length
                · obtain ⟨b', o', cap', hv, hcap⟩ := hI.out.want.shape (by rintro rfl; simp at hmL)
                  simp only [Value.slice.injEq, true_and] at hv
                  obtain ⟨rfl, rfl⟩ := hv
                  have HPK := hid' (peek_at wr G R' room L' p' m hI.out.q hmL)
                  have hfu := hI.out.q.good (L'.getD m u0) (by rw [List.getD, List.getElem?_eq_getElem hmL]; exact List.getElem_mem hmL)
                  have HFU := hid' hfu
                  clear hfu
                  have hmi : (m : Int) ≤ (L'.length : Int) := by omega
                  go_wp2_with fail
                  refine HPK.out.mono ?_
                  rintro e w2 ⟨s, rfl, hrd, hb2⟩
                  have HRD := hid' hrd
                  have HB2 := hid' hb2
                  clear HPK hrd hb2
                  unfold Slot.val
                  go_wp2_with fail
                  generalize hw3 : w2.alloc (.cells #[.slice s.a s.n s.c, .int .i64 s.t.1, .int .i64 s.t.2, .int .i64 s.d] 38) = w3
                  have hb3 : Below w2.heap.size w2 w3 := by rw [← hw3]; exact (Below.refl _ w2).alloc (Nat.le_refl _) _
                  have HV : Hid (∀ W, Below w3.heap.size w3 W → C4 W w2.heap.size 0 s) := by
                    intro W hB
                    have : W.heap[w2.heap.size]? = some (.cells (flatS [s]).toArray 38 (0, 0)) := by
                      rw [hB.block w2.heap.size (by rw [← hw3]; simp), ← hw3]
                      exact heap_alloc_new w2 _
                    exact C4.of_block this (i := 0) (by simp)
                  have P3 := hid' ((hI.out.on HB2.out).on hb3)
                  have HRW : Hid (∀ W, Below w3.heap.size w3 W → Rd (Since wr.heap.size) W s (L'.getD m u0)) := fun W hB =>
                    (HRD.out.keep (fun k hP hk => ⟨hb3.block k hk, hP⟩) hb3.size).keep (fun k hP hk => ⟨hB.block k hk, hP⟩) hB.size
                  have HW : Hid (∀ W, Below w3.heap.size w3 W → OneIs (L'.getD m u0) (.slice (some ⟨b', o' + m * 4, none⟩) 1 (vcap - m)) W) := fun W hB => (P3.out.want.on hB P3.out.below.size).one hmL _
                  generalize L'.getD m u0 = u at HRW HW HFU HRD
                  have hm6 : m ≤ 1000000 := by omega
                  clear hw3 hb3 HB2 HRD hI
                  refine PT.wp_region_tail 20 (PB.phi [PB.E (.bool true), PB.E (.int .i64 (m : Int)), PB.E (.slice (some ⟨b', o', none⟩) L'.length vcap), PB.E (.int .i64 (L'.length : Int)), PB.E (.bool true), PB.E (.bool false), PB.E (.bool false), PB.E (.bool true), PB.E (.bool true), PB.E (s.val), OneIs u, PB.E (.slice (some ⟨b', o', none⟩) L'.length vcap), PB.E (.int .i64 (m : Int)), PB.E (.int .i64 (m : Int)), PB.E (.int .i64 ((m : Int) + 1)), PB.E (.slice (some ⟨b', o' + m * 4, none⟩) 1 (vcap - m)), PB.E (.bool true), PB.E (.bool (!true)), PB.E (.bool (!true)), PB.E (.bool (!true))]) mixed (by kernel_rfl)
                    (PB.phi_lasts _ ⟨PB.E_lasts _, PB.E_lasts _, PB.E_lasts _, PB.E_lasts _, PB.E_lasts _, PB.E_lasts _, PB.E_lasts _, PB.E_lasts _, PB.E_lasts _, PB.E_lasts _, oneIs_lasts _, PB.E_lasts _, PB.E_lasts _, PB.E_lasts _, PB.E_lasts _, PB.E_lasts _, PB.E_lasts _, PB.E_lasts _, PB.E_lasts _, PB.E_lasts _, trivial⟩) ?_ ?_
                  · refine ⟨?_, ?_, ?_, ?_, ?_, ?_, ?_, ?_, ?_, ?_, ?_, ?_, ?_, ?_, ?_, ?_, ?_, ?_, ?_, ?_, trivial⟩ <;> intro A W hB hS hA hF
                    · exact Or.inl (PB.does_move (PB.wanted_free rfl) rfl (hS.slots 17 rfl))
                    · exact Or.inl (PB.does_move (PB.wanted_free rfl) rfl (hS.slots 15 rfl))
                    · exact Or.inl (PB.does_move (PB.wanted_free rfl) rfl (hS.slots 7 rfl))
                    · exact Or.inl (PB.does_run (PB.wanted_free rfl) (run_lenU W (hA 2 rfl)) rfl)
                    · exact Or.inl (PB.does_bin (PB.wanted_free rfl) rfl (hA 1 rfl) (hA 3 rfl) ((run_ltI W (m : Int) (L'.length : Int) _ _).trans (by rw [decide_eq_true (by omega)])) rfl)
                    · exact Or.inl (PB.does_bin (PB.wanted_free rfl) rfl (hA 0 rfl) (hA 4 rfl) (run_neB W true true _ _) rfl)
                    · exact Or.inl (PB.does_move (PB.wanted_free rfl) rfl (hA 5 rfl))
                    · exact Or.inl (PB.does_move (PB.wanted_by rfl rfl (hA 6 rfl)) rfl (hS.slots 17 rfl))
                    · exact Or.inl (PB.does_move (PB.wanted_by rfl rfl (hA 6 rfl)) rfl (hA 7 rfl))
                    · exact Or.inl (PB.does_run (PB.wanted_by rfl rfl (hA 8 rfl)) (run_loadU W (hS.slots 16 rfl) (HV.out W hB)) rfl)
                    · exact Or.inl (PT.does_grown (PB.wanted_by rfl rfl (hA 8 rfl)) (run_buildU W (hA 9 rfl)) ((Below.refl _ W).alloc (Nat.le_refl _) _) (one_new W s u _ (HRW.out W hB)))
                    · exact Or.inl (PB.does_move (PB.wanted_by rfl rfl (hA 8 rfl)) rfl (hS.slots 7 rfl))
                    · exact Or.inl (PB.does_move (PB.wanted_by rfl rfl (hA 8 rfl)) rfl (hS.slots 15 rfl))
                    · exact Or.inl (PB.does_move (PB.wanted_by rfl rfl (hA 8 rfl)) rfl (hS.slots 15 rfl))
                    · exact Or.inl (PB.does_bin2 (PB.wanted_by rfl rfl (hA 8 rfl)) rfl (hA 13 rfl) rfl (run_add1 W m _ _ hm6) rfl)
                    · exact Or.inl (PB.does_run (PB.wanted_by rfl rfl (hA 8 rfl)) (run_sliceU W (hA 11 rfl) (hA 12 rfl) (hA 14 rfl) hmL hcap) rfl)
                    · exact Or.inl (PB.does_call #[PB.slot A 173, .slice (some ⟨b', o' + m * 4, none⟩) 1 (vcap - m)] (PB.wanted_by rfl rfl (hA 8 rfl)) rfl Try.func11 rfl rfl (by show [PB.slot A 173, PB.slot A 178] = _; rw [show PB.slot A 178 = .slice (some ⟨b', o' + m * 4, none⟩) 1 (vcap - m) from (hA 15 rfl)]) (same_newB W u HFU.out _ _ (hA 10 rfl) (HW.out W hB)))
                    · exact Or.inl (PB.does_run (PB.wanted_by rfl rfl (hA 8 rfl)) (run_not W (hA 16 rfl)) rfl)
                    · exact Or.inl (PB.does_run (PB.wanted_by rfl rfl (hA 6 rfl)) (run_pick_then W (hA 8 rfl) (hA 17 rfl)) rfl)
                    · exact Or.inl (PB.does_run (PB.wanted_free rfl) (run_pick_else W (hA 6 rfl) (hA 18 rfl)) rfl)
                  · intro A W hB hS hL
                    have h_163 : PB.slot A 163 = .bool true := hL 0 (by decide)
                    have h_164 : PB.slot A 164 = .int .i64 (m : Int) := hL 1 (by decide)
                    have h_165 : PB.slot A 165 = .slice (some ⟨b', o', none⟩) L'.length vcap := hL 2 (by decide)
                    have h_166 : PB.slot A 166 = .int .i64 (L'.length : Int) := hL 3 (by decide)
                    have h_167 : PB.slot A 167 = .bool true := hL 4 (by decide)
                    have h_168 : PB.slot A 168 = .bool false := hL 5 (by decide)
                    have h_169 : PB.slot A 169 = .bool false := hL 6 (by decide)
                    have h_170 : PB.slot A 170 = .bool true := hL 7 (by decide)
                    have h_171 : PB.slot A 171 = .bool true := hL 8 (by decide)
                    have h_172 : PB.slot A 172 = s.val := hL 9 (by decide)
                    have h_174 : PB.slot A 174 = .slice (some ⟨b', o', none⟩) L'.length vcap := hL 11 (by decide)
                    have h_175 : PB.slot A 175 = .int .i64 (m : Int) := hL 12 (by decide)
                    have h_176 : PB.slot A 176 = .int .i64 (m : Int) := hL 13 (by decide)
                    have h_177 : PB.slot A 177 = .int .i64 ((m : Int) + 1) := hL 14 (by decide)
                    have h_178 : PB.slot A 178 = .slice (some ⟨b', o' + m * 4, none⟩) 1 (vcap - m) := hL 15 (by decide)
                    have h_179 : PB.slot A 179 = .bool true := hL 16 (by decide)
                    have h_180 : PB.slot A 180 = .bool (!true) := hL 17 (by decide)
                    have h_181 : PB.slot A 181 = .bool (!true) := hL 18 (by decide)
                    have h_182 : PB.slot A 182 = .bool (!true) := hL 19 (by decide)
                    have hA := frame_puts hS.defers hS.size [163, 164, 165, 166, 167, 168, 169, 170, 171, 172, 173, 174, 175, 176, 177, 178, 179, 180, 181, 182] (fun t ht => hS.slots t (by simp only [List.mem_cons, List.not_mem_nil, or_false, not_or] at ht; simp [PT.outerK]; omega))
                    obtain ⟨fr, hf⟩ : ∃ f, PB.slot A = f := ⟨_, rfl⟩
                    rw [hA]
                    simp only [puts]
                    rw [hf] at h_163 h_164 h_165 h_166 h_167 h_168 h_169 h_170 h_171 h_172 h_174 h_175 h_176 h_177 h_178 h_179 h_180 h_181 h_182 ⊢
                    clear hA hf hL hS
                    simp only [h_163, h_164, h_165, h_166, h_167, h_168, h_169, h_170, h_171, h_172, h_174, h_175, h_176, h_177, h_178, h_179, h_180, h_181, h_182, Act.put, List.setIfInBounds_toArray, List.set_cons_succ, List.set_cons_zero, List.drop_succ_cons, List.drop_zero, List.drop_nil]
                    clear h_163 h_164 h_165 h_166 h_167 h_168 h_169 h_170 h_171 h_172 h_174 h_175 h_176 h_177 h_178 h_179 h_180 h_181 h_182
                    have P4 := hid' (P3.out.on hB)
                    clear P3 hB HV HRW HW HFU
                    go_wp2
                    go_roundg k'
                    case measure => omega
                    case rel => exact ⟨m + 1, by omega, by simp, P4⟩
                · obtain rfl : m = L'.length := by omega
                  have HPK := hid' (peek_out wr G R' room L' p' (L'.length : Int) hI.out.q (Int.le_refl _))
                  go_wp2_with fail
                  refine HPK.out.mono ?_
                  rintro e w2 ⟨rfl, hb2⟩
                  have HB2 := hid' hb2
                  clear HPK hb2
                  unfold s0 Slot.val
                  simp only
                  go_wp2_with fail
                  generalize hw3 : w2.alloc (.cells #[.slice none 0 0, .int .i64 0, .int .i64 0, .int .i64 0] 38) = w3
                  have hb3 : Below w2.heap.size w2 w3 := by rw [← hw3]; exact (Below.refl _ w2).alloc (Nat.le_refl _) _
                  have P3 := hid' ((hI.out.on HB2.out).on hb3)
                  clear hw3 hb3 HB2 hI
                  refine PT.wp_region_tail 20 (PB.phi [PB.E (.bool false), PB.E (.int .i64 (L'.length : Int)), PB.E (.slice va L'.length vcap), PB.E (.int .i64 (L'.length : Int)), PB.E (.bool false), PB.E (.bool false), PB.E (.bool false), PB.E (.bool false), PB.E (.bool false), PB.E undef, PB.E undef, PB.E undef, PB.E undef, PB.E undef, PB.E undef, PB.E undef, PB.E undef, PB.E undef, PB.E (.bool false), PB.E (.bool false)]) mixed (by kernel_rfl)
                    (PB.phi_lasts _ ⟨PB.E_lasts _, PB.E_lasts _, PB.E_lasts _, PB.E_lasts _, PB.E_lasts _, PB.E_lasts _, PB.E_lasts _, PB.E_lasts _, PB.E_lasts _, PB.E_lasts _, PB.E_lasts _, PB.E_lasts _, PB.E_lasts _, PB.E_lasts _, PB.E_lasts _, PB.E_lasts _, PB.E_lasts _, PB.E_lasts _, PB.E_lasts _, PB.E_lasts _, trivial⟩) ?_ ?_
                  · refine ⟨?_, ?_, ?_, ?_, ?_, ?_, ?_, ?_, ?_, ?_, ?_, ?_, ?_, ?_, ?_, ?_, ?_, ?_, ?_, ?_, trivial⟩ <;> intro A W hB hS hA hF
                    · exact Or.inl (PB.does_move (PB.wanted_free rfl) rfl (hS.slots 17 rfl))
                    · exact Or.inl (PB.does_move (PB.wanted_free rfl) rfl (hS.slots 15 rfl))
                    · exact Or.inl (PB.does_move (PB.wanted_free rfl) rfl (hS.slots 7 rfl))
                    · exact Or.inl (PB.does_run (PB.wanted_free rfl) (run_lenU W (hA 2 rfl)) rfl)
                    · exact Or.inl (PB.does_bin (PB.wanted_free rfl) rfl (hA 1 rfl) (hA 3 rfl) ((run_ltI W (L'.length : Int) (L'.length : Int) _ _).trans (by rw [decide_eq_false (by omega)])) rfl)
                    · exact Or.inl (PB.does_bin (PB.wanted_free rfl) rfl (hA 0 rfl) (hA 4 rfl) (run_neB W false false _ _) rfl)
                    · exact Or.inl (PB.does_move (PB.wanted_free rfl) rfl (hA 5 rfl))
                    · exact Or.inl (PB.does_move (PB.wanted_by rfl rfl (hA 6 rfl)) rfl (hS.slots 17 rfl))
                    · exact Or.inl (PB.does_move (PB.wanted_by rfl rfl (hA 6 rfl)) rfl (hA 7 rfl))
                    · exact Or.inr ⟨PT.pass_by rfl rfl (hA 8 rfl) (by decide), rfl⟩
                    · exact Or.inr ⟨PT.pass_by rfl rfl (hA 8 rfl) (by decide), rfl⟩
                    · exact Or.inr ⟨PT.pass_by rfl rfl (hA 8 rfl) (by decide), rfl⟩
                    · exact Or.inr ⟨PT.pass_by rfl rfl (hA 8 rfl) (by decide), rfl⟩
                    · exact Or.inr ⟨PT.pass_by rfl rfl (hA 8 rfl) (by decide), rfl⟩
                    · exact Or.inr ⟨PT.pass_by rfl rfl (hA 8 rfl) (by decide), rfl⟩
                    · exact Or.inr ⟨PT.pass_by rfl rfl (hA 8 rfl) (by decide), rfl⟩
                    · exact Or.inr ⟨PT.pass_by rfl rfl (hA 8 rfl) (by decide), rfl⟩
                    · exact Or.inr ⟨PT.pass_by rfl rfl (hA 8 rfl) (by decide), rfl⟩
                    · exact Or.inl (PB.does_run (PB.wanted_by rfl rfl (hA 6 rfl)) (run_pick_elseC W (hA 8 rfl)) rfl)
                    · exact Or.inl (PB.does_run (PB.wanted_free rfl) (run_pick_else W (hA 6 rfl) (hA 18 rfl)) rfl)
                  · intro A W hB hS hL
                    have h_163 : PB.slot A 163 = .bool false := hL 0 (by decide)
                    have h_164 : PB.slot A 164 = .int .i64 (L'.length : Int) := hL 1 (by decide)
                    have h_165 : PB.slot A 165 = .slice va L'.length vcap := hL 2 (by decide)
                    have h_166 : PB.slot A 166 = .int .i64 (L'.length : Int) := hL 3 (by decide)
                    have h_167 : PB.slot A 167 = .bool false := hL 4 (by decide)
                    have h_168 : PB.slot A 168 = .bool false := hL 5 (by decide)
                    have h_169 : PB.slot A 169 = .bool false := hL 6 (by decide)
                    have h_170 : PB.slot A 170 = .bool false := hL 7 (by decide)
                    have h_171 : PB.slot A 171 = .bool false := hL 8 (by decide)
                    have h_172 : PB.slot A 172 = undef := hL 9 (by decide)
                    have h_173 : PB.slot A 173 = undef := hL 10 (by decide)
                    have h_174 : PB.slot A 174 = undef := hL 11 (by decide)
                    have h_175 : PB.slot A 175 = undef := hL 12 (by decide)
                    have h_176 : PB.slot A 176 = undef := hL 13 (by decide)
                    have h_177 : PB.slot A 177 = undef := hL 14 (by decide)
                    have h_178 : PB.slot A 178 = undef := hL 15 (by decide)
                    have h_179 : PB.slot A 179 = undef := hL 16 (by decide)
                    have h_180 : PB.slot A 180 = undef := hL 17 (by decide)
                    have h_181 : PB.slot A 181 = .bool false := hL 18 (by decide)
                    have h_182 : PB.slot A 182 = .bool false := hL 19 (by decide)
                    have hA := frame_puts hS.defers hS.size [163, 164, 165, 166, 167, 168, 169, 170, 171, 172, 173, 174, 175, 176, 177, 178, 179, 180, 181, 182] (fun t ht => hS.slots t (by simp only [List.mem_cons, List.not_mem_nil, or_false, not_or] at ht; simp [PT.outerK]; omega))
                    obtain ⟨fr, hf⟩ : ∃ f, PB.slot A = f := ⟨_, rfl⟩
                    rw [hA]
                    simp only [puts]
                    rw [hf] at h_163 h_164 h_165 h_166 h_167 h_168 h_169 h_170 h_171 h_172 h_173 h_174 h_175 h_176 h_177 h_178 h_179 h_180 h_181 h_182 ⊢
                    clear hA hf hL hS
                    simp only [h_163, h_164, h_165, h_166, h_167, h_168, h_169, h_170, h_171, h_172, h_173, h_174, h_175, h_176, h_177, h_178, h_179, h_180, h_181, h_182, Act.put, List.setIfInBounds_toArray, List.set_cons_succ, List.set_cons_zero, List.drop_succ_cons, List.drop_zero, List.drop_nil]
                    clear h_163 h_164 h_165 h_166 h_167 h_168 h_169 h_170 h_171 h_172 h_173 h_174 h_175 h_176 h_177 h_178 h_179 h_180 h_181 h_182
                    have P4 := hid' (P3.out.on hB)
                    clear P3 hB
                    go_wp2
                    go_roundg k'
                    case measure => omega
                    case rel => exact ⟨L'.length + 1, by omega, by simp, P4⟩
    · have HO := hid' (qNew_out room w0 (by omega))
      clear hfew HA
      by_cases h1 : room < 1
      · go_wp2_with fail
        refine HO.out.mono ?_
        rintro e w' ⟨rfl, rfl⟩
        go_wp2_with fail
        refine (code_any 1 _).mono ?_
        rintro e w' ⟨rfl, rfl⟩
        go_wp2_with fail
        refine (live_any _).mono ?_
        rintro e w1 ⟨rfl, hb1⟩
        go_wp2
        go_ret
        exact ⟨rfl, hb1⟩
      · have h2 : room > 65536 := by omega
        go_wp2_with fail
        refine HO.out.mono ?_
        rintro e w' ⟨rfl, rfl⟩
        go_wp2_with fail
        refine (code_any 1 _).mono ?_
        rintro e w' ⟨rfl, rfl⟩
        go_wp2_with fail
        refine (live_any _).mono ?_
        rintro e w1 ⟨rfl, hb1⟩
        go_wp2
        go_ret
        exact ⟨rfl, hb1⟩

end Go.Proofs.Ytboeodcjcbgeaaa
