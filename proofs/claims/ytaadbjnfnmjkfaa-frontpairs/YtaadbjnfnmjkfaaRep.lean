/-
  What is proved here: Rep of the program and of the document: the meet of all joins with one of the list.
-/
import Derived.Test.YtaadbjnfnmjkfaaAid
namespace Go.Proofs.Ytaadbjnfnmjkfaa
open Go.RowKit Go.Proofs
set_option linter.unusedVariables false
set_option linter.unusedSimpArgs false

/-- What stands for a time. -/
def repT (l : List T) (t : T) : T := match l with
  | [] => (0, 0)
  | x :: r => r.foldl (fun m u => meetT m (joinT t u)) (joinT t x)

theorem repT_take (l : List T) (t : T) (j : Nat) (hj : j < l.length) (h0 : 0 < j) : repT (l.take (j + 1)) t = meetT (repT (l.take j) t) (joinT t (l.getD j (0, 0))) := by
  cases l with
  | nil => simp at hj
  | cons x r =>
    obtain ⟨i, rfl⟩ : ∃ i, j = i + 1 := ⟨j - 1, by omega⟩
    have hi : i < r.length := by simpa using hj
    simp only [List.take_succ_cons, repT, List.getD_cons_succ]
    rw [List.take_add_one, List.foldl_append]
    simp [List.getD, List.getElem?_eq_getElem hi]

theorem repT_one (l : List T) (t : T) (h : 0 < l.length) : repT (l.take 1) t = joinT t (l.getD 0 (0, 0)) := by
  cases l with
  | nil => simp at h
  | cons x r => simp [repT]

/-- What holds while Rep goes: the time, the answer's place, what there is so far. -/
structure RepAt (w : World) (g : Nat) (t v : T) (wr : World) : Prop where
  below : Below w.heap.size w wr
  b3 : Box wr w.heap.size t
  b4 : Box wr (w.heap.size + 1) (0, 0)
  bg : Box wr g v

set_option maxHeartbeats 2000000 in
theorem Rep_any (w : World) (a : Option Addr) (cap : Nat) (l : List T) (t : T) (h : Ts w.heap.size w a l) (hcap : l.length ≤ cap) (hl : l.length ≤ 1000000000) :
    Calls Try.prog 25 #[.slice a l.length cap, .agg #[.int .i64 t.1, .int .i64 t.2]] w fun e w' => e = .returned (tv (repT l t)) ∧ Below w.heap.size w w' := by
  obtain ⟨t1, t2⟩ := t
  have mixed : Try.prog.follows .mixedOrders = true := by kernel_rfl
  obtain ⟨n, hn⟩ : ∃ n, l.length = n := ⟨_, rfl⟩
  have HN := hid' hn
  have HTS := hid' h
  rw [hn] at hl hcap ⊢
  clear h hn
  obtain ⟨r, hr⟩ : ∃ r, repT l (t1, t2) = r := ⟨_, rfl⟩
  have HR := hid' hr
  rw [hr]
  clear hr
  by_cases h0 : n = 0
  · subst h0
    have HR0 : Hid (r = (0, 0)) := by
      unfold Hid; rw [← HR.out, List.length_eq_zero_iff.1 HN.out]; rfl
    go_enter Try.func25, Try.ntmps25
    go_wp2
    (try simp only [Exit.inBlock, Exit.then])
    refine bodyPost_ret (v := tv r) ?_ rfl ⟨rfl, ?_⟩
    · rw [HR0.out]; unfold results; go_simp; simp [tv]
    · repeat' (first | exact Below.refl _ _ | refine Below.setCell ?_ (by simp <;> omega) _ | refine Below.alloc ?_ (by simp <;> omega) _)
  · obtain ⟨b, off, rfl, hBb, hc⟩ := HTS.out.cells (by intro e; have := HN.out; rw [e] at this; simp at this; omega)
    have hx0 := hc 0 (by rw [HN.out]; omega)
    have HR1 := hid' (repT_one l (t1, t2) (by rw [HN.out]; omega))
    simp only [Nat.zero_mul, Nat.add_zero] at hx0
    generalize l.getD 0 (0, 0) = x at hx0 HR1
    obtain ⟨x1, x2⟩ := x
    simp only at hx0
    have HC := hid' hc
    have HX := hid' hx0
    clear hc hx0
    obtain ⟨W0, hW0⟩ : ∃ W0, (w.alloc (.cells #[.int .i64 t1, .int .i64 t2] 32)).alloc (.cells #[.int .i64 0, .int .i64 0] 32) = W0 := ⟨_, rfl⟩
    have hb0 : Below w.heap.size w W0 := by rw [← hW0]; exact (((Below.refl _ w).alloc (Nat.le_refl _) _).alloc (by simp) _)
    have hs0 : W0.heap.size = w.heap.size + 1 + 1 := by rw [← hW0]; simp
    have HBX : Hid (Box W0 w.heap.size (t1, t2)) := by unfold Hid; rw [← hW0]; exact (Box.new w (t1, t2)).alloc _
    have HBR : Hid (Box W0 (w.heap.size + 1) (0, 0)) := by
      unfold Hid; rw [← hW0]
      have := Box.new (w.alloc (.cells #[.int .i64 t1, .int .i64 t2] 32)) (0, 0)
      rwa [World.size_alloc] at this
    have HW0 := hid' hW0
    clear hW0
    go_enter Try.func25, Try.ntmps25
    go_wp2_with fail
    rw [HW0.out]
    refine PT.wp_region_tail 6 (PB.phi [PB.E (.agg #[.int .i64 t1, .int .i64 t2]), PB.E (.slice (some ⟨b, off, none⟩) n cap), PB.E (.pointer (some ⟨b, off, none⟩)), PB.E (.agg #[.int .i64 x1, .int .i64 x2]), PB.E (tv (joinT (t1, t2) (x1, x2))), Nw W0]) mixed (by kernel_rfl)
      (PB.phi_lasts _ ⟨PB.E_lasts _, PB.E_lasts _, PB.E_lasts _, PB.E_lasts _, PB.E_lasts _, nw_lasts _, trivial⟩) ?_ ?_
    · refine ⟨?_, ?_, ?_, ?_, ?_, ?_, trivial⟩ <;> intro A W hB hS hA hF
      · exact Or.inl (PB.does_run (PB.wanted_free rfl) (run_box W (hS.slots 3 rfl) (HBX.out.on hB)) rfl)
      · exact Or.inl (PB.does_move (PB.wanted_free rfl) rfl (hS.slots 0 rfl))
      · exact Or.inl (PB.does_run (PB.wanted_free rfl) (run_index0 W (hA 1 rfl) (by omega) hl) rfl)
      · exact Or.inl (PB.does_run (PB.wanted_free rfl) (run_load W (hA 2 rfl) (((hb0.trans (hB.mono hb0.size)).cell (p := ⟨b, off, none⟩) hBb).trans HX.out.1) (((hb0.trans (hB.mono hb0.size)).cell (p := ⟨b, off + 1, none⟩) hBb).trans HX.out.2)) rfl)
      · exact Or.inl (PB.does_call #[.agg #[.int .i64 t1, .int .i64 t2], .agg #[.int .i64 x1, .int .i64 x2]] (PB.wanted_free rfl) rfl Try.func41 rfl rfl (by show [PB.slot A 12, PB.slot A 15] = _; rw [show PB.slot A 12 = .agg #[.int .i64 t1, .int .i64 t2] from (hA 0 rfl), show PB.slot A 15 = .agg #[.int .i64 x1, .int .i64 x2] from (hA 3 rfl)]) (join_newB (t1, t2) (x1, x2) W))
      · exact Or.inl (PT.does_grown (PB.wanted_free rfl) (run_alloc W) ((Below.refl _ W).alloc (Nat.le_refl _) _) ⟨W.heap.size, rfl, hB.size, World.alloc_heap_new W _⟩)
    · intro A W hB hS hL
      have h_12 : PB.slot A 12 = .agg #[.int .i64 t1, .int .i64 t2] := hL 0 (by decide)
      have h_13 : PB.slot A 13 = .slice (some ⟨b, off, none⟩) n cap := hL 1 (by decide)
      have h_14 : PB.slot A 14 = .pointer (some ⟨b, off, none⟩) := hL 2 (by decide)
      have h_15 : PB.slot A 15 = .agg #[.int .i64 x1, .int .i64 x2] := hL 3 (by decide)
      have h_16 : PB.slot A 16 = tv (joinT (t1, t2) (x1, x2)) := hL 4 (by decide)
      have nw : Nw W0 (PB.slot A 5) W := hL 5 (by decide)
      have q_0 : PB.slot A 0 = .slice (some ⟨b, off, none⟩) n cap := hS.slots 0 rfl
      have q_3 : PB.slot A 3 = .pointer (some ⟨w.heap.size, 0, none⟩) := hS.slots 3 rfl
      have q_4 : PB.slot A 4 = .pointer (some ⟨w.heap.size + 1, 0, none⟩) := hS.slots 4 rfl
      have hA := PT.frame_of (A := A) (n := 31) hS.size
      have hd : A.defers = [] := hS.defers
      rw [hd] at hA
      obtain ⟨fr, hf⟩ : ∃ f, PB.slot A = f := ⟨_, rfl⟩
      rw [hf] at hA h_12 h_13 h_14 h_15 h_16 q_0 q_3 q_4 nw
      rw [hA]
      clear hA hf hd hL hS
      simp only [List.range, List.range.loop, List.map_cons, List.map_nil, List.drop_succ_cons, List.drop_zero, h_12, h_13, h_14, h_15, h_16, q_0, q_3, q_4]
      clear h_12 h_13 h_14 h_15 h_16 q_0 q_3 q_4
      obtain ⟨g, hg, hg0, hbox⟩ := nw
      rw [hg]
      have hbx : Box W g (0, 0) := hbox
      have c1 := hbx.c1
      have c2 := hbx.c2
      have f1 := hbx.f1
      have f2 := hbx.f2
      have HBW : Hid (Below w.heap.size w W) := hb0.trans (hB.mono hb0.size)
      have HB3 : Hid (Box W w.heap.size (t1, t2)) := HBX.out.on hB
      have HB4 : Hid (Box W (w.heap.size + 1) (0, 0)) := HBR.out.on hB
      have HBG := hid' hbx
      generalize joinT (t1, t2) (x1, x2) = jv at HR1
      obtain ⟨j1, j2⟩ := jv
      simp only [tv]
      have hgs : w.heap.size + 1 + 1 ≤ g := by omega
      clear hB hbox hbx hg HBX HBR HX HW0 hb0
      have HST : Hid (RepAt w g (t1, t2) (j1, j2) ((W.setCell ⟨g, 0, none⟩ (.int .i64 j1)).setCell ⟨g, 1, none⟩ (.int .i64 j2))) :=
        ⟨set_below HBW.out (by omega) _ _, (set_other (by omega) _ _).trans HB3.out, (set_other (by omega) _ _).trans HB4.out, HBG.out.set j1 j2⟩
      obtain ⟨m, rfl⟩ : ∃ m, n = m + 1 := ⟨n - 1, by omega⟩
      clear HB3 HB4 HBG HBW
      by_cases hc1 : cap = 1
      · have hn1 : m = 0 := by omega
        subst hc1 hn1
        go_wp2
        go_loopg [20] 0 (fun k i wr => k = 0 ∧ i = .int .i64 0 ∧ Hid (RepAt w g (t1, t2) (j1, j2) wr))
        case atStart => exact ⟨rfl, rfl, HST⟩
        case round =>
          obtain ⟨rfl, rfl, hat⟩ := hrel
          have b1 := hat.out.bg.c1
          have b2 := hat.out.bg.c2
          have b3 := hat.out.b4.c1
          have b4 := hat.out.b4.c2
          have b5 := hat.out.b4.f1
          have b6 := hat.out.b4.f2
          simp only at b1 b2 b3 b4
          go_wp2
          (try simp only [Exit.inBlock, Exit.then])
          refine bodyPost_ret (v := tv r) ?_ rfl ⟨rfl, ?_⟩
          · rw [← HR.out, show l = l.take 1 by rw [List.take_of_length_le (by rw [HN.out]; omega)], HR1.out]; unfold results; go_simp; simp [tv]
          · exact set_below hat.out.below (by omega) _ _
      · have hc1' : ¬ 1 = cap := by omega
        go_wp2
        go_loopg [20] m (fun k i wr => ∃ j : Nat, j + k = m ∧ i = .int .i64 (j : Int) ∧ Hid (RepAt w g (t1, t2) (repT (l.take (j + 1)) (t1, t2)) wr))
        case atStart => exact ⟨0, by omega, rfl, by rw [HR1.out]; exact HST⟩
        case round =>
          obtain ⟨j, hj, rfl, hat⟩ := hrel
          cases gk with
          | zero =>
            obtain rfl : j = m := by omega
            have hr : repT (l.take (j + 1)) (t1, t2) = r := by rw [← HR.out, List.take_of_length_le (Nat.le_of_eq HN.out)]
            rw [hr] at hat
            have b1 := hat.out.bg.c1
            have b2 := hat.out.bg.c2
            have b3 := hat.out.b4.c1
            have b4 := hat.out.b4.c2
            have b5 := hat.out.b4.f1
            have b6 := hat.out.b4.f2
            simp only at b3 b4
            clear hr
            obtain ⟨r1, r2⟩ := r
            simp only at b1 b2
            go_wp2
            (try simp only [Exit.inBlock, Exit.then])
            refine bodyPost_ret (v := tv (r1, r2)) ?_ rfl ⟨rfl, ?_⟩
            · unfold results; go_simp; simp [tv]
            · exact set_below hat.out.below (by omega) _ _
          | succ k =>
            have hjl : j + 1 < l.length := by rw [HN.out]; omega
            have p1 := (hat.out.below.cell (p := ⟨b, off + (j + 1) * 2, none⟩) hBb).trans (HC.out (j + 1) hjl).1
            have p2 := (hat.out.below.cell (p := ⟨b, off + (j + 1) * 2 + 1, none⟩) hBb).trans (HC.out (j + 1) hjl).2
            rw [show off + (j + 1) * 2 = off + 2 + j * 2 by omega] at p1 p2
            have HS := hid' (repT_take l (t1, t2) (j + 1) hjl (by omega))
            have hsz := hat.out.b3.lt
            have hsz2 := hat.out.bg.lt
            generalize repT (l.take (j + 1)) (t1, t2) = o at hat HS
            generalize l.getD (j + 1) (0, 0) = y at p1 p2 HS
            obtain ⟨o1, o2⟩ := o
            obtain ⟨y1, y2⟩ := y
            simp only at p1 p2
            have HAA : Hid (RepAt w g (t1, t2) (o1, o2) (wr.alloc (.cells #[.int .i64 y1, .int .i64 y2] 32)) ∧ Box (wr.alloc (.cells #[.int .i64 y1, .int .i64 y2] 32)) wr.heap.size (y1, y2)) :=
              ⟨⟨hat.out.below.alloc hat.out.below.size _, hat.out.b3.alloc _, hat.out.b4.alloc _, hat.out.bg.alloc _⟩, Box.new wr (y1, y2)⟩
            clear hjl hat
            go_wp2_with fail
            generalize hW1 : wr.alloc (.cells #[.int .i64 y1, .int .i64 y2] 32) = W1 at HAA ⊢
            clear hW1
            refine PT.wp_region_tail 5 (PB.phi [PB.E (.agg #[.int .i64 o1, .int .i64 o2]), PB.E (.agg #[.int .i64 t1, .int .i64 t2]), PB.E (.agg #[.int .i64 y1, .int .i64 y2]), PB.E (tv (joinT (t1, t2) (y1, y2))), PB.E (tv (meetT (o1, o2) (joinT (t1, t2) (y1, y2))))]) mixed (by kernel_rfl)
              (PB.phi_lasts _ ⟨PB.E_lasts _, PB.E_lasts _, PB.E_lasts _, PB.E_lasts _, PB.E_lasts _, trivial⟩) ?_ ?_
            · refine ⟨?_, ?_, ?_, ?_, ?_, trivial⟩ <;> intro A W hB hS hA hF
              · exact Or.inl (PB.does_run (PB.wanted_free rfl) (run_box W (hS.slots 5 rfl) (HAA.out.1.bg.on hB)) rfl)
              · exact Or.inl (PB.does_run (PB.wanted_free rfl) (run_box W (hS.slots 3 rfl) (HAA.out.1.b3.on hB)) rfl)
              · exact Or.inl (PB.does_run (PB.wanted_free rfl) (run_box W (hS.slots 7 rfl) (HAA.out.2.on hB)) rfl)
              · exact Or.inl (PB.does_call #[.agg #[.int .i64 t1, .int .i64 t2], .agg #[.int .i64 y1, .int .i64 y2]] (PB.wanted_free rfl) rfl Try.func41 rfl rfl (by show [PB.slot A 25, PB.slot A 26] = _; rw [show PB.slot A 25 = .agg #[.int .i64 t1, .int .i64 t2] from (hA 1 rfl), show PB.slot A 26 = .agg #[.int .i64 y1, .int .i64 y2] from (hA 2 rfl)]) (join_newB (t1, t2) (y1, y2) W))
              · exact Or.inl (PB.does_call #[.agg #[.int .i64 o1, .int .i64 o2], tv (joinT (t1, t2) (y1, y2))] (PB.wanted_free rfl) rfl Try.func42 rfl rfl (by show [PB.slot A 24, PB.slot A 27] = _; rw [show PB.slot A 24 = .agg #[.int .i64 o1, .int .i64 o2] from (hA 0 rfl), show PB.slot A 27 = tv (joinT (t1, t2) (y1, y2)) from (hA 3 rfl)]) (meet_newB (o1, o2) (joinT (t1, t2) (y1, y2)) W))
            · intro A W hB hS hL
              have h_24 : PB.slot A 24 = .agg #[.int .i64 o1, .int .i64 o2] := hL 0 (by decide)
              have h_25 : PB.slot A 25 = .agg #[.int .i64 t1, .int .i64 t2] := hL 1 (by decide)
              have h_26 : PB.slot A 26 = .agg #[.int .i64 y1, .int .i64 y2] := hL 2 (by decide)
              have h_27 : PB.slot A 27 = tv (joinT (t1, t2) (y1, y2)) := hL 3 (by decide)
              have h_28 : PB.slot A 28 = tv (meetT (o1, o2) (joinT (t1, t2) (y1, y2))) := hL 4 (by decide)
              have q_0 : PB.slot A 0 = .slice (some ⟨b, off, none⟩) (m + 1) cap := hS.slots 0 rfl
              have q_3 : PB.slot A 3 = .pointer (some ⟨w.heap.size, 0, none⟩) := hS.slots 3 rfl
              have q_4 : PB.slot A 4 = .pointer (some ⟨w.heap.size + 1, 0, none⟩) := hS.slots 4 rfl
              have q_5 : PB.slot A 5 = .pointer (some ⟨g, 0, none⟩) := hS.slots 5 rfl
              have q_18 : PB.slot A 18 = .slice (some ⟨b, off + 2, none⟩) m (cap - 1) := hS.slots 18 rfl
              have q_19 : PB.slot A 19 = .int .i64 (m : Int) := hS.slots 19 rfl
              have q_20 : PB.slot A 20 = .int .i64 (j : Int) := hS.slots 20 rfl
              have q_1 := hS.slots 1 rfl
              have q_2 := hS.slots 2 rfl
              have q_6 := hS.slots 6 rfl
              have q_7 := hS.slots 7 rfl
              have q_8 := hS.slots 8 rfl
              have q_9 := hS.slots 9 rfl
              have q_10 := hS.slots 10 rfl
              have q_11 := hS.slots 11 rfl
              have q_12 := hS.slots 12 rfl
              have q_13 := hS.slots 13 rfl
              have q_14 := hS.slots 14 rfl
              have q_15 := hS.slots 15 rfl
              have q_16 := hS.slots 16 rfl
              have q_17 := hS.slots 17 rfl
              have q_21 := hS.slots 21 rfl
              have q_22 := hS.slots 22 rfl
              have q_23 := hS.slots 23 rfl
              have q_29 := hS.slots 29 rfl
              have q_30 := hS.slots 30 rfl
              simp only [PB.slot, Array.getD_eq_getD_getElem?, List.getElem?_toArray, List.getElem?_cons_succ, List.getElem?_cons_zero, Option.getD_some] at q_1 q_2 q_6 q_7 q_8 q_9 q_10 q_11 q_12 q_13 q_14 q_15 q_16 q_17 q_21 q_22 q_23 q_29 q_30
              have q_1 := (PT.slot_get A 1).trans q_1
              have q_2 := (PT.slot_get A 2).trans q_2
              have q_6 := (PT.slot_get A 6).trans q_6
              have q_7 := (PT.slot_get A 7).trans q_7
              have q_8 := (PT.slot_get A 8).trans q_8
              have q_9 := (PT.slot_get A 9).trans q_9
              have q_10 := (PT.slot_get A 10).trans q_10
              have q_11 := (PT.slot_get A 11).trans q_11
              have q_12 := (PT.slot_get A 12).trans q_12
              have q_13 := (PT.slot_get A 13).trans q_13
              have q_14 := (PT.slot_get A 14).trans q_14
              have q_15 := (PT.slot_get A 15).trans q_15
              have q_16 := (PT.slot_get A 16).trans q_16
              have q_17 := (PT.slot_get A 17).trans q_17
              have q_21 := (PT.slot_get A 21).trans q_21
              have q_22 := (PT.slot_get A 22).trans q_22
              have q_23 := (PT.slot_get A 23).trans q_23
              have q_29 := (PT.slot_get A 29).trans q_29
              have q_30 := (PT.slot_get A 30).trans q_30
              have hA := PT.frame_of (A := A) (n := 31) hS.size
              have hd : A.defers = [] := hS.defers
              rw [hd] at hA
              obtain ⟨fr, hf⟩ : ∃ f, PB.slot A = f := ⟨_, rfl⟩
              rw [hf] at hA h_24 h_25 h_26 h_27 h_28 q_0 q_3 q_4 q_5 q_18 q_19 q_20 q_1 q_2 q_6 q_7 q_8 q_9 q_10 q_11 q_12 q_13 q_14 q_15 q_16 q_17 q_21 q_22 q_23 q_29 q_30
              rw [hA]
              clear hA hf hd hL hS
              simp only [List.range, List.range.loop, List.map_cons, List.map_nil, List.drop_succ_cons, List.drop_zero, h_24, h_25, h_26, h_27, h_28, q_0, q_3, q_4, q_5, q_18, q_19, q_20, q_1, q_2, q_6, q_7, q_8, q_9, q_10, q_11, q_12, q_13, q_14, q_15, q_16, q_17, q_21, q_22, q_23, q_29, q_30]
              clear h_24 h_25 h_26 h_27 h_28 q_0 q_3 q_4 q_5 q_18 q_19 q_20 q_1 q_2 q_6 q_7 q_8 q_9 q_10 q_11 q_12 q_13 q_14 q_15 q_16 q_17 q_21 q_22 q_23 q_29 q_30
              have HA2 : Hid (RepAt w g (t1, t2) (o1, o2) W) := ⟨HAA.out.1.below.trans (hB.mono HAA.out.1.below.size), HAA.out.1.b3.on hB, HAA.out.1.b4.on hB, HAA.out.1.bg.on hB⟩
              generalize meetT (o1, o2) (joinT (t1, t2) (y1, y2)) = z at HS
              obtain ⟨z1, z2⟩ := z
              have b1 := HA2.out.bg.c1
              have b2 := HA2.out.bg.c2
              have b3 := HA2.out.bg.f1
              have b4 := HA2.out.bg.f2
              simp only [tv] at b1 b2 ⊢
              clear hB HAA
              go_wp2
              go_roundg k
              case measure => omega
              case rel =>
                refine ⟨j + 1, by omega, by simp, ?_⟩
                rw [HS.out]
                exact ⟨set_below HA2.out.below (by omega) _ _, (set_other (by omega) _ _).trans HA2.out.b3, (set_other (by omega) _ _).trans HA2.out.b4, HA2.out.bg.set z1 z2⟩

end Go.Proofs.Ytaadbjnfnmjkfaa
