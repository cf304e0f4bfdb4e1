/-
  What is proved here: the document's Order and Same at changes that read alike; its Lower.
-/
import Derived.Test.YtboeodcjcbgeaaaQH
import Derived.Laws.AppendOwnNone
namespace Go.Proofs.Ytboeodcjcbgeaaa
open Go.RowKit Go.Proofs
set_option linter.unusedVariables false
set_option linter.unusedSimpArgs false

theorem cfT_self (x : T) : cfT x x = 0 := by simp [cfT]

set_option maxRecDepth 10000 in
set_option maxHeartbeats 1000000 in
theorem order07_same (w : World) (P P' : Nat → Prop) (s s' : Slot) (u : U) (h : Rd P w s u) (h' : Rd P' w s' u) (hf : Fit u) :
    Calls Try.prog 22 #[s.val, s'.val] w fun e w' => e = .returned (.int .i64 0) ∧ Below w.heap.size w w' := by
  obtain ⟨a, n, c, ⟨t1, t2⟩, d⟩ := s
  obtain ⟨a', n', c', ⟨t1', t2'⟩, d'⟩ := s'
  obtain ⟨row, ⟨x1, x2⟩, x3⟩ := u
  obtain ⟨hsh, hn, hrow, ht, hd⟩ := h
  obtain ⟨hsh', hn', hrow', ht', hd'⟩ := h'
  simp only [Prod.mk.injEq] at hn ht hd hn' ht' hd' hrow hrow'
  obtain ⟨rfl, rfl⟩ := ht
  obtain ⟨rfl, rfl⟩ := ht'
  subst hn hn' hd hd'
  have hb0 : Below w.heap.size w ((w.alloc (.cells #[.slice a row.length c, .int .i64 t1', .int .i64 t2', .int .i64 d'] 38)).alloc (.cells #[.slice a' row.length c', .int .i64 t1', .int .i64 t2', .int .i64 d'] 38)) := ((Below.refl _ w).alloc (Nat.le_refl _) _).alloc (by simp) _
  have HO := hid' (Order_same _ a a' c c' row.length row rfl (hrow.vs.on hb0) (hrow'.vs.on hb0) (by have := hf.row; simp at this; omega))
  unfold Slot.val
  simp only
  clear hsh hsh' hrow hrow'
  go_enter Try.func22, Try.ntmps22
  go_wp2_with fail
  refine HO.out.mono ?_
  rintro e w1 ⟨rfl, hb1⟩
  clear HO
  obtain ⟨hA, hB⟩ := own_blocks hb1
  obtain ⟨b0, b1, b2, b3, f0, f1, f2, f3⟩ := up_cells hA
  obtain ⟨c0, c1, c2, c3, g0, g1, g2, g3⟩ := up_cells hB
  have HB1 := hid' (hb0.trans (hb1.mono hb0.size))
  clear hA hB hb1 hb0
  go_wp2_with fail
  refine (refOrder_any (t1', t2') (t1', t2') w1).mono ?_
  rintro e w2 ⟨rfl, hg⟩
  rw [cfT_self]
  have HB2 := hid' (HB1.out.trans (hg.below.mono HB1.out.size))
  clear hg HB1
  go_wp2
  go_ret
  exact ⟨rfl, HB2.out⟩

theorem order07_newB (w : World) (P P' : Nat → Prop) (s s' : Slot) (u : U) (h : Rd P w s u) (h' : Rd P' w s' u) (hf : Fit u) :
    Calls Try.prog 22 #[s.val, s'.val] w fun e w' => ∃ v, e = .returned v ∧ Below w.heap.size w w' ∧ PB.E (.int .i64 0) v w' :=
  (order07_same w P P' s s' u h h' hf).mono fun e w' ⟨he, hb⟩ => ⟨_, he, hb, rfl⟩

/-- A slice of one change. -/
def OneIs (u : U) : Value → World → Prop := fun v w => ∃ g off c, v = .slice (some ⟨g, off, none⟩) 1 c ∧ g < w.heap.size ∧ Us (fun _ => True) w g off [u]

theorem oneIs_lasts (u : U) : PB.Lasts (OneIs u) := by
  rintro v w w' ⟨g, off, c, rfl, hg, h⟩ hb
  exact ⟨g, off, c, rfl, Nat.lt_of_lt_of_le hg hb.size, h.keep (hb.block g hg) (fun k hP hk => ⟨hb.block k hk, hP⟩) hb.size⟩

section
variable {a : Act} {t u c : Nat} {dst : Option Tmp} {ty : TypeId} {pos : String} {aft : Array Edge} {guard : Option (Nat × Bool)}

theorem run_fieldU2 {b o : Nat} (w : World) (h : PB.slot a t = .pointer (some ⟨b, o, none⟩)) :
    (execOp a.eval { dst := dst, op := .fieldAddr 38 (.tmp t) 2, type := ty, pos := pos, after := aft, guard := guard }).run Try.prog w = .ok (.value (.pointer (some ⟨b, o + 3, none⟩))) w := by
  have h1 : a.tmps[t]?.getD undef = .pointer (some ⟨b, o, none⟩) := by rw [← Array.getD_eq_getD_getElem?]; exact h
  go_simp
end

theorem run_neI (w : World) (z z' : Int) (x y : Operand) : ((do eqGuard .neq 3 x y (.int .i64 z) (.int .i64 z'); binOp .neq 3 (.int .i64 z) (.int .i64 z') : Sem Value)).run Try.prog w = .ok (.bool (decide (z ≠ z'))) w := by
  go_simp
  by_cases h : z = z' <;> simp [h]

set_option maxRecDepth 20000 in
set_option maxHeartbeats 2000000 in
/-- Same: of two slices of the one change. -/
theorem same_one (w : World) (u : U) (hf : Fit u) (v v' : Value) (h : OneIs u v w) (h' : OneIs u v' w) :
    Calls Try.prog 11 #[v, v'] w fun e w' => e = .returned (.bool true) ∧ Below w.heap.size w w' := by
  have mixed : Try.prog.follows .mixedOrders = true := by kernel_rfl
  obtain ⟨b1, o1, c1, rfl, hB1, hu1⟩ := h
  obtain ⟨b2, o2, c2, rfl, hB2, hu2⟩ := h'
  have HU1 := hid' hu1
  have HU2 := hid' hu2
  have HF := hid' hf
  clear hu1 hu2 hf
  go_enter Try.func11, Try.ntmps11
  go_wp2
  go_loopg [5] 1 (fun k i wr => ∃ j : Nat, j + k = 1 ∧ i = .int .i64 (j : Int) ∧ Hid (Below w.heap.size w wr))
  case atStart => exact ⟨0, by omega, rfl, hid' (Below.refl _ _)⟩
  case round =>
    obtain ⟨j, hj, rfl, hg⟩ := hrel
    cases gk with
    | zero =>
      obtain rfl : j = 1 := by omega
      go_wp2
      go_ret
      exact ⟨rfl, hg.out⟩
    | succ k =>
      obtain rfl : j = 0 := by omega
      obtain ⟨s1, e1, r1⟩ := (HU1.out.keep (hg.out.block b1 hB1) (fun k hP hk => ⟨hg.out.block k hk, hP⟩) hg.out.size) 0 (by simp)
      obtain ⟨s2, e2, r2⟩ := (HU2.out.keep (hg.out.block b2 hB2) (fun k hP hk => ⟨hg.out.block k hk, hP⟩) hg.out.size) 0 (by simp)
      have r1 : Rd (fun _ => True) wr s1 u := r1
      have r2 : Rd (fun _ => True) wr s2 u := r2
      have hsz := hg.out.size
      have HP : Hid (∀ W, Below wr.heap.size wr W → C4 W b1 (o1 + 0 * 4) s1 ∧ C4 W b2 (o2 + 0 * 4) s2 ∧ Rd (fun _ => True) W s1 u ∧ Rd (fun _ => True) W s2 u) := fun W hB =>
        ⟨e1.keep (hB.block b1 (by omega)), e2.keep (hB.block b2 (by omega)), r1.keep (fun k hP hk => ⟨hB.block k hk, hP⟩) hB.size, r2.keep (fun k hP hk => ⟨hB.block k hk, hP⟩) hB.size⟩
      have hd1 : s1.d = u.diff := r1.d
      have hd2 : s2.d = u.diff := r2.d
      have HD : Hid (s1.d = s2.d) := hd1.trans hd2.symm
      clear e1 e2 r1 r2 hd1 hd2
      go_wp2_with fail
      refine PT.wp_region_tail 23 (PB.phi [PB.E (.slice (some ⟨b1, o1, none⟩) 1 c1), PB.E (.int .i64 ((0 : Nat) : Int)), PB.E (.pointer (some ⟨b1, o1 + 0 * 4, none⟩)), PB.E (s1.val), PB.E (.slice (some ⟨b2, o2, none⟩) 1 c2), PB.E (.int .i64 ((0 : Nat) : Int)), PB.E (.pointer (some ⟨b2, o2 + 0 * 4, none⟩)), PB.E (s2.val), PB.E (.int .i64 0), PB.E (.bool false), PB.E (.bool false), PB.E (.slice (some ⟨b1, o1, none⟩) 1 c1), PB.E (.int .i64 ((0 : Nat) : Int)), PB.E (.pointer (some ⟨b1, o1 + 0 * 4, none⟩)), PB.E (.pointer (some ⟨b1, o1 + 0 * 4 + 3, none⟩)), PB.E (.int .i64 s1.d), PB.E (.slice (some ⟨b2, o2, none⟩) 1 c2), PB.E (.int .i64 ((0 : Nat) : Int)), PB.E (.pointer (some ⟨b2, o2 + 0 * 4, none⟩)), PB.E (.pointer (some ⟨b2, o2 + 0 * 4 + 3, none⟩)), PB.E (.int .i64 s2.d), PB.E (.bool (decide (s1.d ≠ s2.d))), PB.E (.bool (decide (s1.d ≠ s2.d)))]) mixed (by kernel_rfl)
        (PB.phi_lasts _ ⟨PB.E_lasts _, PB.E_lasts _, PB.E_lasts _, PB.E_lasts _, PB.E_lasts _, PB.E_lasts _, PB.E_lasts _, PB.E_lasts _, PB.E_lasts _, PB.E_lasts _, PB.E_lasts _, PB.E_lasts _, PB.E_lasts _, PB.E_lasts _, PB.E_lasts _, PB.E_lasts _, PB.E_lasts _, PB.E_lasts _, PB.E_lasts _, PB.E_lasts _, PB.E_lasts _, PB.E_lasts _, PB.E_lasts _, trivial⟩) ?_ ?_
      · refine ⟨?_, ?_, ?_, ?_, ?_, ?_, ?_, ?_, ?_, ?_, ?_, ?_, ?_, ?_, ?_, ?_, ?_, ?_, ?_, ?_, ?_, ?_, ?_, trivial⟩ <;> intro A W hB hS hA hF
        · exact Or.inl (PB.does_move (PB.wanted_free rfl) rfl (hS.slots 0 rfl))
        · exact Or.inl (PB.does_move (PB.wanted_free rfl) rfl (hS.slots 5 rfl))
        · exact Or.inl (PB.does_run (PB.wanted_free rfl) (run_indexU W (hA 0 rfl) (hA 1 rfl) (by omega) (by omega)) rfl)
        · exact Or.inl (PB.does_run (PB.wanted_free rfl) (run_loadU W (hA 2 rfl) (HP.out W hB).1) rfl)
        · exact Or.inl (PB.does_move (PB.wanted_free rfl) rfl (hS.slots 1 rfl))
        · exact Or.inl (PB.does_move (PB.wanted_free rfl) rfl (hS.slots 5 rfl))
        · exact Or.inl (PB.does_run (PB.wanted_free rfl) (run_indexU W (hA 4 rfl) (hA 5 rfl) (by omega) (by omega)) rfl)
        · exact Or.inl (PB.does_run (PB.wanted_free rfl) (run_loadU W (hA 6 rfl) (HP.out W hB).2.1) rfl)
        · exact Or.inl (PB.does_call #[s1.val, s2.val] (PB.wanted_free rfl) rfl Try.func22 rfl rfl (by show [PB.slot A 20, PB.slot A 24] = _; rw [show PB.slot A 20 = s1.val from (hA 3 rfl), show PB.slot A 24 = s2.val from (hA 7 rfl)]) (order07_newB W _ _ s1 s2 u (HP.out W hB).2.2.1 (HP.out W hB).2.2.2 HF.out))
        · exact Or.inl (PB.does_bin2 (PB.wanted_free rfl) rfl (hA 8 rfl) rfl (run_neI W 0 0 _ _) rfl)
        · exact Or.inl (PB.does_move (PB.wanted_free rfl) rfl (hA 9 rfl))
        · exact Or.inl (PB.does_move (PB.wanted_by rfl rfl (hA 10 rfl)) rfl (hS.slots 0 rfl))
        · exact Or.inl (PB.does_move (PB.wanted_by rfl rfl (hA 10 rfl)) rfl (hS.slots 5 rfl))
        · exact Or.inl (PB.does_run (PB.wanted_by rfl rfl (hA 10 rfl)) (run_indexU W (hA 11 rfl) (hA 12 rfl) (by omega) (by omega)) rfl)
        · exact Or.inl (PB.does_run (PB.wanted_by rfl rfl (hA 10 rfl)) (run_fieldU2 W (hA 13 rfl)) rfl)
        · exact Or.inl (PB.does_run (PB.wanted_by rfl rfl (hA 10 rfl)) (run_loadI W (hA 14 rfl) (HP.out W hB).1.k3) rfl)
        · exact Or.inl (PB.does_move (PB.wanted_by rfl rfl (hA 10 rfl)) rfl (hS.slots 1 rfl))
        · exact Or.inl (PB.does_move (PB.wanted_by rfl rfl (hA 10 rfl)) rfl (hS.slots 5 rfl))
        · exact Or.inl (PB.does_run (PB.wanted_by rfl rfl (hA 10 rfl)) (run_indexU W (hA 16 rfl) (hA 17 rfl) (by omega) (by omega)) rfl)
        · exact Or.inl (PB.does_run (PB.wanted_by rfl rfl (hA 10 rfl)) (run_fieldU2 W (hA 18 rfl)) rfl)
        · exact Or.inl (PB.does_run (PB.wanted_by rfl rfl (hA 10 rfl)) (run_loadI W (hA 19 rfl) (HP.out W hB).2.1.k3) rfl)
        · exact Or.inl (PB.does_bin (PB.wanted_by rfl rfl (hA 10 rfl)) rfl (hA 15 rfl) (hA 20 rfl) (run_neI W _ _ _ _) rfl)
        · exact Or.inl (PB.does_run (PB.wanted_free rfl) (run_pick_else W (hA 10 rfl) (hA 21 rfl)) rfl)
      · intro A W hB hS hL
        have h_17 : PB.slot A 17 = .slice (some ⟨b1, o1, none⟩) 1 c1 := hL 0 (by decide)
        have h_18 : PB.slot A 18 = .int .i64 ((0 : Nat) : Int) := hL 1 (by decide)
        have h_19 : PB.slot A 19 = .pointer (some ⟨b1, o1 + 0 * 4, none⟩) := hL 2 (by decide)
        have h_20 : PB.slot A 20 = s1.val := hL 3 (by decide)
        have h_21 : PB.slot A 21 = .slice (some ⟨b2, o2, none⟩) 1 c2 := hL 4 (by decide)
        have h_22 : PB.slot A 22 = .int .i64 ((0 : Nat) : Int) := hL 5 (by decide)
        have h_23 : PB.slot A 23 = .pointer (some ⟨b2, o2 + 0 * 4, none⟩) := hL 6 (by decide)
        have h_24 : PB.slot A 24 = s2.val := hL 7 (by decide)
        have h_25 : PB.slot A 25 = .int .i64 0 := hL 8 (by decide)
        have h_26 : PB.slot A 26 = .bool false := hL 9 (by decide)
        have h_27 : PB.slot A 27 = .bool false := hL 10 (by decide)
        have h_28 : PB.slot A 28 = .slice (some ⟨b1, o1, none⟩) 1 c1 := hL 11 (by decide)
        have h_29 : PB.slot A 29 = .int .i64 ((0 : Nat) : Int) := hL 12 (by decide)
        have h_30 : PB.slot A 30 = .pointer (some ⟨b1, o1 + 0 * 4, none⟩) := hL 13 (by decide)
        have h_31 : PB.slot A 31 = .pointer (some ⟨b1, o1 + 0 * 4 + 3, none⟩) := hL 14 (by decide)
        have h_32 : PB.slot A 32 = .int .i64 s1.d := hL 15 (by decide)
        have h_33 : PB.slot A 33 = .slice (some ⟨b2, o2, none⟩) 1 c2 := hL 16 (by decide)
        have h_34 : PB.slot A 34 = .int .i64 ((0 : Nat) : Int) := hL 17 (by decide)
        have h_35 : PB.slot A 35 = .pointer (some ⟨b2, o2 + 0 * 4, none⟩) := hL 18 (by decide)
        have h_36 : PB.slot A 36 = .pointer (some ⟨b2, o2 + 0 * 4 + 3, none⟩) := hL 19 (by decide)
        have h_37 : PB.slot A 37 = .int .i64 s2.d := hL 20 (by decide)
        have h_38 : PB.slot A 38 = .bool (decide (s1.d ≠ s2.d)) := hL 21 (by decide)
        have h_39 : PB.slot A 39 = .bool (decide (s1.d ≠ s2.d)) := hL 22 (by decide)
        have q_0 := hS.slots 0 rfl
        have q_1 := hS.slots 1 rfl
        have q_2 := hS.slots 2 rfl
        have q_3 := hS.slots 3 rfl
        have q_4 := hS.slots 4 rfl
        have q_5 := hS.slots 5 rfl
        have q_6 := hS.slots 6 rfl
        have q_7 := hS.slots 7 rfl
        have q_8 := hS.slots 8 rfl
        have q_9 := hS.slots 9 rfl
        have q_10 := hS.slots 10 rfl
        have q_11 := hS.slots 11 rfl
        have q_12 := hS.slots 12 rfl
        have q_13 := hS.slots 13 rfl
        have q_14 := hS.slots 14 rfl
        have q_15 := hS.slots 15 rfl
        have q_16 := hS.slots 16 rfl
        simp only [PB.slot, Array.getD_eq_getD_getElem?, List.getElem?_toArray, List.getElem?_cons_succ, List.getElem?_cons_zero, Option.getD_some] at q_0 q_1 q_2 q_3 q_4 q_5 q_6 q_7 q_8 q_9 q_10 q_11 q_12 q_13 q_14 q_15 q_16
        have q_0 := (PT.slot_get A 0).trans q_0
        have q_1 := (PT.slot_get A 1).trans q_1
        have q_2 := (PT.slot_get A 2).trans q_2
        have q_3 := (PT.slot_get A 3).trans q_3
        have q_4 := (PT.slot_get A 4).trans q_4
        have q_5 := (PT.slot_get A 5).trans q_5
        have q_6 := (PT.slot_get A 6).trans q_6
        have q_7 := (PT.slot_get A 7).trans q_7
        have q_8 := (PT.slot_get A 8).trans q_8
        have q_9 := (PT.slot_get A 9).trans q_9
        have q_10 := (PT.slot_get A 10).trans q_10
        have q_11 := (PT.slot_get A 11).trans q_11
        have q_12 := (PT.slot_get A 12).trans q_12
        have q_13 := (PT.slot_get A 13).trans q_13
        have q_14 := (PT.slot_get A 14).trans q_14
        have q_15 := (PT.slot_get A 15).trans q_15
        have q_16 := (PT.slot_get A 16).trans q_16
        have hA := PT.frame_of (A := A) (n := 40) hS.size
        have hd : A.defers = [] := hS.defers
        rw [hd] at hA
        obtain ⟨fr, hf⟩ : ∃ f, PB.slot A = f := ⟨_, rfl⟩
        rw [hf] at hA h_17 h_18 h_19 h_20 h_21 h_22 h_23 h_24 h_25 h_26 h_27 h_28 h_29 h_30 h_31 h_32 h_33 h_34 h_35 h_36 h_37 h_38 h_39 q_0 q_1 q_2 q_3 q_4 q_5 q_6 q_7 q_8 q_9 q_10 q_11 q_12 q_13 q_14 q_15 q_16
        rw [hA]
        clear hA hf hd hL hS
        simp only [List.range, List.range.loop, List.map_cons, List.map_nil, List.drop_succ_cons, List.drop_zero, h_17, h_18, h_19, h_20, h_21, h_22, h_23, h_24, h_25, h_26, h_27, h_28, h_29, h_30, h_31, h_32, h_33, h_34, h_35, h_36, h_37, h_38, h_39, q_0, q_1, q_2, q_3, q_4, q_5, q_6, q_7, q_8, q_9, q_10, q_11, q_12, q_13, q_14, q_15, q_16]
        clear h_17 h_18 h_19 h_20 h_21 h_22 h_23 h_24 h_25 h_26 h_27 h_28 h_29 h_30 h_31 h_32 h_33 h_34 h_35 h_36 h_37 h_38 h_39 q_0 q_1 q_2 q_3 q_4 q_5 q_6 q_7 q_8 q_9 q_10 q_11 q_12 q_13 q_14 q_15 q_16
        have HG2 : Hid (Below w.heap.size w W) := hid' (hg.out.trans (hB.mono hg.out.size))
        rw [show decide (s1.d ≠ s2.d) = false by simp [HD.out]]
        clear hB HP
        go_wp2
        go_roundg k
        case measure => omega
        case rel => exact ⟨1, by omega, by simp, HG2⟩

theorem same_newB (w : World) (u : U) (hf : Fit u) (v v' : Value) (h : OneIs u v w) (h' : OneIs u v' w) :
    Calls Try.prog 11 #[v, v'] w fun e w' => ∃ x, e = .returned x ∧ Below w.heap.size w w' ∧ PB.E (.bool true) x w' :=
  (same_one w u hf v v' h h').mono fun e w' ⟨he, hb⟩ => ⟨_, he, hb, rfl⟩

theorem ownsRow_nil (w : World) (B : Nat) : w.ownsRow B 36 2 (.slice none 0 0) 0 [] := ⟨rfl, .inl ⟨rfl, rfl⟩⟩

/-- What the document's Lower has gathered behind j rounds. -/
def Gj (w : World) (L : List U) (j : Nat) (v : Value) (wr : World) : Prop := wr.ownsRow w.heap.size 36 2 v j (flat ((L.take j).map U.time)) ∧ Below w.heap.size w wr

set_option maxRecDepth 20000 in
set_option maxHeartbeats 2000000 in
theorem rlower_any (w : World) (P : Nat → Prop) (a : Option Addr) (n c : Nat) (L : List U) (hn : L.length = n) (hl : L ≠ [] → ∃ b off, a = some ⟨b, off, none⟩ ∧ b < w.heap.size ∧ Us P w b off L) (hr : ∀ u ∈ L, RT u.time) (hm : n ≤ 100000) :
    Calls Try.prog 18 #[.slice a n c] w fun e w' => ∃ u f, e = .returned u ∧ StepsOf (L.map U.time) f ∧ f.length ≤ L.length ∧ IsL f u w' ∧ Below w.heap.size w w' := by
  obtain ⟨iT, hiT, hT0, hT1, hT2⟩ := info_parts Try.infoTime
  have HN := hid' hn
  have HL := hid' hl
  have HR := hid' hr
  clear hn hl hr
  go_enter Try.func18, Try.ntmps18
  go_wp2
  go_loopg [3, 4] n (fun k v i wr => ∃ j : Nat, j + k = n ∧ i = .int .i64 (j : Int) ∧ Hid (Gj w L j v wr))
  case atStart => exact ⟨0, by omega, rfl, hid' ⟨ownsRow_nil w _, Below.refl _ _⟩⟩
  case round =>
    obtain ⟨j, hj, rfl, hG⟩ := hrel
    cases gk with
    | zero =>
      obtain rfl : j = n := by omega
      have hil : IsL (L.map U.time) u3 wr := by
        have h := hG.out.1
        rw [List.take_of_length_le (by rw [HN.out]; omega)] at h
        refine IsL.of_owns (base := w.heap.size) (e := 36) ?_ (fun x hx => ?_)
        · rw [List.length_map, HN.out]; exact h
        · obtain ⟨y, hy, rfl⟩ := List.mem_map.1 hx; exact HR.out y hy
      have HNW := hid' (rNew_L wr (L.map U.time) u3 hil (by rw [List.length_map, HN.out]; omega))
      clear hil
      go_wp2_with fail
      refine HNW.out.mono ?_
      rintro e w2 ⟨u, f, rfl, hst, hlen, hu, hb2⟩
      have HB2 := hid' (hG.out.2.trans (hb2.mono hG.out.2.size))
      have HS := hid' (And.intro hst (And.intro hlen hu))
      clear HNW hst hlen hb2 hu
      go_wp2
      go_ret
      exact ⟨u, f, rfl, HS.out.1, by simpa using HS.out.2.1, HS.out.2.2, HB2.out⟩
    | succ k =>
      have hjL : j < L.length := by rw [HN.out]; omega
      obtain ⟨b, off, rfl, hbw, hus⟩ := HL.out (by rintro rfl; simp at hjL)
      obtain ⟨s, hc, hrd⟩ := hus j hjL
      have hc := hc.keep (hG.out.2.block b hbw)
      have ht : s.t = (L.getD j u0).time := hrd.t
      have k1 := hc.k1
      have k2 := hc.k2
      rw [ht] at k1 k2
      have hnext : (L.take (j + 1)).map U.time = (L.take j).map U.time ++ [(L.getD j u0).time] := by
        have e : L.take (j + 1) = L.take j ++ [L.getD j u0] := by rw [List.take_add_one, List.getD, List.getElem?_eq_getElem hjL]; rfl
        rw [e, List.map_append]; rfl
      have HNX := hid' hnext
      generalize (L.getD j u0).time = x at k1 k2 HNX
      obtain ⟨x1, x2⟩ := x
      simp only at k1 k2
      have HO := hid' hG.out.1
      have HB := hid' hG.out.2
      clear hc ht hrd hus hnext hG hjL
      have hb1 : Below wr.heap.size wr (wr.alloc (.cells #[.int .i64 x1, .int .i64 x2] 36)) := (Below.refl _ wr).alloc (Nat.le_refl _) _
      have HO1 := hid' (owns_below HO.out hb1)
      have HSRC : Hid (∀ i y, [Value.int .i64 x1, Value.int .i64 x2][i]? = some y → (wr.alloc (.cells #[.int .i64 x1, .int .i64 x2] 36)).cell? ((⟨wr.heap.size, 0, none⟩ : Addr).add i) = some y) := by
        intro i y hi
        rw [addr_addQ, Nat.zero_add, cell_of_row _ _ _ _ _ _ (heap_alloc_new wr (.cells #[.int .i64 x1, .int .i64 x2] 36))]
        simpa using hi
      have hszw := HB.out.size
      clear hb1
      go_wp2_with (at_builtin; refine wpList_append_own _ rfl (.tmp 11) (.tmp 17) 47 rfl w.heap.size 36 iT _ 2 16 Try.underlying47 hiT hT0 hT1 hT2 rfl (by decide) _ _ _ rfl HO1.out ⟨wr.heap.size, 0, none⟩ 1 1 [.int .i64 x1, .int .i64 x2] rfl rfl HSRC.out (by simp [Value.oneCell']) (by unfold maxLen; omega) (by omega) (by simp; omega) ?_; intro v3 w3 hown3 hgrow3 hnil3)
      have HG3 : Hid (Gj w L (j + 1) v3 w3) := by
        refine ⟨?_, ?_⟩
        · rw [HNX.out, flat_append]
          exact hown3
        · have hgr3 : (wr.alloc (.cells #[.int .i64 x1, .int .i64 x2] 36)).grownBy w3 u3.ownBlock := hgrow3
          have hbw : Below w.heap.size w (wr.alloc (.cells #[.int .i64 x1, .int .i64 x2] 36)) := HB.out.alloc hszw _
          exact hbw.grown hgr3 hbw.size (fun q hq => (HO1.out.lt q hq).1)
      clear hown3 hgrow3 hnil3 HO1 HO HB HSRC
      go_roundg k
      case measure => omega
      case rel => exact ⟨j + 1, by omega, by simp, HG3⟩

end Go.Proofs.Ytboeodcjcbgeaaa
