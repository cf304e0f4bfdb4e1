/-
  What is proved here: Peek.
-/
import Derived.Test.YtboeodcjcbgeaaaQE
namespace Go.Proofs.Ytboeodcjcbgeaaa
open Go.RowKit Go.Proofs
set_option linter.unusedVariables false
set_option linter.unusedSimpArgs false

set_option maxRecDepth 10000 in
set_option maxHeartbeats 1000000 in
theorem peek_neg (w : World) (v : Value) (i : Int) (hi : i < 0) : Calls Try.prog 19 #[v, .int .i64 i] w fun e w' => e = .returned (.tuple #[s0.val, .bool false]) ∧ Below w.heap.size w w' := by
  go_enter Try.func19, Try.ntmps19
  go_wp2
  refine bodyPost_ret (v := .tuple #[s0.val, .bool false]) ?_ rfl ⟨rfl, (Below.refl _ w).alloc (Nat.le_refl _) _⟩
  unfold results
  go_simp
  rfl

set_option maxRecDepth 10000 in
set_option maxHeartbeats 1000000 in
theorem peek_nil_ge (w : World) (i : Int) (hi : 0 ≤ i) : Calls Try.prog 19 #[.pointer none, .int .i64 i] w fun e w' => e = .returned (.tuple #[s0.val, .bool false]) ∧ Below w.heap.size w w' := by
  have hi' : ¬ i < 0 := by omega
  have HL := hid' (len_nil (w.alloc (.cells #[.slice none 0 0, .int .i64 0, .int .i64 0, .int .i64 0] 38)))
  go_enter Try.func19, Try.ntmps19
  go_wp2_with fail
  refine HL.out.mono ?_
  rintro e w1 ⟨rfl, rfl⟩
  clear HL
  go_wp2
  refine bodyPost_ret (v := .tuple #[s0.val, .bool false]) ?_ rfl ⟨rfl, (Below.refl _ w).alloc (Nat.le_refl _) _⟩
  unfold results
  go_simp
  rfl

theorem peek_nil (w : World) (i : Int) : Calls Try.prog 19 #[.pointer none, .int .i64 i] w fun e w' => e = .returned (.tuple #[s0.val, .bool false]) ∧ Below w.heap.size w w' := by
  by_cases hi : i < 0
  · exact peek_neg w _ i hi
  · exact peek_nil_ge w i (by omega)

set_option maxRecDepth 10000 in
set_option maxHeartbeats 1000000 in
theorem peek_out (w : World) (G R : Nat) (room : Int) (L : List U) (p : Nat) (i : Int) (h : Q w G R room L p) (hi : (L.length : Int) ≤ i) : Calls Try.prog 19 #[.pointer (some ⟨G, 0, none⟩), .int .i64 i] w fun e w' => e = .returned (.tuple #[s0.val, .bool false]) ∧ Below w.heap.size w w' := by
  have hi' : ¬ i < 0 := by omega
  have hb0 : Below w.heap.size w (w.alloc (.cells #[.slice none 0 0, .int .i64 0, .int .i64 0, .int .i64 0] 38)) := (Below.refl _ w).alloc (Nat.le_refl _) _
  obtain ⟨S, f, ra, hq⟩ := h
  have HL := hid' (len_at G (L.length : Int) (w.alloc (.cells #[.slice none 0 0, .int .i64 0, .int .i64 0, .int .i64 0] 38)) (hq.on hb0).cells.2.2.2.1)
  clear hq
  go_enter Try.func19, Try.ntmps19
  go_wp2_with fail
  refine HL.out.mono ?_
  rintro e w1 ⟨rfl, rfl⟩
  clear HL
  go_wp2
  refine bodyPost_ret (v := .tuple #[s0.val, .bool false]) ?_ rfl ⟨rfl, hb0⟩
  unfold results
  go_simp
  rfl

theorem Qs.at {w : World} {G R : Nat} {room : Int} {L : List U} {p : Nat} {S : List Slot} {f : Nat} {ra : Option Addr} (h : Qs w G R room L p S f ra) {i : Nat} (hi : i < L.length) : S ≠ [] ∧ (f + i) % S.length < S.length ∧ C4 w R ((f + i) % S.length * 4) (S.getD ((f + i) % S.length) s0) ∧ Rd (Out G R) w (S.getD ((f + i) % S.length) s0) (L.getD i u0) ∧ Fit (L.getD i u0) := by
  have hfit := h.fits
  have hS : S ≠ [] := by rintro rfl; simp at hfit; subst hfit; simp at hi
  obtain ⟨h1, h2, h3, h4, h5⟩ := h.ne hS
  have hq : (f + i) % S.length < S.length := md_lt (by omega)
  exact ⟨hS, hq, C4.of_block h3 hq, h.reads i hi, h.good _ (by rw [List.getD, List.getElem?_eq_getElem hi]; exact List.getElem_mem hi)⟩

theorem set_since {w : World} {B b o : Nat} {s x : Slot} {u : U} (h : Rd (Since B) w s u) (hb : b < B) : Rd (Since B) (set4 w b o x) s u :=
  h.keep (fun k hP hk => ⟨set4_other w b o x (by unfold Since at hP; omega), hP⟩) (by rw [set4_size]; exact Nat.le_refl _)

theorem below_set4 {B b o : Nat} {w0 w : World} (h : Below B w0 w) (hb : B ≤ b) (s : Slot) : Below B w0 (set4 w b o s) := (((h.setCell hb _).setCell hb _).setCell hb _).setCell hb _

set_option maxRecDepth 20000 in
set_option maxHeartbeats 2000000 in
theorem peek_at (w : World) (G R : Nat) (room : Int) (L : List U) (p i : Nat) (h : Q w G R room L p) (hi : i < L.length) : Calls Try.prog 19 #[.pointer (some ⟨G, 0, none⟩), .int .i64 (i : Int)] w fun e w' => ∃ s : Slot, e = .returned (.tuple #[s.val, .bool true]) ∧ Rd (Since w.heap.size) w' s (L.getD i u0) ∧ Below w.heap.size w w' := by
  have mixed : Try.prog.follows .mixedOrders = true := by kernel_rfl
  obtain ⟨S, f, ra, hq⟩ := h
  have hb0 : Below w.heap.size w (w.alloc (.cells #[.slice none 0 0, .int .i64 0, .int .i64 0, .int .i64 0] 38)) := (Below.refl _ w).alloc (Nat.le_refl _) _
  have hq0 := hq.on hb0
  have HL := hid' (len_at G (L.length : Int) (w.alloc (.cells #[.slice none 0 0, .int .i64 0, .int .i64 0, .int .i64 0] 38)) hq0.cells.2.2.2.1)
  have hi' : ¬ (i : Int) < 0 := by omega
  have hi2 : ¬ (i : Int) ≥ (L.length : Int) := by omega
  have HB0 := hid' hb0
  have HW0 : Hid ((w.alloc (.cells #[.slice none 0 0, .int .i64 0, .int .i64 0, .int .i64 0] 38)).heap[w.heap.size]? = some (.cells #[.slice none 0 0, .int .i64 0, .int .i64 0, .int .i64 0] 38 (0, 0))) := heap_alloc_new w _
  have hsz0 : (w.alloc (.cells #[.slice none 0 0, .int .i64 0, .int .i64 0, .int .i64 0] 38)).heap.size = w.heap.size + 1 := by simp
  go_enter Try.func19, Try.ntmps19
  go_wp2_with fail
  refine HL.out.mono ?_
  rintro e w1 ⟨rfl, rfl⟩
  clear HL
  generalize hw : (w.alloc (.cells #[.slice none 0 0, .int .i64 0, .int .i64 0, .int .i64 0] 38)) = w2 at *
  obtain ⟨hS, hpl, hc4, hrd, hfu⟩ := hq0.at hi
  obtain ⟨h1, rfl, h3, h4, h5⟩ := hq0.ne hS
  have hmost := hq0.most
  have hfits := hq0.fits
  have HRD := hid' hrd
  have HFU := hid' hfu
  have HGQ : Hid (∀ W, Below w2.heap.size w2 W → W.cell? ⟨G, 1, none⟩ = some (.slice (some ⟨R, 0, none⟩) S.length S.length) ∧ W.cell? ⟨G, 2, none⟩ = some (.int .i64 (f : Int)) ∧ C4 W R (0 + (f + i) % S.length * 4) (S.getD ((f + i) % S.length) s0) ∧ Rd (Out G R) W (S.getD ((f + i) % S.length) s0) (L.getD i u0)) := by
    intro W hB
    obtain ⟨c0, c1, c2, c3, c4⟩ := (hq0.on hB).cells
    rw [Nat.zero_add]
    exact ⟨c1, c2, ((hq0.on hB).at hi).2.2.1, ((hq0.on hB).at hi).2.2.2.1⟩
  obtain ⟨u, hu⟩ : ∃ u, u = L.getD i u0 := ⟨_, rfl⟩
  rw [← hu] at HRD HFU HGQ
  have HU := hid' hu
  clear hu
  clear hq hq0 hc4 hrd hfu h3 hb0 hw
  generalize S.getD ((f + i) % S.length) s0 = s at HRD HGQ
  go_wp2_with fail
  refine PT.wp_region_tail 10 (PB.phi [PB.E (.pointer (some ⟨G, 0, none⟩)), PB.E (.pointer (some ⟨G, 0, none⟩)), PB.E (.pointer (some ⟨G, 1, none⟩)), PB.E (.slice (some ⟨R, 0, none⟩) S.length S.length), PB.E (.pointer (some ⟨G, 0, none⟩)), PB.E (.int .i64 (i : Int)), PB.E (.int .i64 (((f + i) % S.length : Nat) : Int)), PB.E (.pointer (some ⟨R, 0 + (f + i) % S.length * 4, none⟩)), PB.E (s.val), OwnIs w2.heap.size u]) mixed (by kernel_rfl)
    (PB.phi_lasts _ ⟨PB.E_lasts _, PB.E_lasts _, PB.E_lasts _, PB.E_lasts _, PB.E_lasts _, PB.E_lasts _, PB.E_lasts _, PB.E_lasts _, PB.E_lasts _, ownIs_lasts _ _, trivial⟩) ?_ ?_
  · refine ⟨?_, ?_, ?_, ?_, ?_, ?_, ?_, ?_, ?_, ?_, trivial⟩ <;> intro A W hB hS hA hF
    · exact Or.inl (PB.does_move (PB.wanted_free rfl) rfl (hS.slots 0 rfl))
    · exact Or.inl (PB.does_run (PB.wanted_free rfl) (run_nilQ W (hA 0 rfl)) rfl)
    · exact Or.inl (PB.does_run (PB.wanted_free rfl) (run_fieldQ1 W (hA 1 rfl)) rfl)
    · exact Or.inl (PB.does_run (PB.wanted_free rfl) (run_loadQ W (hA 2 rfl) (HGQ.out W hB).1) rfl)
    · exact Or.inl (PB.does_move (PB.wanted_free rfl) rfl (hS.slots 0 rfl))
    · exact Or.inl (PB.does_move (PB.wanted_free rfl) rfl (hS.slots 1 rfl))
    · exact Or.inl (PB.does_call #[.pointer (some ⟨G, 0, none⟩), .int .i64 (i : Int)] (PB.wanted_free rfl) rfl Try.func21 rfl rfl (by show [PB.slot A 19, PB.slot A 20] = _; rw [show PB.slot A 19 = .pointer (some ⟨G, 0, none⟩) from (hA 4 rfl), show PB.slot A 20 = .int .i64 (i : Int) from (hA 5 rfl)]) (place_newB G f i S.length _ W (by omega) (by omega) (by omega) (by omega) (HGQ.out W hB).1 (HGQ.out W hB).2.1))
    · exact Or.inl (PB.does_run (PB.wanted_free rfl) (run_indexU W (hA 3 rfl) (hA 6 rfl) hpl (by omega)) rfl)
    · exact Or.inl (PB.does_run (PB.wanted_free rfl) (run_loadU W (hA 7 rfl) (HGQ.out W hB).2.2.1) rfl)
    · exact Or.inl (PB.does_call #[s.val] (PB.wanted_free rfl) rfl Try.func24 rfl rfl (by show [PB.slot A 23] = _; rw [show PB.slot A 23 = s.val from (hA 8 rfl)]) (own_newB w2.heap.size W _ s u (HGQ.out W hB).2.2.2 HFU.out hB.size))
  · intro A W hB hS hL
    have h_15 : PB.slot A 15 = .pointer (some ⟨G, 0, none⟩) := hL 0 (by decide)
    have h_16 : PB.slot A 16 = .pointer (some ⟨G, 0, none⟩) := hL 1 (by decide)
    have h_17 : PB.slot A 17 = .pointer (some ⟨G, 1, none⟩) := hL 2 (by decide)
    have h_18 : PB.slot A 18 = .slice (some ⟨R, 0, none⟩) S.length S.length := hL 3 (by decide)
    have h_19 : PB.slot A 19 = .pointer (some ⟨G, 0, none⟩) := hL 4 (by decide)
    have h_20 : PB.slot A 20 = .int .i64 (i : Int) := hL 5 (by decide)
    have h_21 : PB.slot A 21 = .int .i64 (((f + i) % S.length : Nat) : Int) := hL 6 (by decide)
    have h_22 : PB.slot A 22 = .pointer (some ⟨R, 0 + (f + i) % S.length * 4, none⟩) := hL 7 (by decide)
    have h_23 : PB.slot A 23 = s.val := hL 8 (by decide)
    have HOWN : OwnIs w2.heap.size u (PB.slot A 24) W := hL 9 (by decide)
    have q_0 := hS.slots 0 rfl
    have q_1 := hS.slots 1 rfl
    have q_2 := hS.slots 2 rfl
    have q_3 := hS.slots 3 rfl
    have q_4 := hS.slots 4 rfl
    have q_5 := hS.slots 5 rfl
    have q_6 := hS.slots 6 rfl
    have q_7 := hS.slots 7 rfl
    have q_8 := hS.slots 8 rfl
    have q_9 := hS.slots 9 rfl
    have q_10 := hS.slots 10 rfl
    have q_11 := hS.slots 11 rfl
    have q_12 := hS.slots 12 rfl
    have q_13 := hS.slots 13 rfl
    have q_14 := hS.slots 14 rfl
    simp only [PB.slot, Array.getD_eq_getD_getElem?, List.getElem?_toArray, List.getElem?_cons_succ, List.getElem?_cons_zero, Option.getD_some] at q_0 q_1 q_2 q_3 q_4 q_5 q_6 q_7 q_8 q_9 q_10 q_11 q_12 q_13 q_14
    have q_0 := (PT.slot_get A 0).trans q_0
    have q_1 := (PT.slot_get A 1).trans q_1
    have q_2 := (PT.slot_get A 2).trans q_2
    have q_3 := (PT.slot_get A 3).trans q_3
    have q_4 := (PT.slot_get A 4).trans q_4
    have q_5 := (PT.slot_get A 5).trans q_5
    have q_6 := (PT.slot_get A 6).trans q_6
    have q_7 := (PT.slot_get A 7).trans q_7
    have q_8 := (PT.slot_get A 8).trans q_8
    have q_9 := (PT.slot_get A 9).trans q_9
    have q_10 := (PT.slot_get A 10).trans q_10
    have q_11 := (PT.slot_get A 11).trans q_11
    have q_12 := (PT.slot_get A 12).trans q_12
    have q_13 := (PT.slot_get A 13).trans q_13
    have q_14 := (PT.slot_get A 14).trans q_14
    have hA := PT.frame_of (A := A) (n := 25) hS.size
    have hd : A.defers = [] := hS.defers
    rw [hd] at hA
    obtain ⟨fr, hf⟩ : ∃ f, PB.slot A = f := ⟨_, rfl⟩
    rw [hf] at hA h_15 h_16 h_17 h_18 h_19 h_20 h_21 h_22 h_23 q_0 q_1 q_2 q_3 q_4 q_5 q_6 q_7 q_8 q_9 q_10 q_11 q_12 q_13 q_14 HOWN
    rw [hA]
    clear hA hf hd hL hS
    simp only [List.range, List.range.loop, List.map_cons, List.map_nil, List.drop_succ_cons, List.drop_zero, h_15, h_16, h_17, h_18, h_19, h_20, h_21, h_22, h_23, q_0, q_1, q_2, q_3, q_4, q_5, q_6, q_7, q_8, q_9, q_10, q_11, q_12, q_13, q_14]
    clear h_15 h_16 h_17 h_18 h_19 h_20 h_21 h_22 h_23 q_0 q_1 q_2 q_3 q_4 q_5 q_6 q_7 q_8 q_9 q_10 q_11 q_12 q_13 q_14
    obtain ⟨s', hs', hrd'⟩ := HOWN
    rw [hs']
    clear hs'
    have hbl : W.heap[w.heap.size]? = some (.cells #[.slice none 0 0, .int .i64 0, .int .i64 0, .int .i64 0] 38 (0, 0)) := (hB.block w.heap.size (by omega)).trans HW0.out
    obtain ⟨x0, x1, x2, x3, y0, y1, y2, y3⟩ := up_cells hbl
    have HBW := hid' (HB0.out.trans (hB.mono (by omega)))
    have HRE := hid' (set_since (b := w.heap.size) (o := 0) (x := s') hrd' (by omega))
    unfold Slot.val
    clear hB hrd' hbl HGQ HRD HFU HW0 HB0
    go_wp2
    refine bodyPost_ret (v := .tuple #[s'.val, .bool true]) ?_ rfl ⟨s', rfl, by rw [← HU.out]; exact HRE.out.mono (Q := Since w.heap.size) (fun k hk => by unfold Since at *; omega), below_set4 (o := 0) HBW.out (Nat.le_refl _) s'⟩
    clear HRE HBW
    unfold results
    go_simp
    rfl

end Go.Proofs.Ytboeodcjcbgeaaa
