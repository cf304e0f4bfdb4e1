/-
  What is proved here: New, place, Len, Open, Passed; slices.Clone of a row; own.
-/
import Derived.Test.YtboeodcjcbgeaaaQA
import Derived.OwnWalk
import Derived.Lib.SliceRun
namespace Go.Proofs.Ytboeodcjcbgeaaa
open Go.RowKit Go.Proofs
set_option linter.unusedVariables false
set_option linter.unusedSimpArgs false

theorem code_any (z : Int) (w : World) : Calls Try.prog 9 #[.int .i64 z] w fun e w' => e = .returned (.int .i64 z) ∧ w' = w := by
  go_enter Try.func9, Try.ntmps9
  go_wp2
  go_ret
  exact ⟨rfl, rfl⟩

set_option maxHeartbeats 1000000 in
/-- New with a room that may be. -/
theorem qNew_in (room : Int) (w : World) (h1 : 1 ≤ room) (h2 : room ≤ 65536) : Calls Try.prog 8 #[.int .i64 room] w fun e w' => ∃ G, e = .returned (.tuple #[.pointer (some ⟨G, 0, none⟩), .int .i64 0]) ∧ w.heap.size ≤ G ∧ Q w' G G room [] 0 ∧ Below w.heap.size w w' := by
  have h1' : ¬ room < 1 := by omega
  have h2' : ¬ room > 65536 := by omega
  go_enter Try.func8, Try.ntmps8
  go_wp2
  go_ret2
  refine ⟨w.heap.size, rfl, Nat.le_refl _, ⟨[], 0, none, ?_, .inl ⟨rfl, rfl, rfl⟩, by simp, by simp, fun i hi => by simp at hi, fun u hu => by simp at hu⟩, (Below.refl _ w).alloc (Nat.le_refl _) _⟩
  exact heap_alloc_new w _

set_option maxHeartbeats 1000000 in
/-- New with another room. -/
theorem qNew_out (room : Int) (w : World) (h : room < 1 ∨ 65536 < room) : Calls Try.prog 8 #[.int .i64 room] w fun e w' => e = .returned (.tuple #[.pointer none, .int .i64 1]) ∧ w' = w := by
  by_cases h1 : room < 1
  · go_enter Try.func8, Try.ntmps8
    go_wp2
    go_ret2
    exact ⟨rfl, rfl⟩
  · have h2 : room > 65536 := by omega
    go_enter Try.func8, Try.ntmps8
    go_wp2
    go_ret2
    exact ⟨rfl, rfl⟩

theorem len_nil (w : World) : Calls Try.prog 14 #[.pointer none] w fun e w' => e = .returned (.int .i64 0) ∧ w' = w := by
  go_enter Try.func14, Try.ntmps14
  go_wp2
  go_ret
  exact ⟨rfl, rfl⟩

theorem len_at (G : Nat) (z : Int) (w : World) (h : w.cell? ⟨G, 3, none⟩ = some (.int .i64 z)) : Calls Try.prog 14 #[.pointer (some ⟨G, 0, none⟩)] w fun e w' => e = .returned (.int .i64 z) ∧ w' = w := by
  go_enter Try.func14, Try.ntmps14
  go_wp2
  go_ret
  exact ⟨rfl, rfl⟩

theorem open_nil (w : World) : Calls Try.prog 15 #[.pointer none] w fun e w' => e = .returned (.bool false) ∧ Below w.heap.size w w' := by
  go_enter Try.func15, Try.ntmps15
  go_wp2_with fail
  go_quiet (fail)
  go_wp2
  go_ret
  exact ⟨rfl, below_drewN (Below.refl _ _) _⟩

theorem open_at (G : Nat) (room z : Int) (w : World) (h0 : w.cell? ⟨G, 0, none⟩ = some (.int .i64 room)) (h : w.cell? ⟨G, 3, none⟩ = some (.int .i64 z)) : Calls Try.prog 15 #[.pointer (some ⟨G, 0, none⟩)] w fun e w' => e = .returned (.bool (decide (z < room))) ∧ Below w.heap.size w w' := by
  go_enter Try.func15, Try.ntmps15
  go_wp2_with fail
  go_quiet (fail)
  go_wp2
  go_ret
  exact ⟨rfl, below_drewN (Below.refl _ _) _⟩

theorem passed_nil (w : World) : Calls Try.prog 13 #[.pointer none] w fun e w' => e = .returned (.tuple #[.int .i64 0, .int .i64 0]) ∧ w' = w := by
  go_enter Try.func13, Try.ntmps13
  go_wp2
  go_ret2
  exact ⟨rfl, rfl⟩

theorem passed_at (G : Nat) (p z : Nat) (w : World) (hp : p ≤ 1000000000) (hz : z ≤ 1000000000) (h0 : w.cell? ⟨G, 4, none⟩ = some (.int .i64 (p : Int))) (h : w.cell? ⟨G, 3, none⟩ = some (.int .i64 (z : Int))) : Calls Try.prog 13 #[.pointer (some ⟨G, 0, none⟩)] w fun e w' => e = .returned (.tuple #[.int .i64 ((p : Int) + (z : Int)), .int .i64 (p : Int)]) ∧ Below w.heap.size w w' := by
  go_enter Try.func13, Try.ntmps13
  go_wp2_with fail
  go_quiet (fail)
  go_wp2
  go_ret2
  exact ⟨rfl, below_drewN (Below.refl _ _) _⟩

theorem place_at (G : Nat) (f i n : Nat) (ra : Option Addr) (w : World) (hf : f ≤ 1000000000) (hi : i ≤ 1000000000) (hn : 0 < n) (hn' : n ≤ 1000000000) (h1 : w.cell? ⟨G, 1, none⟩ = some (.slice ra n n)) (h2 : w.cell? ⟨G, 2, none⟩ = some (.int .i64 (f : Int))) : Calls Try.prog 21 #[.pointer (some ⟨G, 0, none⟩), .int .i64 (i : Int)] w fun e w' => e = .returned (.int .i64 (((f + i) % n : Nat) : Int)) ∧ Below w.heap.size w w' := by
  have e := @tmod_md f i n
  have hlt := @md_lt f i n hn
  go_enter Try.func21, Try.ntmps21
  go_wp2_with fail
  go_quiet (fail)
  go_wp2
  go_ret
  exact ⟨by simp, below_drewN (Below.refl _ _) _⟩

/-- The value that is nothing. -/
def zV : Value := .agg #[.int .i64 0, .int .i64 0, .string ⟨#[]⟩]

theorem Try.infoVal : (Try.prog.info? 68).map (fun i => (i.zero, i.size, i.bytes)) = some (some zV, 3, 32) := by kernel_rfl
theorem Try.infoUp : (Try.prog.info? 38).map (fun i => (i.zero, i.size, i.bytes)) = some (some s0.val, 4, 48) := by kernel_rfl

theorem addr_addQ (b off i : Nat) : (⟨b, off, none⟩ : Addr).add i = ⟨b, off + i, none⟩ := by unfold Addr.add; split <;> simp_all

theorem Vs.src {B : Nat} {w : World} {b off : Nat} {l : List V} (h : Vs B w (some ⟨b, off, none⟩) l) : ∀ j u, (flatV l)[j]? = some u → w.cell? ((⟨b, off, none⟩ : Addr).add j) = some u := by
  intro j u hj
  have hlt : j < (flatV l).length := by
    rcases Nat.lt_or_ge j (flatV l).length with h' | h'
    · exact h'
    · rw [List.getElem?_eq_none h'] at hj; cases hj
  rw [length_flatV] at hlt
  have h2 : j / 3 < l.length := by omega
  have hf := flat_getV l (j / 3) h2
  obtain ⟨b', off', e, _, hcell⟩ := h.cells (by rintro rfl; simp at h2)
  cases e
  have hc := hcell (j / 3) h2
  rw [addr_addQ]
  have h3 : j % 3 = 0 ∨ j % 3 = 1 ∨ j % 3 = 2 := by omega
  rcases h3 with hm | hm | hm
  · have e : j / 3 * 3 = j := by omega
    rw [e, hj] at hf
    rw [e] at hc
    rw [hc.1, hf.1]
  · have e : j / 3 * 3 + 1 = j := by omega
    rw [e, hj] at hf
    rw [show off + j / 3 * 3 + 1 = off + j by omega] at hc
    rw [hc.2.1, hf.2.1]
  · have e : j / 3 * 3 + 2 = j := by omega
    rw [e, hj] at hf
    rw [show off + j / 3 * 3 + 2 = off + j by omega] at hc
    rw [hc.2.2, hf.2.2]

/-- Blocks that were made since there were B. -/
def Since (B : Nat) : Nat → Prop := fun k => B ≤ k

theorem VP.of_owns {base : Nat} {w : World} {v : Value} {l : List V} (h : w.ownsRow base 68 3 v l.length (flatV l)) : ∃ a c, v = .slice a l.length c ∧ VP (Since base) w a l ∧ Sh a l.length c := by
  have hh := h
  obtain ⟨h1, ⟨rfl, h0⟩ | ⟨g, cap, cur, rfl, hg, hcur, hle, hm, hs, ht⟩⟩ := h
  · exact ⟨none, 0, by rw [h0], ⟨fun hl => absurd (List.length_eq_zero_iff.1 h0) hl⟩, by rw [h0]; exact Sh.nil⟩
  · refine ⟨_, _, rfl, ⟨fun hl => ⟨g, 0, rfl, hg, (hh.lt g rfl).2, fun i hi => ?_⟩⟩, Sh.at _ _ _⟩
    have := flat_getV l i hi
    rw [Nat.zero_add, hh.cellAt (i * 3) (by omega), hh.cellAt (i * 3 + 1) (by omega), hh.cellAt (i * 3 + 2) (by omega)]
    exact this

set_option maxRecDepth 10000 in
set_option maxHeartbeats 1000000 in
theorem clone_nil (w : World) : Calls Try.prog 30 #[.slice none 0 0] w fun e w' => e = .returned (.slice none 0 0) ∧ w' = w := by
  have q : ∀ (w : World), (binOp .eql 34 (.slice none 0 0) (.slice none 0 0)).run Try.prog w = .ok (.bool true) w := fun w => Lib.run_eql_slice_nil w _ _ none 0 0 0 0 Try.underlying34
  go_enter Try.func30, Try.ntmps30
  go_wp2
  go_ret
  exact ⟨rfl, rfl⟩

set_option maxRecDepth 10000 in
set_option maxHeartbeats 1000000 in
theorem clone_some (w : World) (ad : Addr) (n c : Nat) (l : List V) (hn : l.length = n) (h : Vs w.heap.size w (some ad) l) (hl : n ≤ 1000) :
    Calls Try.prog 30 #[.slice (some ad) n c] w fun e w' => ∃ a c', e = .returned (.slice a n c') ∧ VP (Since w.heap.size) w' a l ∧ Sh a n c' ∧ Below w.heap.size w w' := by
  obtain ⟨iV, hiV, hV0, hV1, hV2⟩ := info_parts Try.infoVal
  have q : ∀ (w : World) (a : Addr) (n c : Nat), (binOp .eql 34 (.slice (some a) n c) (.slice none 0 0)).run Try.prog w = .ok (.bool false) w := fun w a n c => Lib.run_eql_slice_nil w _ _ (some a) n c 0 0 Try.underlying34
  have hb0 : Below w.heap.size w (w.alloc (.cells #[] 68)) := (Below.refl _ w).alloc (Nat.le_refl _) _
  have HSRC : Hid (∀ j u, (flatV l)[j]? = some u → (w.alloc (.cells #[] 68)).cell? (ad.add j) = some u) := by
    intro j u hj
    by_cases hl0 : l = []
    · subst hl0; simp [flatV] at hj
    · have hv := h.on hb0
      obtain ⟨b, off, e, _⟩ := hv.cells hl0
      cases e
      exact hv.src j u hj
  have HLEN : Hid ((flatV l).length = n * 3) := by unfold Hid; rw [length_flatV, hn]
  have HON := hid' (flat_onesV l)
  have HN := hid' hn
  clear h hn
  go_enter Try.func30, Try.ntmps30
  go_wp2_with (at_builtin; refine wpList_append_own _ rfl _ _ 34 rfl w.heap.size 68 iV zV 3 32 Try.underlying34 hiV hV0 hV1 hV2 rfl (by decide) _ 0 [] rfl ⟨rfl, .inr ⟨w.heap.size, 0, #[], rfl, Nat.le_refl _, heap_alloc_new w _, Nat.le_refl _, Nat.zero_le _, rfl, rfl⟩⟩ ad n c (flatV l) rfl HLEN.out HSRC.out HON.out (by unfold maxLen; omega) (by omega) (by simp) ?_; intro v' w' hown' hg' hnil')
  go_ret
  have hgr : (w.alloc (.cells #[] 68)).grownBy w' (some w.heap.size) := hg'
  have ho : w'.ownsRow w.heap.size 68 3 v' l.length (flatV l) := by rw [HN.out]; simpa using hown'
  obtain ⟨a, c', rfl, hv, hsh⟩ := VP.of_owns ho
  exact ⟨a, c', by rw [HN.out]; rfl, hv, by rw [← HN.out]; exact hsh, hb0.grown hgr hb0.size (fun k e => by cases e; exact Nat.le_refl _)⟩

/-- slices.Clone of a row. -/
theorem clone_any (w : World) (a : Option Addr) (n c : Nat) (l : List V) (hn : l.length = n) (h : Vs w.heap.size w a l) (hs : Sh a n c) (hl : n ≤ 1000) :
    Calls Try.prog 30 #[.slice a n c] w fun e w' => ∃ a c', e = .returned (.slice a n c') ∧ VP (Since w.heap.size) w' a l ∧ Sh a n c' ∧ Below w.heap.size w w' := by
  cases a with
  | none =>
    obtain ⟨rfl, rfl⟩ := hs rfl
    obtain rfl : l = [] := List.length_eq_zero_iff.1 hn
    refine (clone_nil w).mono ?_
    rintro e w' ⟨rfl, rfl⟩
    exact ⟨none, 0, rfl, VP.nil _ _ _, Sh.nil, Below.refl _ _⟩
  | some x =>
    exact clone_some w x n c l hn h hl

theorem up_cells {w : World} {b : Nat} {x y z u : Value} {t : TypeId} (h : w.heap[b]? = some (.cells #[x, y, z, u] t (0, 0))) : w.cell? ⟨b, 0, none⟩ = some x ∧ w.cell? ⟨b, 1, none⟩ = some y ∧ w.cell? ⟨b, 2, none⟩ = some z ∧ w.cell? ⟨b, 3, none⟩ = some u ∧ w.frozen? ⟨b, 0, none⟩ = false ∧ w.frozen? ⟨b, 1, none⟩ = false ∧ w.frozen? ⟨b, 2, none⟩ = false ∧ w.frozen? ⟨b, 3, none⟩ = false := by
  refine ⟨?_, ?_, ?_, ?_, ?_, ?_, ?_, ?_⟩
  iterate 4 (rw [cell_of_row _ _ _ _ _ _ h]; rfl)
  all_goals simp [World.frozen?, h]

theorem own_blocks {w w1 : World} {x y : Obj} (h : Below ((w.alloc x).alloc y).heap.size ((w.alloc x).alloc y) w1) : w1.heap[w.heap.size]? = some x ∧ w1.heap[w.heap.size + 1]? = some y := by
  constructor
  · rw [h.block _ (by simp <;> omega), Below.heap_alloc _ _ _ (by simp)]
    exact heap_alloc_new w x
  · rw [h.block _ (by simp)]
    have := heap_alloc_new (w.alloc x) y
    rwa [World.size_alloc] at this

set_option maxRecDepth 10000 in
set_option maxHeartbeats 1000000 in
/-- own: the same change with a new row. -/
theorem own_any (w : World) (P : Nat → Prop) (s : Slot) (u : U) (h : Rd P w s u) (hf : Fit u) :
    Calls Try.prog 24 #[s.val] w fun e w' => ∃ s' : Slot, e = .returned s'.val ∧ Rd (Since w.heap.size) w' s' u ∧ Below w.heap.size w w' := by
  obtain ⟨a, n, c, t, d⟩ := s
  obtain ⟨hsh, hn, hrow, ht, hd⟩ := h
  simp only at hsh hn hrow ht hd
  have hb0 : Below w.heap.size w ((w.alloc (.cells #[.slice a n c, .int .i64 t.1, .int .i64 t.2, .int .i64 d] 38)).alloc (.cells #[.slice none 0 0, .int .i64 0, .int .i64 0, .int .i64 0] 38)) := ((Below.refl _ w).alloc (Nat.le_refl _) _).alloc (by simp) _
  have HC := hid' (clone_any _ a n c u.row hn.symm (hrow.vs.on hb0) hsh (by have := hf.row; omega))
  obtain ⟨row, time, diff⟩ := u
  simp only at hn ht hd HC
  subst hn ht hd
  unfold Slot.val
  simp only
  clear hsh hrow
  obtain ⟨t1, t2⟩ := t
  simp only at HC ⊢
  go_enter Try.func24, Try.ntmps24
  go_wp2_with fail
  refine HC.out.mono ?_
  rintro e w1 ⟨a', c', rfl, hv, hsh, hb1⟩
  clear HC
  have HV := hid' hv
  have HSH := hid' hsh
  have HB1 := hid' hb1
  obtain ⟨hA, hB⟩ := own_blocks hb1
  obtain ⟨b0, b1, b2, b3, f0, f1, f2, f3⟩ := up_cells hA
  obtain ⟨c0, c1, c2, c3, g0, g1, g2, g3⟩ := up_cells hB
  have HA := hid' hA
  have HBB := hid' hB
  clear hv hsh hb1 hA hB
  go_wp2
  refine bodyPost_ret (v := Slot.val ⟨a', row.length, c', (t1, t2), d⟩) ?_ rfl ?_
  · unfold results
    go_simp
    rfl
  · have hb := HB1.out
    have hsz : w.heap.size + 1 + 1 ≤ w1.heap.size := by simpa using hb.size
    refine ⟨_, rfl, ⟨HSH.out, rfl, ?_, rfl, rfl⟩, ?_⟩
    · refine HV.out.keep (fun k hk hlt => ?_) (by simp)
      have hk2 : w.heap.size + 1 + 1 ≤ k := by unfold Since at hk; simpa using hk
      refine ⟨?_, by unfold Since; omega⟩
      rw [Below.heap_setCell _ _ _ _ (by simp; omega), Below.heap_setCell _ _ _ _ (by simp; omega), Below.heap_setCell _ _ _ _ (by simp; omega), Below.heap_setCell _ _ _ _ (by simp; omega), Below.heap_setCell _ _ _ _ (by simp; omega)]
    · have h2 : Below w.heap.size w w1 := hb0.trans (hb.mono hb0.size)
      exact ((((h2.setCell (Nat.le_refl _) _).setCell (Nat.le_succ _) _).setCell (Nat.le_succ _) _).setCell (Nat.le_succ _) _).setCell (Nat.le_succ _) _

end Go.Proofs.Ytboeodcjcbgeaaa
