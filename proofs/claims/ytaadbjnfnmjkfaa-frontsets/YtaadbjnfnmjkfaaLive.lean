/-
  What is proved here: the page's example: live answers true; much.
-/
import Derived.Test.YtaadbjnfnmjkfaaRRep
namespace Go.Proofs.Ytaadbjnfnmjkfaa
open Go.RowKit Go.Proofs
set_option linter.unusedVariables false
set_option linter.unusedSimpArgs false

theorem live_steps : StepsOf [(2, 0), (0, 2), (2, 2)] [(0, 2), (2, 0)] := by
  refine ⟨?_, fun x hx => ?_, fun y hy => ?_⟩
  · unfold Stairs; simp
  · simp at hx ⊢
    rcases hx with rfl | rfl <;> simp
  · simp at hy
    unfold Adv
    rcases hy with rfl | rfl | rfl
    · exact ⟨(2, 0), by simp, by decide⟩
    · exact ⟨(0, 2), by simp, by decide⟩
    · exact ⟨(0, 2), by simp, by decide⟩

theorem ts_new (w : World) (l : List T) (hr : ∀ x ∈ l, RT x) : Ts (w.alloc (.cells (flat l).toArray 32)).heap.size (w.alloc (.cells (flat l).toArray 32)) (some ⟨w.heap.size, 0, none⟩) l := by
  refine ⟨hr, fun _ => ⟨w.heap.size, 0, rfl, by simp, fun i hi => ?_⟩⟩
  have := flat_get l i hi
  rw [cell_of_row _ _ _ _ _ _ (World.alloc_heap_new w _), cell_of_row _ _ _ _ _ _ (World.alloc_heap_new w _)]
  simpa using this

theorem rt_small {x : T} (h : x ∈ [((0, 2) : T), (2, 0)] ∨ x ∈ [((2, 0) : T), (0, 2), (2, 2)]) : RT x := by
  unfold RT R64
  rcases h with h | h
  · simp at h
    rcases h with rfl | rfl <;> simp
  · simp at h
    rcases h with rfl | rfl | rfl <;> simp

set_option maxHeartbeats 1000000 in
theorem live_any (w : World) : Calls Try.prog 10 #[] w fun e w' => e = .returned (.bool true) ∧ Below w.heap.size w w' := by
  have hts := ts_new w [(2, 0), (0, 2), (2, 2)] (fun x hx => rt_small (.inr hx))
  have HC := hid' (new_any _ _ 3 _ hts (by simp))
  simp only [flat, List.flatMap_cons, List.flatMap_nil, List.append_nil, List.cons_append, List.nil_append, List.length_cons, List.length_nil, Nat.zero_add, Nat.reduceAdd] at HC
  clear hts
  go_enter Try.func10, Try.ntmps10
  go_wp2_with fail
  refine HC.out.mono ?_
  clear HC
  rintro e w1 ⟨v, c, rfl, hcl, hst, hrow, hb⟩
  obtain rfl := hst.eq live_steps (fun _ => Iff.rfl)
  obtain ⟨a1, c1, rfl, hc1, hts1⟩ := Ts.of_owns hrow (fun x hx => rt_small (.inl hx))
  have hts2 := ts_new w1 [(0, 2), (2, 0)] (fun x hx => rt_small (.inl hx))
  have hb2 : Below w1.heap.size w1 (w1.alloc (.cells (flat [(0, 2), (2, 0)]).toArray 32)) := (Below.refl _ w1).alloc (Nat.le_refl _) _
  have HS := hid' (same_any _ a1 (some ⟨w1.heap.size, 0, none⟩) c1 2 [(0, 2), (2, 0)] [(0, 2), (2, 0)] (hts1.on hb2) hts2 (by simp) (by simp))
  have HT := hid' hts1
  have HB2 := hid' hb2
  simp only [flat, List.flatMap_cons, List.flatMap_nil, List.append_nil, List.cons_append, List.nil_append, List.length_cons, List.length_nil, Nat.zero_add, Nat.reduceAdd, decide_true] at HS HB2 hc1
  clear hts1 hts2 hrow hst hcl hb2
  simp only [List.length_cons, List.length_nil, Nat.zero_add, Nat.reduceAdd]
  go_wp2_with fail
  refine HS.out.mono ?_
  clear HS
  rintro e w2 ⟨rfl, hg⟩
  have hb12 : Below w1.heap.size w1 w2 := HB2.out.trans (hg.below.mono HB2.out.size)
  have HR1 := hid' (Rep_any w2 a1 c1 [(0, 2), (2, 0)] (1, 1) (HT.out.on hb12) hc1 (by simp))
  rw [show repT [(0, 2), (2, 0)] (1, 1) = (1, 1) by decide] at HR1
  simp only [List.length_cons, List.length_nil, Nat.zero_add, Nat.reduceAdd, tv] at HR1
  clear hg
  go_wp2_with fail
  refine HR1.out.mono ?_
  clear HR1
  rintro e w3 ⟨rfl, hb3⟩
  have hb13 : Below w1.heap.size w1 w3 := hb12.trans (hb3.mono hb12.size)
  have HR2 := hid' (Rep_any w3 a1 c1 [(0, 2), (2, 0)] (0, 5) (HT.out.on hb13) hc1 (by simp))
  rw [show repT [(0, 2), (2, 0)] (0, 5) = (0, 5) by decide] at HR2
  simp only [List.length_cons, List.length_nil, Nat.zero_add, Nat.reduceAdd, tv] at HR2
  go_wp2_with fail
  refine HR2.out.mono ?_
  clear HR2
  rintro e w4 ⟨rfl, hb4⟩
  have hb14 : Below w1.heap.size w1 w4 := hb13.trans (hb4.mono hb13.size)
  go_wp2
  go_ret
  have hbb : Below w.heap.size w w1 := ((Below.refl _ w).alloc (Nat.le_refl _) _).trans (hb.mono (by simp))
  exact ⟨rfl, hbb.trans (hb14.mono hbb.size)⟩

theorem live_newB (w : World) : Calls Try.prog 10 #[] w fun e w' => ∃ v, e = .returned v ∧ Below w.heap.size w w' ∧ PB.E (.bool true) v w' :=
  (live_any w).mono fun e w' ⟨he, hb⟩ => ⟨_, he, hb, rfl⟩

set_option maxHeartbeats 1000000 in
theorem much_any (w : World) (a b : Option Addr) (n m c d : Nat) : Calls Try.prog 9 #[.slice a n c, .slice b m d] w fun e w' => e = .returned (.bool (decide (40 < n) || decide (40 < m))) ∧ w' = w := by
  by_cases h1 : 40 < n
  · go_enter Try.func9, Try.ntmps9
    go_wp2
    go_ret
    exact ⟨by simp [h1], rfl⟩
  · by_cases h2 : 40 < m
    · go_enter Try.func9, Try.ntmps9
      go_wp2
      go_ret
      exact ⟨by simp [h1, h2]; omega, rfl⟩
    · go_enter Try.func9, Try.ntmps9
      go_wp2
      go_ret
      exact ⟨by simp [h1, h2]; omega, rfl⟩

theorem Rep_newB (l : List T) (t : T) (v : Value) (w : World) (h : IsL l v w) (hl : l.length ≤ 1000000000) : Calls Try.prog 25 #[v, .agg #[.int .i64 t.1, .int .i64 t.2]] w fun e w' => ∃ v, e = .returned v ∧ Below w.heap.size w w' ∧ PB.E (tv (repT l t)) v w' := by
  obtain ⟨a, c, rfl, hc, hs, ht⟩ := h
  exact (Rep_any w a c l t ht hc hl).mono fun e w' ⟨he, hg⟩ => ⟨_, he, hg, rfl⟩
theorem rRep_newB (l : List T) (t : T) (v : Value) (w : World) (h : IsL l v w) (hl : l.length ≤ 1000000000) : Calls Try.prog 26 #[v, .agg #[.int .i64 t.1, .int .i64 t.2]] w fun e w' => ∃ v, e = .returned v ∧ Below w.heap.size w w' ∧ PB.E (tv (repT l t)) v w' := by
  obtain ⟨a, c, rfl, hc, hs, ht⟩ := h
  exact (rRep_any w a c l t ht hl).mono fun e w' ⟨he, hg⟩ => ⟨_, he, hg, rfl⟩

end Go.Proofs.Ytaadbjnfnmjkfaa
