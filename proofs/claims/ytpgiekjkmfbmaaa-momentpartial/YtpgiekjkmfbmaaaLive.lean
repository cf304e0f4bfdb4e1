/-
  What is proved here: the page's example: live answers true; the law MomentSets answers true.
-/
import Derived.Test.YtpgiekjkmfbmaaaRefC
namespace Go.Proofs.Ytpgiekjkmfbmaaa
open Go.RowKit Go.Proofs
set_option linter.unusedVariables false
set_option linter.unusedSimpArgs false

theorem live_set {c : List T} (h : SetOf c (Joins [(1, 0), (0, 2)])) : c = [(0, 2), (1, 0), (1, 2)] := by
  refine h.eq (r := [(0, 2), (1, 0), (1, 2)]) (q := fun x => x ∈ [((0, 2) : T), (1, 0), (1, 2)]) ⟨?_, fun x => Iff.rfl⟩ fun x => ?_
  · unfold SL; simp [ltT]
  · unfold Joins
    simp [joinT]
    constructor
    · rintro ((h | h) | (h | h))
      all_goals (subst h; decide)
    · rintro (h | h | h)
      all_goals (subst h; decide)

theorem ts_new (w : World) (l : List T) (hr : ∀ x ∈ l, RT x) : Ts (w.alloc (.cells (flat l).toArray 23)).heap.size (w.alloc (.cells (flat l).toArray 23)) (some ⟨w.heap.size, 0, none⟩) l := by
  refine ⟨hr, fun _ => ⟨w.heap.size, 0, rfl, by simp, fun i hi => ?_⟩⟩
  have := flat_get l i hi
  rw [cell_of_row _ _ _ _ _ _ (World.alloc_heap_new w _), cell_of_row _ _ _ _ _ _ (World.alloc_heap_new w _)]
  simpa using this

theorem rt_small {x : T} (h : x ∈ [((0, 2) : T), (1, 0), (1, 2)] ∨ x ∈ [((1, 0) : T), (0, 2)]) : RT x := by
  unfold RT R64
  rcases h with h | h
  · simp at h
    rcases h with rfl | rfl | rfl <;> simp
  · simp at h
    rcases h with rfl | rfl <;> simp

set_option maxHeartbeats 1000000 in
theorem live_any (w : World) : Calls Try.prog 17 #[] w fun e w' => e = .returned (.bool true) ∧ Below w.heap.size w w' := by
  have hts := ts_new w [(1, 0), (0, 2)] (fun x hx => rt_small (.inr hx))
  have HC := hid' (closure_any _ _ 2 _ hts (by simp))
  simp only [flat, List.flatMap_cons, List.flatMap_nil, List.append_nil, List.cons_append, List.nil_append, List.length_cons, List.length_nil, Nat.zero_add, Nat.reduceAdd] at HC
  clear hts
  go_enter Try.func17, Try.ntmps17
  go_wp2_with fail
  refine HC.out.mono ?_
  clear HC
  rintro e w1 ⟨v, c, rfl, hcl, hset, hrow, hb⟩
  obtain rfl := live_set hset
  obtain ⟨a1, c1, rfl, _, hts1⟩ := Ts.of_owns hrow (fun x hx => rt_small (.inl hx))
  have hts2 := ts_new w1 [(0, 2), (1, 0), (1, 2)] (fun x hx => rt_small (.inl hx))
  have HS := hid' (same_any _ a1 (some ⟨w1.heap.size, 0, none⟩) c1 3 [(0, 2), (1, 0), (1, 2)] [(0, 2), (1, 0), (1, 2)] (hts1.on ((Below.refl _ _).alloc (Nat.le_refl _) (.cells (flat [(0, 2), (1, 0), (1, 2)]).toArray 23))) hts2 (by simp) (by simp))
  simp only [flat, List.flatMap_cons, List.flatMap_nil, List.append_nil, List.cons_append, List.nil_append, List.length_cons, List.length_nil, Nat.zero_add, Nat.reduceAdd, decide_true] at HS
  clear hts1 hts2 hrow hset hcl
  simp only [List.length_cons, List.length_nil, Nat.zero_add, Nat.reduceAdd]
  go_wp2_with fail
  refine HS.out.mono ?_
  clear HS
  rintro e w2 ⟨rfl, hg⟩
  go_wp2
  go_ret
  refine ⟨rfl, ((Below.refl _ w).alloc (Nat.le_refl _) _).trans ((hb.mono (by simp)).trans ((((Below.refl _ w1).alloc (Nat.le_refl _) _).trans (hg.below.mono (by simp))).mono ?_))⟩
  have := hb.size
  simp at this
  omega

end Go.Proofs.Ytpgiekjkmfbmaaa
