/-
  What is proved here: the readers' numbers: slices.Sorted of the map's keys.
-/
import Derived.Test.YtlamcgeboclkjaaTrB
import Derived.Test.YtlamcgeboclkjaaShelfI
import Derived.Shelf.SlIterI.Sorted
import Derived.Shelf.SortM.Plain
import Derived.Shelf.SortM.SortNone
namespace Go.Proofs.Ytlamcgeboclkjaa
open Go.RowKit Go.Maps Go.Sort Go.Shelf Go.Proofs
set_option linter.unusedVariables false
set_option linter.unusedSimpArgs false

/-- slices.Sort's two contracts, at the fence that asks nothing. -/
theorem sortsI (m : Nat) : AnyZI.SortsIn Try.prog Try.sortedI_ren Fence.wide m :=
  ⟨fun blk off cap ss W hH hblk hsz => callsIn_wide.2 (AnyM.slices_Sort_int Try.sortI blk off cap ss W hH hblk hsz),
   fun p cap W => callsIn_wide.2 (AnyM.slices_Sort_int_none Try.sortI p cap W)⟩

theorem mem_intKeys {w : World} {M nn : Nat} {D : DataW Value} (hown : w.ownsMap Try.prog 3 heldR M nn D) (z : Int) : z ∈ intKeys D ↔ has D (.int .i64 z) = true := by
  obtain ⟨es, rfl, hko⟩ := hown.keysOf
  have hk : ∀ p ∈ es, ∃ x, p.1 = .int .i64 x := fun p hp => by
    obtain ⟨v, hv⟩ := hko p hp
    obtain ⟨x, _, hx, _⟩ := Maps.keyOf_i64 Try.underlying3 hv
    exact ⟨x, hx⟩
  rw [has_eq, List.any_eq_true]
  show z ∈ es.map (fun p => _root_.Go.intOf p.1) ↔ _
  rw [List.mem_map]
  constructor
  · rintro ⟨p, hp, rfl⟩
    obtain ⟨a, ha⟩ := hk p hp
    exact ⟨p, hp, by rw [ha]; simp [Lit.sameKey, _root_.Go.intOf]⟩
  · rintro ⟨p, hp, hs⟩
    obtain ⟨a, ha⟩ := hk p hp
    rw [ha] at hs
    exact ⟨p, hp, by rw [ha]; simpa [Lit.sameKey, _root_.Go.intOf] using hs⟩

theorem len_intKeys {w : World} {M nn : Nat} {D : DataW Value} (hown : w.ownsMap Try.prog 3 heldR M nn D) : (intKeys D).length = Maps.size D := by
  obtain ⟨es, rfl, _⟩ := hown.keysOf
  simp [intKeys, Maps.size]

set_option maxHeartbeats 1000000 in
/-- numbers: the readers that are there, as a new slice. -/
theorem numbers_any {w : World} {G S M nn : Nat} {ks : Int → Prop} {cnt : Nat} {f : Int → T} {nx : Nat} {sx : T} (h : St w G S M nn ks cnt f nx sx) (hcnt : cnt ≤ 1000) :
    Calls Try.prog 21 #[.pointer (some ⟨G, 0, none⟩)] w fun e w' => ∃ (v : Value) (ss : List Int), e = .returned v ∧ ss.length = cnt ∧ (∀ z, z ∈ ss ↔ ks z) ∧ (∀ z ∈ ss, R64 z) ∧ w'.ownsRow w.heap.size 3 1 v ss.length (ss.map encZ) ∧ Below w.heap.size w w' := by
  have c1 := h.cellsG.2.1
  obtain ⟨D, hown, hc, hk, hv⟩ := h.mp
  have hmax : Maps.size D ≤ maxLen := by rw [hc]; unfold maxLen; omega
  have hbytes : Maps.size D * 8 ≤ 140737488355328 := by rw [hc]; omega
  have HD : Hid (∀ ss : List Int, ss.Perm (intKeys D) → ss.length = cnt ∧ (∀ z, z ∈ ss ↔ ks z) ∧ (∀ z ∈ ss, R64 z)) := fun ss hp => by
    refine ⟨?_, fun z => ?_, fun z hz => ?_⟩
    · rw [hp.length_eq, len_intKeys hown, hc]
    · rw [hp.mem_iff, mem_intKeys hown, hk]
    · exact R64.of_wf (intKeys_wf hown Try.underlying3 z (hp.mem_iff.1 hz))
  clear hk hv hc
  refine (callsIn_wide (n := 6)).1 ?_
  have hbl := hown.lt
  have hseq : SeqGives Fence.wide 2 Try.prog 38 #[.pointer (some ⟨w.heap.size, 0, none⟩)] encZ (fun ss => ss.Perm (intKeys D)) (Maps.size D) (w.alloc (.cells #[.map (some M)] 40)) :=
    AnyZI.keys_gives (ρ := Try.keysI_ren) { Try.keysI with } Fence.wide _ trivial rfl (by omega) w.heap.size M nn D _ (by simp) (by simp) (by
      obtain ⟨es, clock, hb, Ft, hs, hD⟩ := hown
      exact ⟨es, clock, (Below.heap_alloc _ _ M hbl).trans hb, Ft, hs, hD⟩)
  have cK : ∀ mb W, CallsIn Fence.wide 5 Try.prog 30 #[.map mb] W fun e w' => e = .returned (.func (.func 38) #[] #[.pointer (some ⟨W.heap.size, 0, none⟩)]) ∧ w' = W.alloc (.cells #[.map mb] 40) := fun mb W => AnyZI.keys_in Try.keysI Fence.wide 5 trivial rfl mb W
  have cS := AnyZI.sorted_in Try.sortedI Fence.wide 5 trivial trivial trivial trivial rfl (by omega) (sortsI _) (enters_of Try.func37 (by kernel_rfl) rfl) 38 #[.pointer (some ⟨w.heap.size, 0, none⟩)] trivial (enters_of Try.func38 (by kernel_rfl) rfl) _ _ hmax hbytes _ hseq
  change CallsIn _ _ Try.prog 29 _ _ _ at cS
  have hfK : Fence.wide.fn 30 := trivial
  have hfS : Fence.wide.fn 29 := trivial
  refine callsIn_of_wp Try.func21 rfl trivial ?_ rfl
  simp only [Try.ntmps21, List.size_toArray, List.length_cons, List.length_nil, Nat.reduceAdd, Nat.reduceSub, Array.replicate_succ, Array.replicate_zero, List.push_toArray, List.append_toArray, List.nil_append, List.cons_append]
  clear hseq hmax hbytes hown h
  gi_wp2_with (first
    | (gi_at_call 30; refine (cK _ _).mono ?_; rintro e w' ⟨rfl, rfl⟩)
    | (gi_at_call 29; refine cS.mono ?_; rintro e w' ⟨v, ss, rfl, hS, hrow, hnil, hb⟩))
  go_ret
  have hp : (ss.mergeSort (fun x y => decide (x ≤ y))).Perm ss := List.mergeSort_perm _ _
  obtain ⟨q1, q2, q3⟩ := HD.out _ (hp.trans hS)
  refine ⟨v, _, rfl, q1, q2, q3, ?_, ((Below.refl _ w).alloc (Nat.le_refl _) _).trans (hb.mono (by simp))⟩
  rw [hp.length_eq]
  exact ownsRow_base_a hrow (by simp)

end Go.Proofs.Ytlamcgeboclkjaa
