/-
  What is proved here: a law for a statement whose order is left open and that ends in stores: all operations but the last wait for none of them, and each of the last waits for all others.
-/
import Derived.Test.YtpgiekjkmfbmaaaPlanB
namespace Go.Proofs.Ytpgiekjkmfbmaaa.PB
open Go.RowKit
set_option linter.unusedVariables false

/-- The first k operations each wait for earlier ones alone and write a slot of their own; each other one waits for all of these and writes none. -/
def planOK2 (ops : Array Oper) (n k : Nat) : Bool :=
  ((List.range k).all fun i => match ops[i]? with
    | none => false
    | some o => (o.after.all fun e => !Region.binds .any e || decide (e.on < i)) &&
      match o.dst with
      | none => false
      | some d => decide (d < n) && (List.range k).all fun j => (j == i) || match ops[j]? with
        | none => false
        | some o' => o'.dst != some d) &&
  (List.range ops.size).all fun i => decide (i < k) || match ops[i]? with
    | none => false
    | some o => (List.range k).all fun j => waits o j

theorem planOK2_first {ops : Array Oper} {n k i : Nat} (h : planOK2 ops n k = true) (hi : i < k) :
    ∃ o d, ops[i]? = some o ∧ o.dst = some d ∧ d < n ∧ (∀ e ∈ o.after, Region.binds .any e = true → e.on < i) ∧ ∀ j o', ops[j]? = some o' → j < k → j ≠ i → o'.dst ≠ some d := by
  unfold planOK2 at h
  rw [Bool.and_eq_true, List.all_eq_true] at h
  have hh := h.1 i (List.mem_range.2 hi)
  cases ho : ops[i]? with
  | none => rw [ho] at hh; simp at hh
  | some o =>
    rw [ho] at hh
    simp only [Bool.and_eq_true] at hh
    obtain ⟨h1, h2⟩ := hh
    cases hd : o.dst with
    | none => rw [hd] at h2; simp at h2
    | some d =>
      rw [hd] at h2
      simp only [Bool.and_eq_true, decide_eq_true_eq, List.all_eq_true, List.mem_range, Bool.or_eq_true, beq_iff_eq] at h2
      refine ⟨o, d, rfl, hd, h2.1, fun e he hb => ?_, fun j o' hj hjk hne hd' => ?_⟩
      · rw [Array.all_eq_true_iff_forall_mem] at h1
        have := h1 e he
        simp [hb] at this
        exact this
      · rcases h2.2 j hjk with h3 | h3
        · exact hne h3
        · rw [hj] at h3
          simp only at h3
          rw [hd'] at h3
          simp at h3

theorem planOK2_last {ops : Array Oper} {n k i : Nat} {o : Oper} (h : planOK2 ops n k = true) (ho : ops[i]? = some o) (hi : ¬ i < k) : ∀ j, j < k → waits o j = true := by
  unfold planOK2 at h
  rw [Bool.and_eq_true, List.all_eq_true, List.all_eq_true] at h
  have hlt : i < ops.size := (Array.getElem?_eq_some_iff.1 ho).1
  have hh := h.2 i (List.mem_range.2 hlt)
  rw [ho] at hh
  simp only [Bool.or_eq_true, decide_eq_true_eq, hi, false_or, List.all_eq_true, List.mem_range] at hh
  exact hh

structure PlanInvT (ops : Array Oper) (φ : Nat → Value → World → Prop) (X : Act → World → Prop) (a0 : Act) (w0 : World) (k : Nat) (listed : Array Bool) (a : Act) (w : World) : Prop where
  below : Below w0.heap.size w0 w
  same : Same ops a0 a
  size : listed.size = ops.size
  left : ∀ j, j < k → listed.getD j false = true → Left' ops φ a w j
  rest : ∀ i, k ≤ i → listed.getD i false = false
  extra : X a w

/-- What is owed at each of the first k. -/
def OwedT (P : Program) (ops : Array Oper) (Q : Exit → Act → World → Prop) (φ : Nat → Value → World → Prop) (X : Act → World → Prop) (a0 : Act) (w0 : World) : Nat → List Oper → Prop
  | _, [] => True
  | i, o :: r => (∀ a w, Below w0.heap.size w0 w → Same ops a0 a → (∀ j, waits o j = true → Left' ops φ a w j) →
      Region.wanted o (yielded ops a.tmps) = true ∧ o.wp P a w (fun a' w' => ∃ v, a' = a.put o.dst v ∧ Below w.heap.size w w' ∧ φ i v w' ∧ (X a w → X (a.put o.dst v) w')) Q) ∧ OwedT P ops Q φ X a0 w0 (i + 1) r

theorem OwedT.get {P : Program} {ops : Array Oper} {Q : Exit → Act → World → Prop} {φ : Nat → Value → World → Prop} {X : Act → World → Prop} {a0 : Act} {w0 : World} :
    ∀ (l : List Oper) (k : Nat), OwedT P ops Q φ X a0 w0 k l → ∀ i o, l[i]? = some o → ∀ a w, Below w0.heap.size w0 w → Same ops a0 a → (∀ j, waits o j = true → Left' ops φ a w j) →
      Region.wanted o (yielded ops a.tmps) = true ∧ o.wp P a w (fun a' w' => ∃ v, a' = a.put o.dst v ∧ Below w.heap.size w w' ∧ φ (k + i) v w' ∧ (X a w → X (a.put o.dst v) w')) Q
  | [], _, _, i, o, h => by simp at h
  | x :: l, k, hl, 0, o, h => by
    simp at h; subst h; exact hl.1
  | x :: l, k, hl, i + 1, o, h => by
    have := OwedT.get l (k + 1) hl.2 i o (by simpa using h)
    rw [show k + (i + 1) = k + 1 + i by omega]
    exact this

theorem wpAny_planT {P : Program} {ops : Array Oper} {Q : Exit → Act → World → Prop} {φ : Nat → Value → World → Prop} {X : Act → World → Prop} {a0 : Act} {w0 : World} {k : Nat} (hk : k ≤ ops.size) (hok : planOK2 ops a0.tmps.size k = true)
    (hst : ∀ i v w w', φ i v w → Below w.heap.size w w' → φ i v w') (hsteps : OwedT P ops Q φ X a0 w0 0 (ops.toList.take k))
    (hend : ∀ fuel listed a w, openCount ops listed ≤ fuel → listed.size = ops.size → (∀ i, i < ops.size → listed.getD i false = decide (i < k)) → Below w0.heap.size w0 w → Same ops a0 a → (∀ j, j < k → Left' ops φ a w j) → X a w → wpAny P .any ops Q fuel listed a w) :
    ∀ (fuel : Nat) (listed : Array Bool) (a : Act) (w : World), openCount ops listed ≤ fuel → PlanInvT ops φ X a0 w0 k listed a w → wpAny P .any ops Q fuel listed a w := by
  intro fuel
  induction fuel with
  | zero =>
    intro listed a w hc hinv
    refine hend 0 listed a w hc hinv.size (fun i hi => ?_) hinv.below hinv.same (fun j hj => ?_) hinv.extra
    all_goals (
      have hall : ∀ j, j < k → listed.getD j false = true := fun j hj => by
        rcases Bool.eq_false_or_eq_true (listed.getD j false) with h | h
        · exact h
        · exfalso
          have := open_less hinv.size (show j < ops.size by omega) (by rw [getD_dflt (by rw [hinv.size]; omega)]; exact h)
          omega)
    · by_cases hik : i < k
      · rw [hall i hik]; simp [hik]
      · rw [hinv.rest i (by omega)]; simp [hik]
    · exact hinv.left j hj (hall j hj)
  | succ fuel ih =>
    intro listed a w hc hinv
    by_cases hall : ∀ j, j < k → listed.getD j false = true
    · refine hend _ listed a w hc hinv.size (fun i hi => ?_) hinv.below hinv.same (fun j hj => hinv.left j hj (hall j hj)) hinv.extra
      by_cases hik : i < k
      · rw [hall i hik]; simp [hik]
      · rw [hinv.rest i (by omega)]; simp [hik]
    · refine ⟨fun hr => ?_, fun i hi => ?_⟩
      · exfalso
        apply hall
        intro j
        induction j using Nat.strongRecOn with
        | ind j ihj =>
          intro hj
          rcases Bool.eq_false_or_eq_true (listed.getD j false) with h | h
          · exact h
          · exfalso
            obtain ⟨o, d, ho, _, _, hbefore, _⟩ := planOK2_first hok hj
            have : j ∈ Region.ready .any ops listed := mem_ready.2 ⟨by rw [getD_dflt (by rw [hinv.size]; omega)]; exact h, o, ho, fun e he hb => by
              have hlt := hbefore e he hb
              exact ihj e.on hlt (by omega)⟩
            rw [hr] at this
            simp at this
      · obtain ⟨h1, o, ho, hdeps⟩ := mem_ready.1 hi
        have hlt : i < ops.size := (Array.getElem?_eq_some_iff.1 ho).1
        have waited : ∀ j, waits o j = true → listed.getD j false = true := fun j hj => by
          unfold waits at hj
          rw [List.any_eq_true] at hj
          obtain ⟨x, hx, hj⟩ := hj
          simp only [Bool.and_eq_true, beq_iff_eq] at hj
          obtain ⟨rfl, hb⟩ := hj
          exact hdeps _ (Array.mem_toList_iff.1 hx) hb
        have hik : i < k := by
          rcases Nat.lt_or_ge i k with h | h
          · exact h
          · exact absurd (fun j hj => waited j (planOK2_last hok ho (by omega) j hj)) hall
        obtain ⟨o', d, ho', hd, hdn, hbefore, hapart⟩ := planOK2_first hok hik
        rw [ho] at ho'; cases ho'
        have howed := OwedT.get _ 0 hsteps i o (by rw [List.getElem?_take_of_lt hik]; simpa using ho)
        rw [Nat.zero_add] at howed
        obtain ⟨hw, hwp⟩ := howed a w hinv.below hinv.same (fun j hj => by
          have hl := waited j hj
          rcases Nat.lt_or_ge j k with h | h
          · exact hinv.left j h hl
          · rw [hinv.rest j h] at hl; cases hl)
        unfold wpOp
        simp only [ho, hw, if_true]
        refine Or.inl (Oper.wp_mono (fun a' w' h' => ?_) hwp)
        obtain ⟨v, rfl, hbel, hphi, hx⟩ := h'
        have hcnt := open_less hinv.size hlt h1
        refine ih _ _ _ (by omega) ⟨hinv.below.trans (hbel.mono hinv.below.size), ?_, by simp [hinv.size], fun j hjk hj => ?_, fun j hj => by rw [getD_set_ne false (by omega)]; exact hinv.rest j hj, hx hinv.extra⟩
        · rw [hd]
          refine ⟨hinv.same.defers, by simp [Act.put, hinv.same.size], fun t ht => ?_⟩
          have htd : t ≠ d := by
            rintro rfl
            unfold outer at ht
            rw [List.all_eq_true] at ht
            have := ht o (by rw [Array.mem_toList_iff]; exact Array.mem_of_getElem? ho)
            rw [hd] at this
            simp at this
          rw [slot_put_other _ _ _ _ htd]
          exact hinv.same.slots t ht
        · by_cases hji : j = i
          · subst hji
            unfold Left'
            rw [ho]
            simp only [hd]
            rw [slot_put_same _ _ _ (by rw [hinv.same.size]; exact hdn)]
            exact hphi
          · rw [getD_set_ne false (by omega)] at hj
            have hleft := hinv.left j hjk hj
            unfold Left' at hleft ⊢
            cases hoj : ops[j]? with
            | none => rw [hoj] at hleft; exact hleft
            | some oj =>
              rw [hoj] at hleft
              simp only at hleft ⊢
              cases hdj : oj.dst with
              | none => rw [hdj] at hleft; exact hleft
              | some dj =>
                rw [hdj] at hleft
                simp only at hleft ⊢
                rw [hd, slot_put_other _ _ _ _ (by rintro rfl; exact hapart j oj hoj hjk hji hdj)]
                exact hst _ _ _ _ hleft hbel

theorem wp_region_planT {P : Program} {id : Nat} {ops : Array Oper} {Q : Exit → Act → World → Prop} {a0 : Act} {w0 : World} (k : Nat) (φ : Nat → Value → World → Prop) (X : Act → World → Prop) (hX : X a0 w0.drew) (hm : P.follows .mixedOrders = true) (hk : k ≤ ops.size) (hok : planOK2 ops a0.tmps.size k = true)
    (hst : ∀ i v w w', φ i v w → Below w.heap.size w w' → φ i v w') (hsteps : OwedT P ops Q φ X a0 w0 0 (ops.toList.take k))
    (hend : ∀ fuel listed a w, openCount ops listed ≤ fuel → listed.size = ops.size → (∀ i, i < ops.size → listed.getD i false = decide (i < k)) → Below w0.heap.size w0 w → Same ops a0 a → (∀ j, j < k → Left' ops φ a w j) → X a w → wpAny P .any ops Q fuel listed a w) : (Code.region id ops true).wp P Q a0 w0 := by
  refine wp_region_any hm (wpAny_planT hk hok hst hsteps hend _ _ _ _ ?_ ⟨(Below.refl _ _).drew, ⟨rfl, rfl, fun _ _ => rfl⟩, by simp, fun j _ hj => ?_, fun i hi => ?_, hX⟩)
  · exact Nat.le_trans (List.countP_le_length) (by simp)
  · exfalso
    simp [Array.getD] at hj
  · simp [Array.getD]

/-- An operation that owes a value, with the one more thing that is kept. -/
theorem does_extra {P : Program} {ops : Array Oper} {Q : Exit → Act → World → Prop} {o : Oper} {a : Act} {w : World} {p : Value → World → Prop} {X : Act → World → Prop} (h : Does P ops Q p o a w) (hx : ∀ v w', Below w.heap.size w w' → X a w → X (a.put o.dst v) w') :
    Region.wanted o (yielded ops a.tmps) = true ∧ o.wp P a w (fun a' w' => ∃ v, a' = a.put o.dst v ∧ Below w.heap.size w w' ∧ p v w' ∧ (X a w → X (a.put o.dst v) w')) Q := by
  refine ⟨h.1, Oper.wp_mono (fun a' w' h' => ?_) h.2⟩
  obtain ⟨v, rfl, hb, hp⟩ := h'
  exact ⟨v, rfl, hb, hp, hx v w' hb⟩

theorem runs_extra {P : Program} {ops : Array Oper} {Q : Exit → Act → World → Prop} {o : Oper} {a : Act} {w w' : World} {p : Value → World → Prop} {X : Act → World → Prop} {v : Value} (hw : Region.wanted o (yielded ops a.tmps) = true) (hrun : (execOp a.eval o).run P w = .ok (.value v) w') (hb : Below w.heap.size w w') (hp : p v w') (hx : X a w → X (a.put o.dst v) w') :
    Region.wanted o (yielded ops a.tmps) = true ∧ o.wp P a w (fun a' w' => ∃ v, a' = a.put o.dst v ∧ Below w.heap.size w w' ∧ p v w' ∧ (X a w → X (a.put o.dst v) w')) Q := by
  refine ⟨hw, ?_⟩
  unfold Oper.wp
  rw [hrun]
  exact ⟨v, rfl, hb, hp, hx⟩

/-- The slots s and t hold pointers to blocks that there are, and not to one. -/
def Apart (s t : Nat) (a : Act) (w : World) : Prop :=
  (∀ g, slot a s = .pointer (some ⟨g, 0, none⟩) → g < w.heap.size) ∧ (∀ g, slot a t = .pointer (some ⟨g, 0, none⟩) → g < w.heap.size) ∧ ∀ g, ¬ (slot a s = .pointer (some ⟨g, 0, none⟩) ∧ slot a t = .pointer (some ⟨g, 0, none⟩))

theorem apart_other {s t d : Nat} {a : Act} {w w' : World} {v : Value} (hs : s ≠ d) (ht : t ≠ d) (hb : Below w.heap.size w w') (h : Apart s t a w) : Apart s t (a.put (some d) v) w' := by
  unfold Apart at *
  rw [slot_put_other _ _ _ _ hs, slot_put_other _ _ _ _ ht]
  exact ⟨fun g hg => Nat.lt_of_lt_of_le (h.1 g hg) hb.size, fun g hg => Nat.lt_of_lt_of_le (h.2.1 g hg) hb.size, h.2.2⟩

theorem apart_left {s t : Nat} {a : Act} {w : World} {o : Obj} (hst : t ≠ s) (hs : s < a.tmps.size) (h : Apart s t a w) : Apart s t (a.put (some s) (.pointer (some ⟨w.heap.size, 0, none⟩))) (w.alloc o) := by
  unfold Apart at *
  rw [slot_put_same _ _ _ hs, slot_put_other _ _ _ _ hst]
  refine ⟨fun g hg => ?_, fun g hg => ?_, fun g hg => ?_⟩
  · simp at hg; simp; omega
  · have := h.2.1 g hg; simp; omega
  · have h1 := h.2.1 g hg.2
    have h2 := hg.1
    simp at h2
    omega

theorem apart_right {s t : Nat} {a : Act} {w : World} {o : Obj} (hst : s ≠ t) (ht : t < a.tmps.size) (h : Apart s t a w) : Apart s t (a.put (some t) (.pointer (some ⟨w.heap.size, 0, none⟩))) (w.alloc o) := by
  unfold Apart at *
  rw [slot_put_same _ _ _ ht, slot_put_other _ _ _ _ hst]
  refine ⟨fun g hg => ?_, fun g hg => ?_, fun g hg => ?_⟩
  · have := h.1 g hg; simp; omega
  · simp at hg; simp; omega
  · have h1 := h.1 g hg.1
    have h2 := hg.2
    simp at h2
    omega

end Go.Proofs.Ytpgiekjkmfbmaaa.PB
