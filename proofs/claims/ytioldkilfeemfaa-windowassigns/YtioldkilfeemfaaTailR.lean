/-
  What is proved here: a law for a statement whose order is left open, with one thing more than the law of text Tail: an operation may change memory by a relation of its own, if what the others have left lasts under it.
-/
import Derived.Test.YtioldkilfeemfaaTail
namespace Go.Proofs.Ytioldkilfeemfaa.PR
open Go.RowKit Go.Proofs.Ytioldkilfeemfaa.PB Go.Proofs.Ytioldkilfeemfaa.PT
set_option linter.unusedVariables false

/-- What an operation owes, in the state a, w, under its own relation. -/
def DoesR (P : Program) (ops : Array Oper) (Q : Exit → Act → World → Prop) (r : World → World → Prop) (p : Value → World → Prop) (o : Oper) (a : Act) (w : World) : Prop :=
  Region.wanted o (yielded ops a.tmps) = true ∧ o.wp P a w (fun a' w' => ∃ v, a' = a.put o.dst v ∧ r w w' ∧ p v w') Q

theorem of_does {P : Program} {ops : Array Oper} {Q : Exit → Act → World → Prop} {r : World → World → Prop} {p : Value → World → Prop} {o : Oper} {a : Act} {w : World} (h : Does P ops Q p o a w) (hr : ∀ w', Below w.heap.size w w' → r w w') : DoesR P ops Q r p o a w :=
  ⟨h.1, Oper.wp_mono (fun a' w' ⟨v, h1, h2, h3⟩ => ⟨v, h1, hr w' h2, h3⟩) h.2⟩

/-- What is owed at each of the first k. -/
def Owed (P : Program) (ops : Array Oper) (Q : Exit → Act → World → Prop) (R : Nat → World → World → Prop) (φ : Nat → Value → World → Prop) (k : Nat) (a0 : Act) (w0 : World) : Nat → List Oper → Prop
  | _, [] => True
  | i, o :: r => (∀ a w, Below w0.heap.size w0 w → SameK ops k a0 a → (∀ j, waits o j = true → Left' ops φ a w j) →
      (∀ (j : Nat) (o' : Oper) (d : Nat), ops[j]? = some o' → j < k → waits o' i = true → o'.dst = some d → slot a d = slot a0 d) →
      DoesR P ops Q (R i) (φ i) o a w ∨ (Region.wanted o (yielded ops a.tmps) = false ∧ φ i undef w)) ∧ Owed P ops Q R φ k a0 w0 (i + 1) r

theorem Owed.get {P : Program} {ops : Array Oper} {Q : Exit → Act → World → Prop} {R : Nat → World → World → Prop} {φ : Nat → Value → World → Prop} {m : Nat} {a0 : Act} {w0 : World} :
    ∀ (l : List Oper) (k : Nat), Owed P ops Q R φ m a0 w0 k l → ∀ i o, l[i]? = some o → ∀ a w, Below w0.heap.size w0 w → SameK ops m a0 a → (∀ j, waits o j = true → Left' ops φ a w j) →
      (∀ (j : Nat) (o' : Oper) (d : Nat), ops[j]? = some o' → j < m → waits o' (k + i) = true → o'.dst = some d → slot a d = slot a0 d) →
      DoesR P ops Q (R (k + i)) (φ (k + i)) o a w ∨ (Region.wanted o (yielded ops a.tmps) = false ∧ φ (k + i) undef w)
  | [], _, _, i, o, h => by simp at h
  | x :: l, k, hl, 0, o, h => by
    simp at h; subst h; exact hl.1
  | x :: l, k, hl, i + 1, o, h => by
    have := Owed.get l (k + 1) hl.2 i o (by simpa using h)
    rw [show k + (i + 1) = k + 1 + i by omega]
    exact this

theorem wpAny_tailR {P : Program} {ops : Array Oper} {Q : Exit → Act → World → Prop} {R : Nat → World → World → Prop} {φ : Nat → Value → World → Prop} {a0 : Act} {w0 : World} {k : Nat} (hok : planOK ops a0.tmps.size k = true)
    (hst : ∀ i j v w w', i ≠ j → (∀ oj, ops[j]? = some oj → waits oj i = false) → φ j v w → R i w w' → φ j v w') (hrb : ∀ i w w', Below w0.heap.size w0 w → R i w w' → Below w0.heap.size w0 w') (hrr : ∀ i w, R i w w) (hsteps : Owed P ops Q R φ k a0 w0 0 (ops.toList.take k))
    (hend : ∀ a w, Below w0.heap.size w0 w → SameK ops k a0 a → (∀ j, j < k → Left' ops φ a w j) → wpList P ops Q (ops.toList.drop k) a w) :
    ∀ (fuel : Nat) (listed : Array Bool) (a : Act) (w : World), openCount ops listed ≤ fuel → Inv ops φ a0 w0 k listed a w → wpAny P .any ops Q fuel listed a w := by
  intro fuel
  have hk := ok_le hok
  have count : ∀ (listed : Array Bool), listed.size = ops.size → (∀ i, i < ops.size → listed.getD i false = decide (i < k)) → openCount ops listed = ops.size - k := by
    intro listed hs hl
    unfold openCount
    have : ∀ n, n ≤ ops.size → (List.range n).countP (fun i => !listed.getD i true) = n - k := by
      intro n
      induction n with
      | zero => intro _; simp
      | succ n ih =>
        intro hn
        rw [List.range_succ, List.countP_append, ih (by omega), List.countP_singleton, getD_dflt (by rw [hs]; omega), hl n (by omega)]
        by_cases h : n < k
        · simp [h]; omega
        · simp [h]; omega
    exact this _ (Nat.le_refl _)
  have fin : ∀ (fuel : Nat) (listed : Array Bool) (a : Act) (w : World), openCount ops listed ≤ fuel → Inv ops φ a0 w0 k listed a w → (∀ j, j < k → listed.getD j false = true) → wpAny P .any ops Q fuel listed a w := by
    intro fuel listed a w hc hinv hall
    have hl : ∀ i, i < ops.size → listed.getD i false = decide (i < k) := fun i hi => by
      by_cases hik : i < k
      · rw [hall i hik]; simp [hik]
      · rw [hinv.rest i (by omega)]; simp [hik]
    refine wpAny_rest hok (ops.size - k) k fuel listed a w (Nat.le_refl _) (by rw [← count listed hinv.size hl]; exact hc) (Nat.le_refl _) hk hinv.size hl (hend a w hinv.below hinv.same fun j hj => hinv.left j hj (hall j hj))
  induction fuel with
  | zero =>
    intro listed a w hc hinv
    refine fin 0 listed a w hc hinv fun j hj => ?_
    rcases Bool.eq_false_or_eq_true (listed.getD j false) with h | h
    · exact h
    · exfalso
      have := open_less hinv.size (show j < ops.size by omega) (by rw [getD_dflt (by rw [hinv.size]; omega)]; exact h)
      omega
  | succ fuel ih =>
    intro listed a w hc hinv
    by_cases hall : ∀ j, j < k → listed.getD j false = true
    · exact fin _ listed a w hc hinv hall
    · refine ⟨fun hr => ?_, fun i hi => ?_⟩
      · exfalso
        apply hall
        intro j
        induction j using Nat.strongRecOn with
        | ind j ihj =>
          intro hj
          rcases Bool.eq_false_or_eq_true (listed.getD j false) with h | h
          · exact h
          · exfalso
            have ho : ops[j]? = some ops[j] := Array.getElem?_eq_getElem (by omega)
            have : j ∈ Region.ready .any ops listed := mem_ready.2 ⟨by rw [getD_dflt (by rw [hinv.size]; omega)]; exact h, _, ho, fun e he hb => by
              have hlt := (ok_at hok ho).1 e he hb
              exact ihj e.on hlt (by omega)⟩
            rw [hr] at this
            simp at this
      · obtain ⟨h1, o, ho, hdeps⟩ := mem_ready.1 hi
        have hlt : i < ops.size := (Array.getElem?_eq_some_iff.1 ho).1
        have waited : ∀ j, waits o j = true → listed.getD j false = true := fun j hj => by
          unfold waits at hj
          rw [List.any_eq_true] at hj
          obtain ⟨x, hx, hj⟩ := hj
          simp only [Bool.and_eq_true, beq_iff_eq] at hj
          obtain ⟨rfl, hb⟩ := hj
          exact hdeps _ (Array.mem_toList_iff.1 hx) hb
        have hik : i < k := by
          rcases Nat.lt_or_ge i k with h | h
          · exact h
          · refine absurd (fun j hj => ?_) hall
            have hn := ((ok_at hok ho).2.2 (by omega)).1 j hj
            obtain ⟨s, hs⟩ : ∃ s, ops.size = s + 1 := ⟨ops.size - 1, by omega⟩
            rw [hs] at hn
            unfold needs at hn
            rw [ho] at hn
            simp only [List.any_eq_true, Bool.and_eq_true, Bool.or_eq_true, beq_iff_eq] at hn
            obtain ⟨e, he, hb, h' | h'⟩ := hn
            · rw [← h']; exact hdeps e (Array.mem_toList_iff.1 he) hb
            · exact needs_listed hinv.closed s e.on j (hdeps e (Array.mem_toList_iff.1 he) hb) h'
        obtain ⟨d, hd, hdn, hapart⟩ := (ok_at hok ho).2.1 hik
        have hbefore := (ok_at hok ho).1
        have howed := Owed.get _ 0 hsteps i o (by rw [List.getElem?_take_of_lt hik]; simpa using ho)
        rw [Nat.zero_add] at howed
        have goOn : ∀ v w', R i w w' → φ i v w' → wpAny P .any ops Q fuel (listed.setIfInBounds i true) (a.put o.dst v) w' := by
          intro v w' hbel hphi
          have hcnt := open_less hinv.size hlt h1
          refine ih _ _ _ (by omega) ⟨hrb i _ _ hinv.below hbel, ?_, by simp [hinv.size], fun j hjk hj => ?_, fun j hj => by rw [getD_set_ne false (by omega)]; exact hinv.rest j hj, fun j o' hoj hlj x hx hb => ?_, fun j o' dj hoj hjk hlj hdj => ?_⟩
          · rw [hd]
            refine ⟨hinv.same.defers, by simp [Act.put, hinv.same.size], fun t ht => ?_⟩
            have htd : t ≠ d := by
              rintro rfl
              unfold outerK at ht
              rw [List.all_eq_true] at ht
              have hmem : o ∈ ops.toList.take k := List.mem_of_getElem? (i := i) (by rw [List.getElem?_take_of_lt hik]; simpa using ho)
              have := ht o hmem
              rw [hd] at this
              simp at this
            rw [slot_put_other _ _ _ _ htd]
            exact hinv.same.slots t ht
          · by_cases hji : j = i
            · subst hji
              unfold Left'
              rw [ho]
              simp only [hd]
              rw [slot_put_same _ _ _ (by rw [hinv.same.size]; exact hdn)]
              exact hphi
            · rw [getD_set_ne false (by omega)] at hj
              have hleft := hinv.left j hjk hj
              unfold Left' at hleft ⊢
              cases hoj : ops[j]? with
              | none => rw [hoj] at hleft; exact hleft
              | some oj =>
                rw [hoj] at hleft
                simp only at hleft ⊢
                cases hdj : oj.dst with
                | none => rw [hdj] at hleft; exact hleft
                | some dj =>
                  rw [hdj] at hleft
                  simp only at hleft ⊢
                  rw [hd, slot_put_other _ _ _ _ (by rintro rfl; exact hapart j oj hoj hjk hji hdj)]
                  refine hst i j _ _ _ (Ne.symm hji) (fun o'' ho'' => ?_) hleft hbel
                  rw [hoj] at ho''; cases ho''
                  rcases Bool.eq_false_or_eq_true (waits oj i) with hwj | hwj
                  · exfalso
                    unfold waits at hwj
                    rw [List.any_eq_true] at hwj
                    obtain ⟨x, hx, hq⟩ := hwj
                    simp only [Bool.and_eq_true, beq_iff_eq] at hq
                    obtain ⟨hxi, hb⟩ := hq
                    have := hinv.closed j oj hoj hj x (Array.mem_toList_iff.1 hx) hb
                    rw [hxi, ← getD_dflt (by rw [hinv.size]; exact hlt), h1] at this
                    cases this
                  · exact hwj
          · have hxl : listed.getD x.on false = true := by
              by_cases hji : j = i
              · subst hji
                rw [ho] at hoj; cases hoj
                exact hdeps x hx hb
              · rw [getD_set_ne false (by omega)] at hlj
                exact hinv.closed j o' hoj hlj x hx hb
            by_cases hxi : x.on = i
            · rw [hxi]; simp [Array.getD, hinv.size, hlt]
            · rw [getD_set_ne false (by omega)]; exact hxl
          · by_cases hji : j = i
            · subst hji
              exfalso
              simp [Array.getD, hinv.size, hlt] at hlj
            · rw [getD_set_ne false (by omega)] at hlj
              rw [hd, slot_put_other _ _ _ _ (by rintro rfl; exact hapart j o' hoj hjk hji hdj)]
              exact hinv.fresh j o' dj hoj hjk hlj hdj
        unfold wpOp
        rcases howed a w hinv.below hinv.same (fun j hj => by
          have hl := waited j hj
          rcases Nat.lt_or_ge j k with h | h
          · exact hinv.left j h hl
          · rw [hinv.rest j h] at hl; cases hl) (fun j o' dj hoj hjk hwj hdj => by
          refine hinv.fresh j o' dj hoj hjk ?_ hdj
          rcases Bool.eq_false_or_eq_true (listed.getD j false) with hlj | hlj
          · exfalso
            unfold waits at hwj
            rw [List.any_eq_true] at hwj
            obtain ⟨x, hx, hj⟩ := hwj
            simp only [Bool.and_eq_true, beq_iff_eq] at hj
            obtain ⟨hxi, hb⟩ := hj
            have := hinv.closed j o' hoj hlj x (Array.mem_toList_iff.1 hx) hb
            rw [hxi, ← getD_dflt (by rw [hinv.size]; exact hlt), h1] at this
            cases this
          · exact hlj) with ⟨hw, hwp⟩ | ⟨hw, hphi⟩
        · simp only [ho, hw, if_true]
          refine Or.inl (Oper.wp_mono (fun a' w' h' => ?_) hwp)
          obtain ⟨v, rfl, hbel, hphi⟩ := h'
          exact goOn v w' hbel hphi
        · simp only [ho, hw, Bool.false_eq_true, if_false]
          exact goOn undef w (hrr i w) hphi

/-- THE LAW. -/
theorem wp_region_tailR {P : Program} {id : Nat} {ops : Array Oper} {Q : Exit → Act → World → Prop} {a0 : Act} {w0 : World} (k : Nat) (R : Nat → World → World → Prop) (φ : Nat → Value → World → Prop) (hm : P.follows .mixedOrders = true) (hok : planOK ops a0.tmps.size k = true)
    (hst : ∀ i j v w w', i ≠ j → (∀ oj, ops[j]? = some oj → waits oj i = false) → φ j v w → R i w w' → φ j v w') (hrb : ∀ i w w', Below w0.heap.size w0 w → R i w w' → Below w0.heap.size w0 w') (hrr : ∀ i w, R i w w) (hsteps : Owed P ops Q R φ k a0 w0 0 (ops.toList.take k))
    (hend : ∀ a w, Below w0.heap.size w0 w → SameK ops k a0 a → (∀ j, j < k → Left' ops φ a w j) → wpList P ops Q (ops.toList.drop k) a w) : (Code.region id ops true).wp P Q a0 w0 := by
  refine wp_region_any hm (wpAny_tailR hok hst hrb hrr hsteps hend _ _ _ _ ?_ ⟨(Below.refl _ _).drew, ⟨rfl, rfl, fun _ _ => rfl⟩, by simp, fun j _ hj => ?_, fun i hi => ?_, fun j o' _ hj => ?_, fun _ _ _ _ _ _ _ => rfl⟩)
  · exact Nat.le_trans (List.countP_le_length) (by simp)
  · exfalso
    simp [Array.getD] at hj
  · simp [Array.getD]
  · exfalso
    simp [Array.getD] at hj

end Go.Proofs.Ytioldkilfeemfaa.PR
