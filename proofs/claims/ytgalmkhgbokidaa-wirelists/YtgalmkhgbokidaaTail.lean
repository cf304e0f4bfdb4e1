/-
  What is proved here: a law for a statement whose order is left open: the first k operations may come in any order (each leaves a value with a property that lasts while memory only grows, or is passed over), each of the others waits for all of these and for the one ahead of it, so they come in the text's order.
-/
import Derived.Test.YtgalmkhgbokidaaPlanB
import Derived.Tactics
namespace Go.Proofs.Ytgalmkhgbokidaa.PT
open Go.RowKit PB
set_option linter.unusedVariables false

/-- None of the first k operations writes the slot t. -/
def outerK (ops : Array Oper) (k t : Nat) : Bool := (ops.toList.take k).all fun o => o.dst != some t

/-- Operation i waits for j, at once or through others. -/
def needs (ops : Array Oper) : Nat → Nat → Nat → Bool
  | 0, _, _ => false
  | f + 1, i, j => match ops[i]? with
    | none => false
    | some o => o.after.toList.any fun e => Region.binds .any e && (e.on == j || needs ops f e.on j)

def planOK (ops : Array Oper) (n k : Nat) : Bool :=
  decide (k ≤ ops.size) &&
  ((List.range ops.size).all fun i => match ops[i]? with
    | none => false
    | some o => (o.after.all fun e => !Region.binds .any e || decide (e.on < i)) &&
      (if i < k then match o.dst with
        | none => false
        | some d => decide (d < n) && (List.range k).all fun j => (j == i) || match ops[j]? with
          | none => false
          | some o' => o'.dst != some d
       else ((List.range k).all fun j => needs ops ops.size i j) && (decide (i = k) || waits o (i - 1))))

theorem ok_le {ops : Array Oper} {n k : Nat} (h : planOK ops n k = true) : k ≤ ops.size := by
  unfold planOK at h
  simp only [Bool.and_eq_true, decide_eq_true_eq] at h
  exact h.1

theorem ok_at {ops : Array Oper} {n k i : Nat} {o : Oper} (h : planOK ops n k = true) (ho : ops[i]? = some o) :
    (∀ e ∈ o.after, Region.binds .any e = true → e.on < i) ∧
    (i < k → ∃ d, o.dst = some d ∧ d < n ∧ ∀ j o', ops[j]? = some o' → j < k → j ≠ i → o'.dst ≠ some d) ∧
    (¬ i < k → (∀ j, j < k → needs ops ops.size i j = true) ∧ (i = k ∨ waits o (i - 1) = true)) := by
  unfold planOK at h
  rw [Bool.and_eq_true, List.all_eq_true] at h
  have hlt : i < ops.size := (Array.getElem?_eq_some_iff.1 ho).1
  have hh := h.2 i (List.mem_range.2 hlt)
  rw [ho] at hh
  simp only [Bool.and_eq_true] at hh
  obtain ⟨h1, h2⟩ := hh
  refine ⟨fun e he hb => ?_, fun hik => ?_, fun hik => ?_⟩
  · rw [Array.all_eq_true_iff_forall_mem] at h1
    have := h1 e he
    simp [hb] at this
    exact this
  · rw [if_pos hik] at h2
    cases hd : o.dst with
    | none => rw [hd] at h2; simp at h2
    | some d =>
      rw [hd] at h2
      simp only [Bool.and_eq_true, decide_eq_true_eq, List.all_eq_true, List.mem_range, Bool.or_eq_true, beq_iff_eq] at h2
      refine ⟨d, rfl, h2.1, fun j o' hj hjk hne hd' => ?_⟩
      rcases h2.2 j hjk with h3 | h3
      · exact hne h3
      · rw [hj] at h3
        simp only at h3
        rw [hd'] at h3
        simp at h3
  · rw [if_neg hik] at h2
    simp only [Bool.and_eq_true, List.all_eq_true, List.mem_range, Bool.or_eq_true, decide_eq_true_eq] at h2
    exact h2

def Closed (ops : Array Oper) (listed : Array Bool) : Prop := ∀ (j : Nat) (o' : Oper), ops[j]? = some o' → listed.getD j false = true → ∀ x ∈ o'.after, Region.binds .any x = true → listed.getD x.on false = true

theorem needs_listed {ops : Array Oper} {listed : Array Bool} (hc : Closed ops listed) : ∀ (f i j : Nat), listed.getD i false = true → needs ops f i j = true → listed.getD j false = true
  | 0, _, _, _, h => by simp [needs] at h
  | f + 1, i, j, hi, h => by
    unfold needs at h
    cases ho : ops[i]? with
    | none => rw [ho] at h; simp at h
    | some o =>
      rw [ho] at h
      simp only [List.any_eq_true, Bool.and_eq_true, Bool.or_eq_true, beq_iff_eq] at h
      obtain ⟨e, he, hb, h | h⟩ := h
      · rw [← h]; exact hc i o ho hi e (Array.mem_toList_iff.1 he) hb
      · exact needs_listed hc f e.on j (hc i o ho hi e (Array.mem_toList_iff.1 he) hb) h

/-- What is known of the frame. -/
structure SameK (ops : Array Oper) (k : Nat) (a0 a : Act) : Prop where
  defers : a.defers = a0.defers
  size : a.tmps.size = a0.tmps.size
  slots : ∀ t, outerK ops k t = true → slot a t = slot a0 t

structure Inv (ops : Array Oper) (φ : Nat → Value → World → Prop) (a0 : Act) (w0 : World) (k : Nat) (listed : Array Bool) (a : Act) (w : World) : Prop where
  below : Below w0.heap.size w0 w
  same : SameK ops k a0 a
  size : listed.size = ops.size
  left : ∀ j, j < k → listed.getD j false = true → Left' ops φ a w j
  rest : ∀ i, k ≤ i → listed.getD i false = false
  closed : Closed ops listed
  fresh : ∀ (j : Nat) (o' : Oper) (d : Nat), ops[j]? = some o' → j < k → listed.getD j false = false → o'.dst = some d → slot a d = slot a0 d

/-- What is owed at each of the first k. -/
def Owed (P : Program) (ops : Array Oper) (Q : Exit → Act → World → Prop) (φ : Nat → Value → World → Prop) (k : Nat) (a0 : Act) (w0 : World) : Nat → List Oper → Prop
  | _, [] => True
  | i, o :: r => (∀ a w, Below w0.heap.size w0 w → SameK ops k a0 a → (∀ j, waits o j = true → Left' ops φ a w j) →
      (∀ (j : Nat) (o' : Oper) (d : Nat), ops[j]? = some o' → j < k → waits o' i = true → o'.dst = some d → slot a d = slot a0 d) →
      Does P ops Q (φ i) o a w ∨ (Region.wanted o (yielded ops a.tmps) = false ∧ φ i undef w)) ∧ Owed P ops Q φ k a0 w0 (i + 1) r

theorem Owed.get {P : Program} {ops : Array Oper} {Q : Exit → Act → World → Prop} {φ : Nat → Value → World → Prop} {m : Nat} {a0 : Act} {w0 : World} :
    ∀ (l : List Oper) (k : Nat), Owed P ops Q φ m a0 w0 k l → ∀ i o, l[i]? = some o → ∀ a w, Below w0.heap.size w0 w → SameK ops m a0 a → (∀ j, waits o j = true → Left' ops φ a w j) →
      (∀ (j : Nat) (o' : Oper) (d : Nat), ops[j]? = some o' → j < m → waits o' (k + i) = true → o'.dst = some d → slot a d = slot a0 d) →
      Does P ops Q (φ (k + i)) o a w ∨ (Region.wanted o (yielded ops a.tmps) = false ∧ φ (k + i) undef w)
  | [], _, _, i, o, h => by simp at h
  | x :: l, k, hl, 0, o, h => by
    simp at h; subst h; exact hl.1
  | x :: l, k, hl, i + 1, o, h => by
    have := Owed.get l (k + 1) hl.2 i o (by simpa using h)
    rw [show k + (i + 1) = k + 1 + i by omega]
    exact this

/-- The rest comes in the text's order. -/
theorem wpAny_rest {P : Program} {ops : Array Oper} {Q : Exit → Act → World → Prop} {n k : Nat} (hok : planOK ops n k = true) :
    ∀ (c m fuel : Nat) (listed : Array Bool) (a : Act) (w : World), ops.size - m ≤ c → c ≤ fuel → k ≤ m → m ≤ ops.size → listed.size = ops.size → (∀ i, i < ops.size → listed.getD i false = decide (i < m)) →
      wpList P ops Q (ops.toList.drop m) a w → wpAny P .any ops Q fuel listed a w := by
  intro c
  induction c with
  | zero =>
    intro m fuel listed a w h1 h2 h3 h4 hs hl hq
    have hm : m = ops.size := by omega
    subst hm
    rw [List.drop_of_length_le (by simp)] at hq
    have hr : Region.ready .any ops listed = [] := by
      rw [List.eq_nil_iff_forall_not_mem]
      intro i hi
      obtain ⟨h1, o, ho, _⟩ := mem_ready.1 hi
      have hlt : i < ops.size := (Array.getElem?_eq_some_iff.1 ho).1
      rw [getD_dflt (by rw [hs]; exact hlt), hl i hlt] at h1
      simp [hlt] at h1
    cases fuel with
    | zero => exact ⟨hr, hq⟩
    | succ f => exact ⟨fun _ => hq, fun i hi => by rw [hr] at hi; cases hi⟩
  | succ c ih =>
    intro m fuel listed a w h1 h2 h3 h4 hs hl hq
    by_cases hm : m = ops.size
    · exact ih m fuel listed a w (by omega) (by omega) h3 h4 hs hl hq
    · obtain ⟨f, rfl⟩ : ∃ f, fuel = f + 1 := ⟨fuel - 1, by omega⟩
      have hmlt : m < ops.size := by omega
      have ho : ops[m]? = some ops[m] := Array.getElem?_eq_getElem hmlt
      have hk := ok_at hok ho
      refine ⟨fun hr => ?_, fun i hi => ?_⟩
      · exfalso
        have : m ∈ Region.ready .any ops listed := mem_ready.2 ⟨by rw [getD_dflt (by rw [hs]; exact hmlt), hl m hmlt]; simp, _, ho, fun e he hb => by
          have hlt := hk.1 e he hb
          rw [hl e.on (by omega)]; simp [hlt]⟩
        rw [hr] at this
        simp at this
      · obtain ⟨g1, o, hio, hdeps⟩ := mem_ready.1 hi
        have hilt : i < ops.size := (Array.getElem?_eq_some_iff.1 hio).1
        rw [getD_dflt (by rw [hs]; exact hilt), hl i hilt] at g1
        simp at g1
        have him : i = m := by
          rcases Nat.lt_or_ge m i with h | h
          · exfalso
            rcases ((ok_at hok hio).2.2 (by omega)).2 with e | e
            · omega
            · unfold waits at e
              rw [List.any_eq_true] at e
              obtain ⟨x, hx, hj⟩ := e
              simp only [Bool.and_eq_true, beq_iff_eq] at hj
              have := hdeps x (Array.mem_toList_iff.1 hx) hj.2
              rw [hj.1, hl (i - 1) (by omega)] at this
              simp at this
              omega
          · omega
        subst him
        rw [ho] at hio; cases hio
        rw [← List.getElem_cons_drop (by simpa using hmlt)] at hq
        unfold wpList at hq
        unfold wpOp
        simp only [ho]
        have go : ∀ a w, wpList P ops Q (ops.toList.drop (i + 1)) a w → wpAny P .any ops Q f (listed.setIfInBounds i true) a w := fun a w h => by
          refine ih (i + 1) f _ a w (by omega) (by omega) (by omega) (by omega) (by simp [hs]) (fun j hj => ?_) h
          by_cases hji : j = i
          · subst hji; simp [Array.getD, hs, hj]
          · rw [getD_set_ne false (by omega), hl j hj]
            have : (j < i) ↔ (j < i + 1) := by omega
            simp [this]
        have e : (ops.toList[i]'(by simpa using hmlt)) = ops[i] := by simp
        rw [e] at hq
        split
        · rename_i hw
          rw [if_pos hw] at hq
          rcases hq with hq | hq
          · exact Or.inl (Oper.wp_mono go hq)
          · exact Or.inr hq
        · rename_i hw
          rw [if_neg hw] at hq
          exact go _ _ hq

theorem wpAny_tail {P : Program} {ops : Array Oper} {Q : Exit → Act → World → Prop} {φ : Nat → Value → World → Prop} {a0 : Act} {w0 : World} {k : Nat} (hok : planOK ops a0.tmps.size k = true)
    (hst : ∀ i v w w', φ i v w → Below w.heap.size w w' → φ i v w') (hsteps : Owed P ops Q φ k a0 w0 0 (ops.toList.take k))
    (hend : ∀ a w, Below w0.heap.size w0 w → SameK ops k a0 a → (∀ j, j < k → Left' ops φ a w j) → wpList P ops Q (ops.toList.drop k) a w) :
    ∀ (fuel : Nat) (listed : Array Bool) (a : Act) (w : World), openCount ops listed ≤ fuel → Inv ops φ a0 w0 k listed a w → wpAny P .any ops Q fuel listed a w := by
  intro fuel
  have hk := ok_le hok
  have count : ∀ (listed : Array Bool), listed.size = ops.size → (∀ i, i < ops.size → listed.getD i false = decide (i < k)) → openCount ops listed = ops.size - k := by
    intro listed hs hl
    unfold openCount
    have : ∀ n, n ≤ ops.size → (List.range n).countP (fun i => !listed.getD i true) = n - k := by
      intro n
      induction n with
      | zero => intro _; simp
      | succ n ih =>
        intro hn
        rw [List.range_succ, List.countP_append, ih (by omega), List.countP_singleton, getD_dflt (by rw [hs]; omega), hl n (by omega)]
        by_cases h : n < k
        · simp [h]; omega
        · simp [h]; omega
    exact this _ (Nat.le_refl _)
  have fin : ∀ (fuel : Nat) (listed : Array Bool) (a : Act) (w : World), openCount ops listed ≤ fuel → Inv ops φ a0 w0 k listed a w → (∀ j, j < k → listed.getD j false = true) → wpAny P .any ops Q fuel listed a w := by
    intro fuel listed a w hc hinv hall
    have hl : ∀ i, i < ops.size → listed.getD i false = decide (i < k) := fun i hi => by
      by_cases hik : i < k
      · rw [hall i hik]; simp [hik]
      · rw [hinv.rest i (by omega)]; simp [hik]
    refine wpAny_rest hok (ops.size - k) k fuel listed a w (Nat.le_refl _) (by rw [← count listed hinv.size hl]; exact hc) (Nat.le_refl _) hk hinv.size hl (hend a w hinv.below hinv.same fun j hj => hinv.left j hj (hall j hj))
  induction fuel with
  | zero =>
    intro listed a w hc hinv
    refine fin 0 listed a w hc hinv fun j hj => ?_
    rcases Bool.eq_false_or_eq_true (listed.getD j false) with h | h
    · exact h
    · exfalso
      have := open_less hinv.size (show j < ops.size by omega) (by rw [getD_dflt (by rw [hinv.size]; omega)]; exact h)
      omega
  | succ fuel ih =>
    intro listed a w hc hinv
    by_cases hall : ∀ j, j < k → listed.getD j false = true
    · exact fin _ listed a w hc hinv hall
    · refine ⟨fun hr => ?_, fun i hi => ?_⟩
      · exfalso
        apply hall
        intro j
        induction j using Nat.strongRecOn with
        | ind j ihj =>
          intro hj
          rcases Bool.eq_false_or_eq_true (listed.getD j false) with h | h
          · exact h
          · exfalso
            have ho : ops[j]? = some ops[j] := Array.getElem?_eq_getElem (by omega)
            have : j ∈ Region.ready .any ops listed := mem_ready.2 ⟨by rw [getD_dflt (by rw [hinv.size]; omega)]; exact h, _, ho, fun e he hb => by
              have hlt := (ok_at hok ho).1 e he hb
              exact ihj e.on hlt (by omega)⟩
            rw [hr] at this
            simp at this
      · obtain ⟨h1, o, ho, hdeps⟩ := mem_ready.1 hi
        have hlt : i < ops.size := (Array.getElem?_eq_some_iff.1 ho).1
        have waited : ∀ j, waits o j = true → listed.getD j false = true := fun j hj => by
          unfold waits at hj
          rw [List.any_eq_true] at hj
          obtain ⟨x, hx, hj⟩ := hj
          simp only [Bool.and_eq_true, beq_iff_eq] at hj
          obtain ⟨rfl, hb⟩ := hj
          exact hdeps _ (Array.mem_toList_iff.1 hx) hb
        have hik : i < k := by
          rcases Nat.lt_or_ge i k with h | h
          · exact h
          · refine absurd (fun j hj => ?_) hall
            have hn := ((ok_at hok ho).2.2 (by omega)).1 j hj
            obtain ⟨s, hs⟩ : ∃ s, ops.size = s + 1 := ⟨ops.size - 1, by omega⟩
            rw [hs] at hn
            unfold needs at hn
            rw [ho] at hn
            simp only [List.any_eq_true, Bool.and_eq_true, Bool.or_eq_true, beq_iff_eq] at hn
            obtain ⟨e, he, hb, h' | h'⟩ := hn
            · rw [← h']; exact hdeps e (Array.mem_toList_iff.1 he) hb
            · exact needs_listed hinv.closed s e.on j (hdeps e (Array.mem_toList_iff.1 he) hb) h'
        obtain ⟨d, hd, hdn, hapart⟩ := (ok_at hok ho).2.1 hik
        have hbefore := (ok_at hok ho).1
        have howed := Owed.get _ 0 hsteps i o (by rw [List.getElem?_take_of_lt hik]; simpa using ho)
        rw [Nat.zero_add] at howed
        have goOn : ∀ v w', Below w.heap.size w w' → φ i v w' → wpAny P .any ops Q fuel (listed.setIfInBounds i true) (a.put o.dst v) w' := by
          intro v w' hbel hphi
          have hcnt := open_less hinv.size hlt h1
          refine ih _ _ _ (by omega) ⟨hinv.below.trans (hbel.mono hinv.below.size), ?_, by simp [hinv.size], fun j hjk hj => ?_, fun j hj => by rw [getD_set_ne false (by omega)]; exact hinv.rest j hj, fun j o' hoj hlj x hx hb => ?_, fun j o' dj hoj hjk hlj hdj => ?_⟩
          · rw [hd]
            refine ⟨hinv.same.defers, by simp [Act.put, hinv.same.size], fun t ht => ?_⟩
            have htd : t ≠ d := by
              rintro rfl
              unfold outerK at ht
              rw [List.all_eq_true] at ht
              have hmem : o ∈ ops.toList.take k := List.mem_of_getElem? (i := i) (by rw [List.getElem?_take_of_lt hik]; simpa using ho)
              have := ht o hmem
              rw [hd] at this
              simp at this
            rw [slot_put_other _ _ _ _ htd]
            exact hinv.same.slots t ht
          · by_cases hji : j = i
            · subst hji
              unfold Left'
              rw [ho]
              simp only [hd]
              rw [slot_put_same _ _ _ (by rw [hinv.same.size]; exact hdn)]
              exact hphi
            · rw [getD_set_ne false (by omega)] at hj
              have hleft := hinv.left j hjk hj
              unfold Left' at hleft ⊢
              cases hoj : ops[j]? with
              | none => rw [hoj] at hleft; exact hleft
              | some oj =>
                rw [hoj] at hleft
                simp only at hleft ⊢
                cases hdj : oj.dst with
                | none => rw [hdj] at hleft; exact hleft
                | some dj =>
                  rw [hdj] at hleft
                  simp only at hleft ⊢
                  rw [hd, slot_put_other _ _ _ _ (by rintro rfl; exact hapart j oj hoj hjk hji hdj)]
                  exact hst _ _ _ _ hleft hbel
          · have hxl : listed.getD x.on false = true := by
              by_cases hji : j = i
              · subst hji
                rw [ho] at hoj; cases hoj
                exact hdeps x hx hb
              · rw [getD_set_ne false (by omega)] at hlj
                exact hinv.closed j o' hoj hlj x hx hb
            by_cases hxi : x.on = i
            · rw [hxi]; simp [Array.getD, hinv.size, hlt]
            · rw [getD_set_ne false (by omega)]; exact hxl
          · by_cases hji : j = i
            · subst hji
              exfalso
              simp [Array.getD, hinv.size, hlt] at hlj
            · rw [getD_set_ne false (by omega)] at hlj
              rw [hd, slot_put_other _ _ _ _ (by rintro rfl; exact hapart j o' hoj hjk hji hdj)]
              exact hinv.fresh j o' dj hoj hjk hlj hdj
        unfold wpOp
        rcases howed a w hinv.below hinv.same (fun j hj => by
          have hl := waited j hj
          rcases Nat.lt_or_ge j k with h | h
          · exact hinv.left j h hl
          · rw [hinv.rest j h] at hl; cases hl) (fun j o' dj hoj hjk hwj hdj => by
          refine hinv.fresh j o' dj hoj hjk ?_ hdj
          rcases Bool.eq_false_or_eq_true (listed.getD j false) with hlj | hlj
          · exfalso
            unfold waits at hwj
            rw [List.any_eq_true] at hwj
            obtain ⟨x, hx, hj⟩ := hwj
            simp only [Bool.and_eq_true, beq_iff_eq] at hj
            obtain ⟨hxi, hb⟩ := hj
            have := hinv.closed j o' hoj hlj x (Array.mem_toList_iff.1 hx) hb
            rw [hxi, ← getD_dflt (by rw [hinv.size]; exact hlt), h1] at this
            cases this
          · exact hlj) with ⟨hw, hwp⟩ | ⟨hw, hphi⟩
        · simp only [ho, hw, if_true]
          refine Or.inl (Oper.wp_mono (fun a' w' h' => ?_) hwp)
          obtain ⟨v, rfl, hbel, hphi⟩ := h'
          exact goOn v w' hbel hphi
        · simp only [ho, hw, Bool.false_eq_true, if_false]
          exact goOn undef w (Below.refl _ _) hphi

/-- THE LAW. -/
theorem wp_region_tail {P : Program} {id : Nat} {ops : Array Oper} {Q : Exit → Act → World → Prop} {a0 : Act} {w0 : World} (k : Nat) (φ : Nat → Value → World → Prop) (hm : P.follows .mixedOrders = true) (hok : planOK ops a0.tmps.size k = true)
    (hst : ∀ i v w w', φ i v w → Below w.heap.size w w' → φ i v w') (hsteps : Owed P ops Q φ k a0 w0 0 (ops.toList.take k))
    (hend : ∀ a w, Below w0.heap.size w0 w → SameK ops k a0 a → (∀ j, j < k → Left' ops φ a w j) → wpList P ops Q (ops.toList.drop k) a w) : (Code.region id ops true).wp P Q a0 w0 := by
  refine wp_region_any hm (wpAny_tail hok hst hsteps hend _ _ _ _ ?_ ⟨(Below.refl _ _).drew, ⟨rfl, rfl, fun _ _ => rfl⟩, by simp, fun j _ hj => ?_, fun i hi => ?_, fun j o' _ hj => ?_, fun _ _ _ _ _ _ _ => rfl⟩)
  · exact Nat.le_trans (List.countP_le_length) (by simp)
  · exfalso
    simp [Array.getD] at hj
  · simp [Array.getD]
  · exfalso
    simp [Array.getD] at hj

section
variable {P : Program} {ops : Array Oper} {Q : Exit → Act → World → Prop} {o : Oper} {a : Act} {w : World}

/-- An operation that is passed over. -/
theorem pass_by {j d : Nat} {b c : Bool} (h : o.guard = some (j, b)) (hd : (ops[j]?).bind (·.dst) = some d) (hs : slot a d = .bool c) (hne : c ≠ b) : Region.wanted o (yielded ops a.tmps) = false := by
  have hx : a.tmps[d]? = some (.bool c) := by
    unfold slot at hs
    rw [Array.getD_eq_getD_getElem?] at hs
    cases hh : a.tmps[d]? with
    | none => rw [hh] at hs; simp [undef] at hs
    | some x => rw [hh] at hs; simp at hs; rw [hs]
  simp [Region.wanted, h, yielded, hd, hx]
  exact hne

/-- An operation that runs to a value in a world that has grown. -/
theorem does_grown {w' : World} {p : Value → World → Prop} {v : Value} (hw : Region.wanted o (yielded ops a.tmps) = true) (hrun : (execOp a.eval o).run P w = .ok (.value v) w') (hg : Below w.heap.size w w') (hp : p v w') : Does P ops Q p o a w := by
  refine ⟨hw, ?_⟩
  unfold Oper.wp
  rw [hrun]
  exact ⟨v, rfl, hg, hp⟩
end

theorem slot_get (A : Act) (t : Nat) : slot A t = A.tmps[t]?.getD undef := by unfold slot; rw [Array.getD_eq_getD_getElem?]

/-- The frame by its slots. -/
theorem frame_of {A : Act} {n : Nat} (h : A.tmps.size = n) : A = { tmps := ((List.range n).map (slot A)).toArray, defers := A.defers } := by
  obtain ⟨⟨tl⟩, d⟩ := A
  have hl : tl.length = n := h
  have e : tl = (List.range n).map (slot ⟨⟨tl⟩, d⟩) := by
    apply List.ext_getElem (by simp [hl])
    intro i h1 h2
    simp [slot, Array.getD, h1]
  conv => lhs; rw [e]

end Go.Proofs.Ytgalmkhgbokidaa.PT
