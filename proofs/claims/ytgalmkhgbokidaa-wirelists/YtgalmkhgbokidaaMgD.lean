/-
  What is proved here: a law for a statement whose order is left open, where some operations only read what stays as it is (each has one value, whenever it comes) and the others come one behind the other.
  What is proved here: a law for a statement whose order is left open, where some operations only read what stays as it is or what the others have answered (each has one value, whenever it comes) and the others come one behind the other.
  What is proved here: which fields a command uses; what a call may write that appends to bytes of its own; putNumber, putTime, PutFront.
  What is proved here: single operations: a field's address, loads, stores, parts of tuples, in the form that a drawn statement wants.
-/
import Derived.Test.YtgalmkhgbokidaaMgC

namespace Go.Proofs.Ytgalmkhgbokidaa.PQ
open Go.RowKit Go.Proofs.Ytgalmkhgbokidaa.PB
set_option linter.unusedVariables false
set_option linter.unusedSimpArgs false

variable {P : Program} {ops : Array Oper} {Q : Exit → Act → World → Prop}

/-- How many of the others stand ahead of the operation i. -/
def pos (val : Nat → Option Value) (i : Nat) : Nat := (List.range i).countP fun j => (val j).isNone

theorem pos_succ (val : Nat → Option Value) (i : Nat) : pos val (i + 1) = pos val i + (if (val i).isNone then 1 else 0) := by
  unfold pos
  rw [List.range_succ, List.countP_append, List.countP_singleton]

theorem pos_mono (val : Nat → Option Value) {i j : Nat} (h : i ≤ j) : pos val i ≤ pos val j := by
  induction j with
  | zero => have : i = 0 := by omega
            subst this; exact Nat.le_refl _
  | succ j ih =>
    rcases Nat.lt_or_ge j i with hj | hj
    · have : i = j + 1 := by omega
      subst this; exact Nat.le_refl _
    · rw [pos_succ]; have := ih hj; omega

theorem pos_lt (val : Nat → Option Value) {i j : Nat} (h : i < j) (hi : val i = none) : pos val i < pos val j := by
  have h1 := pos_mono val (show i + 1 ≤ j from h)
  rw [pos_succ, hi] at h1
  simp at h1
  omega

theorem pos_inj (val : Nat → Option Value) {i j : Nat} (hi : val i = none) (hj : val j = none) (h : pos val i = pos val j) : i = j := by
  rcases Nat.lt_trichotomy i j with hh | hh | hh
  · have := pos_lt val hh hi; omega
  · exact hh
  · have := pos_lt val hh hj; omega

theorem pos_hit (val : Nat → Option Value) {k : Nat} : ∀ n, k < pos val n → ∃ j, j < n ∧ val j = none ∧ pos val j = k
  | 0, h => by simp [pos] at h
  | n + 1, h => by
    rcases Nat.lt_or_ge k (pos val n) with hh | hh
    · obtain ⟨j, h1, h2⟩ := pos_hit val n hh
      exact ⟨j, by omega, h2⟩
    · rw [pos_succ] at h
      by_cases hn : (val n).isNone = true
      · rw [if_pos hn] at h
        exact ⟨n, by omega, by simpa using hn, by omega⟩
      · rw [if_neg hn] at h; omega

/-- Is it such a statement? -/
def quietOK (ops : Array Oper) (n : Nat) (q : Nat → Bool) : Bool :=
  orderOK ops &&
  (List.range ops.size).all (fun i => match ops[i]? with
    | none => false
    | some o => (match o.dst with
        | none => !q i
        | some d => decide (d < n) && (List.range ops.size).all fun j => j == i || (match ops[j]? with | none => false | some o' => o'.dst != some d)) &&
      (q i || (List.range i).all fun j => q j || waits o j || (List.range i).any fun k => decide (j < k) && !q k))

theorem ok_order {n : Nat} {q : Nat → Bool} (h : quietOK ops n q = true) : orderOK ops = true := by
  unfold quietOK at h
  exact (Bool.and_eq_true _ _ ▸ h).1

theorem ok_dst {n : Nat} {q : Nat → Bool} (h : quietOK ops n q = true) {i d : Nat} {o : Oper} (ho : ops[i]? = some o) (hd : o.dst = some d) : d < n ∧ ∀ j o', ops[j]? = some o' → j ≠ i → o'.dst ≠ some d := by
  unfold quietOK at h
  have h2 := (Bool.and_eq_true _ _ ▸ h).2
  have hi : i < ops.size := (Array.getElem?_eq_some_iff.1 ho).1
  have h3 := List.all_eq_true.1 h2 i (List.mem_range.2 hi)
  rw [ho] at h3
  simp only [hd, Bool.and_eq_true, decide_eq_true_eq, List.all_eq_true, List.mem_range] at h3
  refine ⟨h3.1.1, fun j o' hj hne he => ?_⟩
  have hjs : j < ops.size := (Array.getElem?_eq_some_iff.1 hj).1
  have := h3.1.2 j hjs
  rw [hj] at this
  simp [hne, he] at this

theorem ok_quiet {n : Nat} {q : Nat → Bool} (h : quietOK ops n q = true) {i : Nat} {o : Oper} (ho : ops[i]? = some o) (hq : q i = true) : ∃ d, o.dst = some d := by
  unfold quietOK at h
  have h2 := (Bool.and_eq_true _ _ ▸ h).2
  have hi : i < ops.size := (Array.getElem?_eq_some_iff.1 ho).1
  have h3 := List.all_eq_true.1 h2 i (List.mem_range.2 hi)
  rw [ho] at h3
  cases hd : o.dst with
  | none => simp [hd, hq] at h3
  | some d => exact ⟨d, rfl⟩

theorem ok_chain {n : Nat} {q : Nat → Bool} (h : quietOK ops n q = true) {i : Nat} {o : Oper} (ho : ops[i]? = some o) (hq : q i = false) {j : Nat} (hj : j < i) (hqj : q j = false) (hlast : ∀ k, j < k → k < i → q k = true) : waits o j = true := by
  unfold quietOK at h
  have h2 := (Bool.and_eq_true _ _ ▸ h).2
  have hi : i < ops.size := (Array.getElem?_eq_some_iff.1 ho).1
  have h3 := List.all_eq_true.1 h2 i (List.mem_range.2 hi)
  rw [ho] at h3
  simp only [hq, Bool.false_or, Bool.and_eq_true] at h3
  have h4 := List.all_eq_true.1 h3.2 j (List.mem_range.2 hj)
  rw [hqj] at h4
  simp only [Bool.false_or, Bool.or_eq_true, List.any_eq_true, List.mem_range, Bool.and_eq_true, decide_eq_true_eq, Bool.not_eq_true'] at h4
  rcases h4 with h4 | ⟨k, h5, h6, h7⟩
  · exact h4
  · rw [hlast k h6 h5] at h7; cases h7

/-- What an operation that has come left in its slot. -/
def Left (ops : Array Oper) (val : Nat → Option Value) (vs : List Value) (a : Act) (j : Nat) : Prop :=
  match ops[j]? with
  | none => True
  | some o => match o.dst with
    | none => True
    | some d => match val j with
      | some v => slot a d = v
      | none => slot a d = vs.getD (pos val j) undef

/-- What is known at an operation. -/
structure Ctx (ops : Array Oper) (val : Nat → Option Value) (a0 : Act) (i : Nat) (o : Oper) (vs : List Value) (a : Act) : Prop where
  defers : a.defers = a0.defers
  size : a.tmps.size = a0.tmps.size
  outer : ∀ t, outer ops t = true → slot a t = slot a0 t
  left : ∀ j, waits o j = true → Left ops val vs a j
  fresh : ∀ (j : Nat) (o' : Oper) (d : Nat), ops[j]? = some o' → waits o' i = true → o'.dst = some d → slot a d = slot a0 d
  ahead : ∀ (j : Nat) (o' : Oper), ops[j]? = some o' → waits o' i = true → val j = none → vs.length ≤ pos val j

/-- What is known at the end. -/
structure EndCtx (ops : Array Oper) (val : Nat → Option Value) (a0 : Act) (vs : List Value) (a : Act) : Prop where
  defers : a.defers = a0.defers
  size : a.tmps.size = a0.tmps.size
  outer : ∀ t, outer ops t = true → slot a t = slot a0 t
  left : ∀ j, Left ops val vs a j

/-- What is owed at each operation. -/
def Owes (P : Program) (ops : Array Oper) (Q : Exit → Act → World → Prop) (val : Nat → Option Value) (Φ : List Value → World → Prop) (a0 : Act) : Nat → List Oper → Prop
  | _, [] => True
  | i, o :: r => (match val i with
      | some v => ∀ vs a w, Φ vs w → Ctx ops val a0 i o vs a → Region.wanted o (yielded ops a.tmps) = true ∧ (execOp a.eval o).run P w = .ok (.value v) w
      | none => ∀ vs a w, vs.length = pos val i → Φ vs w → Ctx ops val a0 i o vs a → Region.wanted o (yielded ops a.tmps) = true ∧ o.wp P a w (fun a' w' => ∃ v, a' = a.put o.dst v ∧ Φ (vs ++ [v]) w') Q) ∧ Owes P ops Q val Φ a0 (i + 1) r

theorem Owes.get {val : Nat → Option Value} {Φ : List Value → World → Prop} {a0 : Act} : ∀ (l : List Oper) (k : Nat), Owes P ops Q val Φ a0 k l → ∀ i o, l[i]? = some o → (match val (k + i) with
      | some v => ∀ vs a w, Φ vs w → Ctx ops val a0 (k + i) o vs a → Region.wanted o (yielded ops a.tmps) = true ∧ (execOp a.eval o).run P w = .ok (.value v) w
      | none => ∀ vs a w, vs.length = pos val (k + i) → Φ vs w → Ctx ops val a0 (k + i) o vs a → Region.wanted o (yielded ops a.tmps) = true ∧ o.wp P a w (fun a' w' => ∃ v, a' = a.put o.dst v ∧ Φ (vs ++ [v]) w') Q)
  | [], _, _, i, o, h => by simp at h
  | x :: l, k, hl, 0, o, h => by
    simp at h; subst h; exact hl.1
  | x :: l, k, hl, i + 1, o, h => by
    have := Owes.get l (k + 1) hl.2 i o (by simpa using h)
    rw [show k + (i + 1) = k + 1 + i by omega]
    exact this

structure Inv (ops : Array Oper) (val : Nat → Option Value) (a0 : Act) (L : Nat → Bool) (vs : List Value) (a : Act) : Prop where
  defers : a.defers = a0.defers
  size : a.tmps.size = a0.tmps.size
  outer : ∀ t, outer ops t = true → slot a t = slot a0 t
  left : ∀ j, L j = true → Left ops val vs a j
  pre : ∀ j o, ops[j]? = some o → val j = none → (L j = true ↔ pos val j < vs.length)
  fresh : ∀ j o d, ops[j]? = some o → L j = false → o.dst = some d → slot a d = slot a0 d
  closed : ∀ j o, ops[j]? = some o → L j = true → ∀ i, waits o i = true → L i = true
  len : vs.length ≤ pos val ops.size

theorem Inv.ctx {val : Nat → Option Value} {a0 : Act} {L : Nat → Bool} {vs : List Value} {a : Act} {i : Nat} {o : Oper} (h : Inv ops val a0 L vs a) (hl : L i = false) (hw : ∀ j, waits o j = true → L j = true) : Ctx ops val a0 i o vs a := by
  have no : ∀ j o', ops[j]? = some o' → waits o' i = true → L j = false := fun j o' hj hw' => by
    cases hL : L j with
    | false => rfl
    | true =>
      have := h.closed j o' hj hL i hw'
      rw [hl] at this; cases this
  refine ⟨h.defers, h.size, h.outer, fun j hj => h.left j (hw j hj), fun j o' d hj hw' hd => h.fresh j o' d hj (no j o' hj hw') hd, fun j o' hj hw' hv => ?_⟩
  have := no j o' hj hw'
  have k := (h.pre j o' hj hv).2
  rcases Nat.lt_or_ge (pos val j) vs.length with hh | hh
  · rw [k hh] at this; cases this
  · exact hh

theorem left_other {val : Nat → Option Value} {vs vs' : List Value} {a : Act} {j i d : Nat} {v : Value} (h : Left ops val vs a j) (hne : ∀ o' , ops[j]? = some o' → o'.dst ≠ some d) (hvs : val j = none → vs'.getD (pos val j) undef = vs.getD (pos val j) undef) : Left ops val vs' (a.put (some d) v) j := by
  unfold Left at *
  cases ho : ops[j]? with
  | none => simp [ho]
  | some o =>
    rw [ho] at h
    simp only at h ⊢
    cases hd : o.dst with
    | none => simp
    | some d' =>
      rw [hd] at h
      simp only at h ⊢
      have hdd : d' ≠ d := fun e => hne o ho (by rw [hd, e])
      rw [slot_put_other _ _ _ _ hdd]
      cases hv : val j with
      | some x => rw [hv] at h; exact h
      | none => rw [hv] at h; simp only at h ⊢; rw [hvs hv]; exact h

theorem left_none {val : Nat → Option Value} {vs vs' : List Value} {a : Act} {j : Nat} (h : Left ops val vs a j) (hvs : val j = none → vs'.getD (pos val j) undef = vs.getD (pos val j) undef) : Left ops val vs' a j := by
  unfold Left at *
  cases ho : ops[j]? with
  | none => simp
  | some o =>
    rw [ho] at h
    simp only at h ⊢
    cases hd : o.dst with
    | none => simp
    | some d' =>
      rw [hd] at h
      simp only at h ⊢
      cases hv : val j with
      | some x => rw [hv] at h; exact h
      | none => rw [hv] at h; simp only at h ⊢; rw [hvs hv]; exact h

theorem outer_ne {t i : Nat} {o : Oper} (h : outer ops t = true) (ho : ops[i]? = some o) : o.dst ≠ some t := by
  unfold outer at h
  have hm : o ∈ ops.toList := by
    obtain ⟨hi, e⟩ := Array.getElem?_eq_some_iff.1 ho
    rw [← e]; simp
  simpa using List.all_eq_true.1 h o hm

theorem Inv.quiet {val : Nat → Option Value} {a0 : Act} {L : Nat → Bool} {vs : List Value} {a : Act} {i d : Nat} {o : Oper} {v : Value} (hok : quietOK ops a0.tmps.size (fun i => (val i).isSome) = true) (h : Inv ops val a0 L vs a) (hl : L i = false) (hw : ∀ j, waits o j = true → L j = true) (ho : ops[i]? = some o) (hv : val i = some v) (hd : o.dst = some d) : Inv ops val a0 (fun j => j == i || L j) vs (a.put (some d) v) := by
  obtain ⟨h1, h2⟩ := ok_dst hok ho hd
  refine ⟨h.defers, by simp [Act.put, h.size], fun t ht => ?_, fun j hj => ?_, fun j o' hj hv' => ?_, fun j o' d' hj hL hd' => ?_, fun j o' hj hL k hk => ?_, h.len⟩
  · rw [slot_put_other _ _ _ _ (fun e => outer_ne ht ho (by rw [hd, e]))]; exact h.outer t ht
  · by_cases e : j = i
    · subst e
      unfold Left
      simp only [ho, hd, hv]
      exact slot_put_same _ _ _ (by rw [h.size]; exact h1)
    · have hj' : L j = true := by simpa [e] using hj
      exact left_other (i := i) (h.left j hj') (fun o' ho' => h2 j o' ho' e) (fun _ => rfl)
  · have e : j ≠ i := fun e => by subst e; rw [hv] at hv'; cases hv'
    have : (j == i || L j) = L j := by simp [e]
    rw [this]
    exact h.pre j o' hj hv'
  · have e : j ≠ i := fun e => by subst e; simp at hL
    rw [slot_put_other _ _ _ _ (fun e2 => h2 j o' hj e (by rw [hd', e2]))]
    exact h.fresh j o' d' hj (by simpa [e] using hL) hd'
  · by_cases e : j = i
    · subst e
      rw [ho] at hj; cases hj
      simp [hw k hk]
    · have : L k = true := h.closed j o' hj (by simpa [e] using hL) k hk
      simp [this]

theorem Inv.loud {val : Nat → Option Value} {a0 : Act} {L : Nat → Bool} {vs : List Value} {a : Act} {i : Nat} {o : Oper} {v : Value} (hok : quietOK ops a0.tmps.size (fun i => (val i).isSome) = true) (h : Inv ops val a0 L vs a) (hl : L i = false) (hw : ∀ j, waits o j = true → L j = true) (ho : ops[i]? = some o) (hv : val i = none) (hp : vs.length = pos val i) : Inv ops val a0 (fun j => j == i || L j) (vs ++ [v]) (a.put o.dst v) := by
  have hi : i < ops.size := (Array.getElem?_eq_some_iff.1 ho).1
  have old : ∀ j o', ops[j]? = some o' → L j = true → val j = none → (vs ++ [v]).getD (pos val j) undef = vs.getD (pos val j) undef := fun j o' hj hL hv' => by
    have := (h.pre j o' hj hv').1 hL
    simp [List.getD, List.getElem?_append_left this]
  have lf : ∀ j, L j = true → Left ops val (vs ++ [v]) a j := fun j hj => by
    cases hoj : ops[j]? with
    | none => unfold Left; simp [hoj]
    | some o' => exact left_none (h.left j hj) (fun hv' => old j o' hoj hj hv')
  refine ⟨by cases o.dst <;> exact h.defers, by cases o.dst <;> simp [Act.put, h.size], fun t ht => ?_, fun j hj => ?_, fun j o' hj hv' => ?_, fun j o' d' hj hL hd' => ?_, fun j o' hj hL k hk => ?_, ?_⟩
  · cases hd : o.dst with
    | none => exact h.outer t ht
    | some d => rw [slot_put_other _ _ _ _ (fun e => outer_ne ht ho (by rw [hd, e]))]; exact h.outer t ht
  · by_cases e : j = i
    · subst e
      unfold Left
      simp only [ho, hv]
      cases hd : o.dst with
      | none => trivial
      | some d =>
        simp only
        rw [slot_put_same _ _ _ (by rw [h.size]; exact (ok_dst hok ho hd).1)]
        simp [List.getD, ← hp]
    · have hj' : L j = true := by simpa [e] using hj
      cases hd : o.dst with
      | none => exact lf j hj'
      | some d => exact left_other (i := i) (lf j hj') (fun o' ho' => (ok_dst hok ho hd).2 j o' ho' e) (fun _ => rfl)
  · by_cases e : j = i
    · subst e
      simp [hp]
    · have e2 : (j == i || L j) = L j := by simp [e]
      rw [e2, h.pre j o' hj hv', List.length_append, List.length_singleton]
      have : pos val j ≠ pos val i := fun e3 => e (pos_inj val hv' hv e3)
      omega
  · have e : j ≠ i := fun e => by subst e; simp at hL
    have hf := h.fresh j o' d' hj (by simpa [e] using hL) hd'
    cases hd : o.dst with
    | none => exact hf
    | some d => rw [slot_put_other _ _ _ _ (fun e2 => (ok_dst hok ho hd).2 j o' hj e (by rw [hd', e2]))]; exact hf
  · by_cases e : j = i
    · subst e
      rw [ho] at hj; cases hj
      simp [hw k hk]
    · have : L k = true := h.closed j o' hj (by simpa [e] using hL) k hk
      simp [this]
  · rw [List.length_append, List.length_singleton, hp]
    exact pos_lt val hi hv

/-- The last of the others ahead of the operation i. -/
theorem last_loud (val : Nat → Option Value) : ∀ i, 0 < pos val i → ∃ j, j < i ∧ val j = none ∧ pos val j + 1 = pos val i ∧ ∀ k, j < k → k < i → (val k).isSome = true
  | 0, h => by simp [pos] at h
  | i + 1, h => by
    rw [pos_succ] at h ⊢
    cases hv : val i with
    | none => exact ⟨i, by omega, hv, by simp, fun k h1 h2 => by omega⟩
    | some x =>
      simp only [hv, Option.isNone_some] at h
      obtain ⟨j, h1, h2, h3, h4⟩ := last_loud val i (by simpa using h)
      refine ⟨j, by omega, h2, by simpa using h3, fun k h5 h6 => ?_⟩
      rcases Nat.lt_or_ge k i with hk | hk
      · exact h4 k h5 hk
      · have : k = i := by omega
        subst this; simp [hv]

theorem wp_region_quiet {id : Nat} {a0 : Act} {w0 : World} (val : Nat → Option Value) (Φ : List Value → World → Prop) (hm : P.follows .mixedOrders = true) (hok : quietOK ops a0.tmps.size (fun i => (val i).isSome) = true)
    (h0 : Φ [] w0.drew) (hsteps : Owes P ops Q val Φ a0 0 ops.toList)
    (hend : ∀ vs a w, vs.length = pos val ops.size → Φ vs w → EndCtx ops val a0 vs a → Q .normal a w) : (Code.region id ops true).wp P Q a0 w0 := by
  refine wp_region_inv (fun L a w => ∃ vs, Φ vs w ∧ Inv ops val a0 L vs a) hm (ok_order hok) ⟨[], h0, ⟨rfl, rfl, fun _ _ => rfl, fun _ h => (by cases h), fun j o _ _ => ⟨fun h => (by cases h), fun h => (by simp at h)⟩, fun _ _ _ _ _ _ => rfl, fun _ _ _ h => (by cases h), by simp⟩⟩ ?_ ?_
  · rintro i o L a w ho hl hw ⟨vs, hΦ, hI⟩
    have hob := Owes.get ops.toList 0 hsteps i o (by simpa using ho)
    rw [Nat.zero_add] at hob
    cases hv : val i with
    | some v =>
      rw [hv] at hob
      obtain ⟨h1, h2⟩ := hob vs a w hΦ (hI.ctx hl hw)
      obtain ⟨d, hd⟩ := ok_quiet hok ho (by simp [hv])
      refine ⟨h1, ?_⟩
      unfold Oper.wp
      rw [h2]
      show ∃ vs, Φ vs w ∧ Inv ops val a0 (fun j => j == i || L j) vs (a.put o.dst v)
      rw [hd]
      exact ⟨vs, hΦ, hI.quiet hok hl hw ho hv hd⟩
    | none =>
      rw [hv] at hob
      have hp : vs.length = pos val i := by
        have a1 : ¬ pos val i < vs.length := fun hh => by
          have := (hI.pre i o ho hv).2 hh
          rw [hl] at this; cases this
        rcases Nat.eq_zero_or_pos (pos val i) with h | h
        · omega
        · obtain ⟨j, h1, h2, h3, h4⟩ := last_loud val i h
          have hwj := ok_chain hok ho (by simp [hv]) h1 (by simp [h2]) h4
          have hLj := hw j hwj
          have hjs : j < ops.size := Nat.lt_trans h1 (Array.getElem?_eq_some_iff.1 ho).1
          have := (hI.pre j ops[j] (Array.getElem?_eq_getElem hjs) h2).1 hLj
          omega
      obtain ⟨h1, h2⟩ := hob vs a w hp hΦ (hI.ctx hl hw)
      refine ⟨h1, Oper.wp_mono ?_ h2⟩
      rintro a' w' ⟨v, rfl, hΦ'⟩
      exact ⟨vs ++ [v], hΦ', hI.loud hok hl hw ho hv hp⟩
  · rintro L a w hall ⟨vs, hΦ, hI⟩
    refine hend vs a w ?_ hΦ ⟨hI.defers, hI.size, hI.outer, fun j => ?_⟩
    · have := hI.len
      rcases Nat.lt_or_ge vs.length (pos val ops.size) with h | h
      · obtain ⟨j, h1, h2, h3⟩ := pos_hit val ops.size h
        have := (hI.pre j ops[j] (Array.getElem?_eq_getElem h1) h2).1 (hall j h1)
        omega
      · omega
    · rcases Nat.lt_or_ge j ops.size with h | h
      · exact hI.left j (hall j h)
      · unfold Left
        rw [Array.getElem?_eq_none h]
        trivial

theorem loud_value {Φ : List Value → World → Prop} {o : Oper} {a : Act} {w w' : World} {v : Value} {vs : List Value} (hrun : (execOp a.eval o).run P w = .ok (.value v) w') (h : Φ (vs ++ [v]) w') : o.wp P a w (fun a' w' => ∃ v, a' = a.put o.dst v ∧ Φ (vs ++ [v]) w') Q := by
  unfold Oper.wp
  rw [hrun]
  exact ⟨v, rfl, h⟩

theorem loud_skip {Φ : List Value → World → Prop} {o : Oper} {a : Act} {w w' : World} {vs : List Value} (hd : o.dst = none) (hrun : (execOp a.eval o).run P w = .ok .skip w') (h : Φ (vs ++ [undef]) w') : o.wp P a w (fun a' w' => ∃ v, a' = a.put o.dst v ∧ Φ (vs ++ [v]) w') Q := by
  unfold Oper.wp
  rw [hrun]
  simp only [Oper.upon, hd, Act.put]
  exact ⟨undef, trivial, h⟩

/-- A call, whatever it does. -/
theorem loud_call {Φ : List Value → World → Prop} {o : Oper} {a : Act} {w : World} {vs : List Value} {f : FuncId} {fn : Func} {args : Array Operand} {ats : Array TypeId} (xs : Array Value)
    (ho : o.op = .call { callee := .value (.func f), args := args, argTypes := ats }) (hf : P.funcs[f]? = some fn) (hname : (fn.name == "runtime.NumGoroutine") = false) (hbody : fn.body.isNone = false)
    (hvs : args.toList.map a.eval = xs.toList) (hc : Calls P f xs w fun e w' => ∃ v, e = .returned v ∧ Φ (vs ++ [v]) w') : o.wp P a w (fun a' w' => ∃ v, a' = a.put o.dst v ∧ Φ (vs ++ [v]) w') Q := by
  have hrun : (execOp a.eval o).run P w = .ok (.enter f xs) w := by
    obtain ⟨dst, op, ty, pos, aft, guard⟩ := o
    simp only at ho
    subst ho
    have hname' : ¬ fn.name = "runtime.NumGoroutine" := by simpa using hname
    have hbody' : ¬ fn.body = none := by
      intro h; rw [h] at hbody; cases hbody
    have hvs' : args.map a.eval = xs := by apply Array.ext'; rw [Array.toList_map]; exact hvs
    rw [execOp_call_go]
    simp [callFunc, hf, hname', hbody', hvs']
  unfold Oper.wp
  rw [hrun]
  simp only [Oper.upon]
  refine hc.mono ?_
  rintro e w' ⟨v, rfl, hk⟩
  exact ⟨v, rfl, hk⟩

/-- A frame that differs from another one in some slots alone. -/
def puts (A : Act) (A0 : Act) : List Nat → Act
  | [] => A0
  | d :: ds => puts A (A0.put (some d) (slot A d)) ds

theorem puts_size (A : Act) : ∀ (ds : List Nat) (A0 : Act), (puts A A0 ds).tmps.size = A0.tmps.size
  | [], _ => rfl
  | d :: ds, A0 => by rw [puts, puts_size A ds]; simp [Act.put]

theorem puts_defers (A : Act) : ∀ (ds : List Nat) (A0 : Act), (puts A A0 ds).defers = A0.defers
  | [], _ => rfl
  | d :: ds, A0 => by rw [puts, puts_defers A ds]; rfl

theorem puts_slot (A : Act) (t : Nat) : ∀ (ds : List Nat) (A0 : Act), t < A0.tmps.size → (t ∉ ds → slot A0 t = slot A t) → slot (puts A A0 ds) t = slot A t
  | [], A0, _, h => h (by simp)
  | d :: ds, A0, ht, h => by
    rw [puts]
    refine puts_slot A t ds _ (by simp [Act.put]; exact ht) fun hn => ?_
    by_cases e : t = d
    · subst e
      exact slot_put_same _ _ _ ht
    · rw [slot_put_other _ _ _ _ e]
      exact h (by simp [e, hn])

theorem frame_puts {A A0 : Act} (hd : A.defers = A0.defers) (hs : A.tmps.size = A0.tmps.size) (ds : List Nat) (h : ∀ t, t ∉ ds → slot A t = slot A0 t) : A = puts A A0 ds := by
  have h1 : (puts A A0 ds).tmps.size = A.tmps.size := by rw [puts_size, hs]
  have h2 : (puts A A0 ds).defers = A.defers := by rw [puts_defers, hd]
  have h3 : ∀ t, t < A.tmps.size → slot (puts A A0 ds) t = slot A t := fun t ht => puts_slot A t ds A0 (by omega) fun hn => (h t hn).symm
  generalize puts A A0 ds = B at *
  obtain ⟨ta, da⟩ := A
  obtain ⟨tb, db⟩ := B
  simp only at h1 h2
  subst h2
  congr 1
  apply Array.ext (by omega)
  intro i hi1 hi2
  have := h3 i hi1
  simpa [slot, Array.getD, hi1, hi2] using this.symm

end Go.Proofs.Ytgalmkhgbokidaa.PQ

namespace Go.Proofs.Ytgalmkhgbokidaa.PD
open Go.RowKit Go.Proofs.Ytgalmkhgbokidaa.PB

abbrev Fn := List Value → Value
set_option linter.unusedVariables false
set_option linter.unusedSimpArgs false

variable {P : Program} {ops : Array Oper} {Q : Exit → Act → World → Prop}

/-- How many of the others stand ahead of the operation i. -/
def pos (val : Nat → Option Fn) (i : Nat) : Nat := (List.range i).countP fun j => (val j).isNone

theorem pos_succ (val : Nat → Option Fn) (i : Nat) : pos val (i + 1) = pos val i + (if (val i).isNone then 1 else 0) := by
  unfold pos
  rw [List.range_succ, List.countP_append, List.countP_singleton]

theorem pos_mono (val : Nat → Option Fn) {i j : Nat} (h : i ≤ j) : pos val i ≤ pos val j := by
  induction j with
  | zero => have : i = 0 := by omega
            subst this; exact Nat.le_refl _
  | succ j ih =>
    rcases Nat.lt_or_ge j i with hj | hj
    · have : i = j + 1 := by omega
      subst this; exact Nat.le_refl _
    · rw [pos_succ]; have := ih hj; omega

theorem pos_lt (val : Nat → Option Fn) {i j : Nat} (h : i < j) (hi : val i = none) : pos val i < pos val j := by
  have h1 := pos_mono val (show i + 1 ≤ j from h)
  rw [pos_succ, hi] at h1
  simp at h1
  omega

theorem pos_inj (val : Nat → Option Fn) {i j : Nat} (hi : val i = none) (hj : val j = none) (h : pos val i = pos val j) : i = j := by
  rcases Nat.lt_trichotomy i j with hh | hh | hh
  · have := pos_lt val hh hi; omega
  · exact hh
  · have := pos_lt val hh hj; omega

theorem pos_hit (val : Nat → Option Fn) {k : Nat} : ∀ n, k < pos val n → ∃ j, j < n ∧ val j = none ∧ pos val j = k
  | 0, h => by simp [pos] at h
  | n + 1, h => by
    rcases Nat.lt_or_ge k (pos val n) with hh | hh
    · obtain ⟨j, h1, h2⟩ := pos_hit val n hh
      exact ⟨j, by omega, h2⟩
    · rw [pos_succ] at h
      by_cases hn : (val n).isNone = true
      · rw [if_pos hn] at h
        exact ⟨n, by omega, by simpa using hn, by omega⟩
      · rw [if_neg hn] at h; omega

/-- Is it such a statement? -/
def quietOK (ops : Array Oper) (n : Nat) (q : Nat → Bool) (dep : Nat → Nat) : Bool :=
  orderOK ops &&
  (List.range ops.size).all (fun i => match ops[i]? with
    | none => false
    | some o => (match o.dst with
        | none => !q i
        | some d => decide (d < n) && (List.range ops.size).all fun j => j == i || (match ops[j]? with | none => false | some o' => o'.dst != some d)) &&
      (q i || (List.range i).all fun j => q j || waits o j || (List.range i).any fun k => decide (j < k) && !q k) &&
      (!q i || dep i == 0 || (List.range i).any fun j => waits o j && (if q j then decide (dep i ≤ dep j) else decide (dep i ≤ (List.range j).countP (fun k => !q k) + 1))))

theorem ok_order {n : Nat} {q : Nat → Bool} {dep : Nat → Nat} (h : quietOK ops n q dep = true) : orderOK ops = true := by
  unfold quietOK at h
  exact (Bool.and_eq_true _ _ ▸ h).1

theorem ok_dst {n : Nat} {q : Nat → Bool} {dep : Nat → Nat} (h : quietOK ops n q dep = true) {i d : Nat} {o : Oper} (ho : ops[i]? = some o) (hd : o.dst = some d) : d < n ∧ ∀ j o', ops[j]? = some o' → j ≠ i → o'.dst ≠ some d := by
  unfold quietOK at h
  have h2 := (Bool.and_eq_true _ _ ▸ h).2
  have hi : i < ops.size := (Array.getElem?_eq_some_iff.1 ho).1
  have h3 := List.all_eq_true.1 h2 i (List.mem_range.2 hi)
  rw [ho] at h3
  simp only [hd, Bool.and_eq_true, decide_eq_true_eq, List.all_eq_true, List.mem_range] at h3
  refine ⟨h3.1.1.1, fun j o' hj hne he => ?_⟩
  have hjs : j < ops.size := (Array.getElem?_eq_some_iff.1 hj).1
  have := h3.1.1.2 j hjs
  rw [hj] at this
  simp [hne, he] at this

theorem ok_quiet {n : Nat} {q : Nat → Bool} {dep : Nat → Nat} (h : quietOK ops n q dep = true) {i : Nat} {o : Oper} (ho : ops[i]? = some o) (hq : q i = true) : ∃ d, o.dst = some d := by
  unfold quietOK at h
  have h2 := (Bool.and_eq_true _ _ ▸ h).2
  have hi : i < ops.size := (Array.getElem?_eq_some_iff.1 ho).1
  have h3 := List.all_eq_true.1 h2 i (List.mem_range.2 hi)
  rw [ho] at h3
  cases hd : o.dst with
  | none => simp [hd, hq] at h3
  | some d => exact ⟨d, rfl⟩

theorem ok_chain {n : Nat} {q : Nat → Bool} {dep : Nat → Nat} (h : quietOK ops n q dep = true) {i : Nat} {o : Oper} (ho : ops[i]? = some o) (hq : q i = false) {j : Nat} (hj : j < i) (hqj : q j = false) (hlast : ∀ k, j < k → k < i → q k = true) : waits o j = true := by
  unfold quietOK at h
  have h2 := (Bool.and_eq_true _ _ ▸ h).2
  have hi : i < ops.size := (Array.getElem?_eq_some_iff.1 ho).1
  have h3 := List.all_eq_true.1 h2 i (List.mem_range.2 hi)
  rw [ho] at h3
  simp only [hq, Bool.false_or, Bool.and_eq_true] at h3
  have h4 := List.all_eq_true.1 h3.1.2 j (List.mem_range.2 hj)
  rw [hqj] at h4
  simp only [Bool.false_or, Bool.or_eq_true, List.any_eq_true, List.mem_range, Bool.and_eq_true, decide_eq_true_eq, Bool.not_eq_true'] at h4
  rcases h4 with h4 | ⟨k, h5, h6, h7⟩
  · exact h4
  · rw [hlast k h6 h5] at h7; cases h7

theorem ok_dep {n : Nat} {q : Nat → Bool} {dep : Nat → Nat} (h : quietOK ops n q dep = true) {i : Nat} {o : Oper} (ho : ops[i]? = some o) (hq : q i = true) (hd : dep i ≠ 0) : ∃ j, j < i ∧ waits o j = true ∧ ((q j = true ∧ dep i ≤ dep j) ∨ (q j = false ∧ dep i ≤ (List.range j).countP (fun k => !q k) + 1)) := by
  unfold quietOK at h
  have h2 := (Bool.and_eq_true _ _ ▸ h).2
  have hi : i < ops.size := (Array.getElem?_eq_some_iff.1 ho).1
  have h3 := List.all_eq_true.1 h2 i (List.mem_range.2 hi)
  rw [ho] at h3
  simp only [Bool.and_eq_true] at h3
  have h4 := h3.2
  rw [hq] at h4
  simp only [Bool.not_true, Bool.false_or, Bool.or_eq_true, beq_iff_eq, List.any_eq_true, List.mem_range, Bool.and_eq_true] at h4
  rcases h4 with h4 | ⟨j, h5, h6, h7⟩
  · exact absurd h4 hd
  · refine ⟨j, h5, h6, ?_⟩
    cases hqj : q j with
    | true => rw [hqj] at h7; exact .inl ⟨rfl, by simpa using h7⟩
    | false => rw [hqj] at h7; exact .inr ⟨rfl, by simpa using h7⟩

/-- What an operation that has come left in its slot. -/
def Left (ops : Array Oper) (val : Nat → Option Fn) (vs : List Value) (a : Act) (j : Nat) : Prop :=
  match ops[j]? with
  | none => True
  | some o => match o.dst with
    | none => True
    | some d => match val j with
      | some f => slot a d = f vs
      | none => slot a d = vs.getD (pos val j) undef

/-- What is known at an operation. -/
structure Ctx (ops : Array Oper) (val : Nat → Option Fn) (a0 : Act) (i : Nat) (o : Oper) (vs : List Value) (a : Act) : Prop where
  defers : a.defers = a0.defers
  size : a.tmps.size = a0.tmps.size
  outer : ∀ t, outer ops t = true → slot a t = slot a0 t
  left : ∀ j, waits o j = true → Left ops val vs a j
  fresh : ∀ (j : Nat) (o' : Oper) (d : Nat), ops[j]? = some o' → waits o' i = true → o'.dst = some d → slot a d = slot a0 d
  ahead : ∀ (j : Nat) (o' : Oper), ops[j]? = some o' → waits o' i = true → val j = none → vs.length ≤ pos val j

/-- What is known at the end. -/
structure EndCtx (ops : Array Oper) (val : Nat → Option Fn) (a0 : Act) (vs : List Value) (a : Act) : Prop where
  defers : a.defers = a0.defers
  size : a.tmps.size = a0.tmps.size
  outer : ∀ t, outer ops t = true → slot a t = slot a0 t
  left : ∀ j, Left ops val vs a j

/-- What is owed at each operation. -/
def Owes (P : Program) (ops : Array Oper) (Q : Exit → Act → World → Prop) (val : Nat → Option Fn) (dep : Nat → Nat) (Φ : List Value → World → Prop) (a0 : Act) : Nat → List Oper → Prop
  | _, [] => True
  | i, o :: r => (match val i with
      | some f => ∀ vs a w, dep i ≤ vs.length → Φ vs w → Ctx ops val a0 i o vs a → Region.wanted o (yielded ops a.tmps) = true ∧ (execOp a.eval o).run P w = .ok (.value (f vs)) w
      | none => ∀ vs a w, vs.length = pos val i → Φ vs w → Ctx ops val a0 i o vs a → Region.wanted o (yielded ops a.tmps) = true ∧ o.wp P a w (fun a' w' => ∃ v, a' = a.put o.dst v ∧ Φ (vs ++ [v]) w') Q) ∧ Owes P ops Q val dep Φ a0 (i + 1) r

theorem Owes.get {val : Nat → Option Fn} {dep : Nat → Nat} {Φ : List Value → World → Prop} {a0 : Act} : ∀ (l : List Oper) (k : Nat), Owes P ops Q val dep Φ a0 k l → ∀ i o, l[i]? = some o → (match val (k + i) with
      | some f => ∀ vs a w, dep (k + i) ≤ vs.length → Φ vs w → Ctx ops val a0 (k + i) o vs a → Region.wanted o (yielded ops a.tmps) = true ∧ (execOp a.eval o).run P w = .ok (.value (f vs)) w
      | none => ∀ vs a w, vs.length = pos val (k + i) → Φ vs w → Ctx ops val a0 (k + i) o vs a → Region.wanted o (yielded ops a.tmps) = true ∧ o.wp P a w (fun a' w' => ∃ v, a' = a.put o.dst v ∧ Φ (vs ++ [v]) w') Q)
  | [], _, _, i, o, h => by simp at h
  | x :: l, k, hl, 0, o, h => by
    simp at h; subst h; exact hl.1
  | x :: l, k, hl, i + 1, o, h => by
    have := Owes.get l (k + 1) hl.2 i o (by simpa using h)
    rw [show k + (i + 1) = k + 1 + i by omega]
    exact this

structure Inv (ops : Array Oper) (val : Nat → Option Fn) (dep : Nat → Nat) (a0 : Act) (L : Nat → Bool) (vs : List Value) (a : Act) : Prop where
  defers : a.defers = a0.defers
  size : a.tmps.size = a0.tmps.size
  outer : ∀ t, outer ops t = true → slot a t = slot a0 t
  left : ∀ j, L j = true → Left ops val vs a j
  pre : ∀ j o, ops[j]? = some o → val j = none → (L j = true ↔ pos val j < vs.length)
  fresh : ∀ j o d, ops[j]? = some o → L j = false → o.dst = some d → slot a d = slot a0 d
  closed : ∀ j o, ops[j]? = some o → L j = true → ∀ i, waits o i = true → L i = true
  len : vs.length ≤ pos val ops.size
  deps : ∀ j o f, ops[j]? = some o → val j = some f → L j = true → dep j ≤ vs.length

theorem Inv.ctx {val : Nat → Option Fn} {dep : Nat → Nat} {a0 : Act} {L : Nat → Bool} {vs : List Value} {a : Act} {i : Nat} {o : Oper} (h : Inv ops val dep a0 L vs a) (hl : L i = false) (hw : ∀ j, waits o j = true → L j = true) : Ctx ops val a0 i o vs a := by
  have no : ∀ j o', ops[j]? = some o' → waits o' i = true → L j = false := fun j o' hj hw' => by
    cases hL : L j with
    | false => rfl
    | true =>
      have := h.closed j o' hj hL i hw'
      rw [hl] at this; cases this
  refine ⟨h.defers, h.size, h.outer, fun j hj => h.left j (hw j hj), fun j o' d hj hw' hd => h.fresh j o' d hj (no j o' hj hw') hd, fun j o' hj hw' hv => ?_⟩
  have := no j o' hj hw'
  have k := (h.pre j o' hj hv).2
  rcases Nat.lt_or_ge (pos val j) vs.length with hh | hh
  · rw [k hh] at this; cases this
  · exact hh

theorem left_other {val : Nat → Option Fn} {vs vs' : List Value} {a : Act} {j i d : Nat} {v : Value} (h : Left ops val vs a j) (hne : ∀ o' , ops[j]? = some o' → o'.dst ≠ some d) (hvs : val j = none → vs'.getD (pos val j) undef = vs.getD (pos val j) undef) (hfs : ∀ f, val j = some f → f vs' = f vs) : Left ops val vs' (a.put (some d) v) j := by
  unfold Left at *
  cases ho : ops[j]? with
  | none => simp [ho]
  | some o =>
    rw [ho] at h
    simp only at h ⊢
    cases hd : o.dst with
    | none => simp
    | some d' =>
      rw [hd] at h
      simp only at h ⊢
      have hdd : d' ≠ d := fun e => hne o ho (by rw [hd, e])
      rw [slot_put_other _ _ _ _ hdd]
      cases hv : val j with
      | some x => rw [hv] at h; simp only at h ⊢; rw [hfs x hv]; exact h
      | none => rw [hv] at h; simp only at h ⊢; rw [hvs hv]; exact h

theorem left_none {val : Nat → Option Fn} {vs vs' : List Value} {a : Act} {j : Nat} (h : Left ops val vs a j) (hvs : val j = none → vs'.getD (pos val j) undef = vs.getD (pos val j) undef) (hfs : ∀ f, val j = some f → f vs' = f vs) : Left ops val vs' a j := by
  unfold Left at *
  cases ho : ops[j]? with
  | none => simp
  | some o =>
    rw [ho] at h
    simp only at h ⊢
    cases hd : o.dst with
    | none => simp
    | some d' =>
      rw [hd] at h
      simp only at h ⊢
      cases hv : val j with
      | some x => rw [hv] at h; simp only at h ⊢; rw [hfs x hv]; exact h
      | none => rw [hv] at h; simp only at h ⊢; rw [hvs hv]; exact h

theorem outer_ne {t i : Nat} {o : Oper} (h : outer ops t = true) (ho : ops[i]? = some o) : o.dst ≠ some t := by
  unfold outer at h
  have hm : o ∈ ops.toList := by
    obtain ⟨hi, e⟩ := Array.getElem?_eq_some_iff.1 ho
    rw [← e]; simp
  simpa using List.all_eq_true.1 h o hm

theorem Inv.quiet {val : Nat → Option Fn} {dep : Nat → Nat} {a0 : Act} {L : Nat → Bool} {vs : List Value} {a : Act} {i d : Nat} {o : Oper} {v : Fn} (hok : quietOK ops a0.tmps.size (fun i => (val i).isSome) dep = true) (h : Inv ops val dep a0 L vs a) (hl : L i = false) (hw : ∀ j, waits o j = true → L j = true) (ho : ops[i]? = some o) (hv : val i = some v) (hd : o.dst = some d) (hdp : dep i ≤ vs.length) : Inv ops val dep a0 (fun j => j == i || L j) vs (a.put (some d) (v vs)) := by
  obtain ⟨h1, h2⟩ := ok_dst hok ho hd
  refine ⟨h.defers, by simp [Act.put, h.size], fun t ht => ?_, fun j hj => ?_, fun j o' hj hv' => ?_, fun j o' d' hj hL hd' => ?_, fun j o' hj hL k hk => ?_, h.len, fun j o' f hj hf hL => (by
    by_cases e : j = i
    · subst e; exact hdp
    · exact h.deps j o' f hj hf (by simpa [e] using hL))⟩
  · rw [slot_put_other _ _ _ _ (fun e => outer_ne ht ho (by rw [hd, e]))]; exact h.outer t ht
  · by_cases e : j = i
    · subst e
      unfold Left
      simp only [ho, hd, hv]
      exact slot_put_same _ _ _ (by rw [h.size]; exact h1)
    · have hj' : L j = true := by simpa [e] using hj
      exact left_other (i := i) (h.left j hj') (fun o' ho' => h2 j o' ho' e) (fun _ => rfl) (fun _ _ => rfl)
  · have e : j ≠ i := fun e => by subst e; rw [hv] at hv'; cases hv'
    have : (j == i || L j) = L j := by simp [e]
    rw [this]
    exact h.pre j o' hj hv'
  · have e : j ≠ i := fun e => by subst e; simp at hL
    rw [slot_put_other _ _ _ _ (fun e2 => h2 j o' hj e (by rw [hd', e2]))]
    exact h.fresh j o' d' hj (by simpa [e] using hL) hd'
  · by_cases e : j = i
    · subst e
      rw [ho] at hj; cases hj
      simp [hw k hk]
    · have : L k = true := h.closed j o' hj (by simpa [e] using hL) k hk
      simp [this]

theorem Inv.loud {val : Nat → Option Fn} {dep : Nat → Nat} {a0 : Act} {L : Nat → Bool} {vs : List Value} {a : Act} {i : Nat} {o : Oper} {v : Value} (hok : quietOK ops a0.tmps.size (fun i => (val i).isSome) dep = true) (h : Inv ops val dep a0 L vs a) (hl : L i = false) (hw : ∀ j, waits o j = true → L j = true) (ho : ops[i]? = some o) (hv : val i = none) (hp : vs.length = pos val i) (hst : ∀ j f vs v, val j = some f → dep j ≤ vs.length → f (vs ++ [v]) = f vs) : Inv ops val dep a0 (fun j => j == i || L j) (vs ++ [v]) (a.put o.dst v) := by
  have hi : i < ops.size := (Array.getElem?_eq_some_iff.1 ho).1
  have old : ∀ j o', ops[j]? = some o' → L j = true → val j = none → (vs ++ [v]).getD (pos val j) undef = vs.getD (pos val j) undef := fun j o' hj hL hv' => by
    have := (h.pre j o' hj hv').1 hL
    simp [List.getD, List.getElem?_append_left this]
  have lf : ∀ j, L j = true → Left ops val (vs ++ [v]) a j := fun j hj => by
    cases hoj : ops[j]? with
    | none => unfold Left; simp [hoj]
    | some o' => exact left_none (h.left j hj) (fun hv' => old j o' hoj hj hv') (fun f hf => hst j f vs v hf (h.deps j o' f hoj hf hj))
  refine ⟨by cases o.dst <;> exact h.defers, by cases o.dst <;> simp [Act.put, h.size], fun t ht => ?_, fun j hj => ?_, fun j o' hj hv' => ?_, fun j o' d' hj hL hd' => ?_, fun j o' hj hL k hk => ?_, ?_, fun j o' f hj hf hL => ?_⟩
  · cases hd : o.dst with
    | none => exact h.outer t ht
    | some d => rw [slot_put_other _ _ _ _ (fun e => outer_ne ht ho (by rw [hd, e]))]; exact h.outer t ht
  · by_cases e : j = i
    · subst e
      unfold Left
      simp only [ho, hv]
      cases hd : o.dst with
      | none => trivial
      | some d =>
        simp only
        rw [slot_put_same _ _ _ (by rw [h.size]; exact (ok_dst hok ho hd).1)]
        simp [List.getD, ← hp]
    · have hj' : L j = true := by simpa [e] using hj
      cases hd : o.dst with
      | none => exact lf j hj'
      | some d => exact left_other (i := i) (lf j hj') (fun o' ho' => (ok_dst hok ho hd).2 j o' ho' e) (fun _ => rfl) (fun _ _ => rfl)
  · by_cases e : j = i
    · subst e
      simp [hp]
    · have e2 : (j == i || L j) = L j := by simp [e]
      rw [e2, h.pre j o' hj hv', List.length_append, List.length_singleton]
      have : pos val j ≠ pos val i := fun e3 => e (pos_inj val hv' hv e3)
      omega
  · have e : j ≠ i := fun e => by subst e; simp at hL
    have hf := h.fresh j o' d' hj (by simpa [e] using hL) hd'
    cases hd : o.dst with
    | none => exact hf
    | some d => rw [slot_put_other _ _ _ _ (fun e2 => (ok_dst hok ho hd).2 j o' hj e (by rw [hd', e2]))]; exact hf
  · by_cases e : j = i
    · subst e
      rw [ho] at hj; cases hj
      simp [hw k hk]
    · have : L k = true := h.closed j o' hj (by simpa [e] using hL) k hk
      simp [this]
  · rw [List.length_append, List.length_singleton, hp]
    exact pos_lt val hi hv
  · have e : j ≠ i := fun e => by subst e; rw [hv] at hf; cases hf
    have := h.deps j o' f hj hf (by simpa [e] using hL)
    rw [List.length_append]; omega

/-- The last of the others ahead of the operation i. -/
theorem last_loud (val : Nat → Option Fn) : ∀ i, 0 < pos val i → ∃ j, j < i ∧ val j = none ∧ pos val j + 1 = pos val i ∧ ∀ k, j < k → k < i → (val k).isSome = true
  | 0, h => by simp [pos] at h
  | i + 1, h => by
    rw [pos_succ] at h ⊢
    cases hv : val i with
    | none => exact ⟨i, by omega, hv, by simp, fun k h1 h2 => by omega⟩
    | some x =>
      simp only [hv, Option.isNone_some] at h
      obtain ⟨j, h1, h2, h3, h4⟩ := last_loud val i (by simpa using h)
      refine ⟨j, by omega, h2, by simpa using h3, fun k h5 h6 => ?_⟩
      rcases Nat.lt_or_ge k i with hk | hk
      · exact h4 k h5 hk
      · have : k = i := by omega
        subst this; simp [hv]

theorem wp_region_deps {id : Nat} {a0 : Act} {w0 : World} (val : Nat → Option Fn) (dep : Nat → Nat) (Φ : List Value → World → Prop) (hm : P.follows .mixedOrders = true) (hok : quietOK ops a0.tmps.size (fun i => (val i).isSome) dep = true)
    (hst : ∀ j f vs v, val j = some f → dep j ≤ vs.length → f (vs ++ [v]) = f vs) (h0 : Φ [] w0.drew) (hsteps : Owes P ops Q val dep Φ a0 0 ops.toList)
    (hend : ∀ vs a w, vs.length = pos val ops.size → Φ vs w → EndCtx ops val a0 vs a → Q .normal a w) : (Code.region id ops true).wp P Q a0 w0 := by
  refine wp_region_inv (fun L a w => ∃ vs, Φ vs w ∧ Inv ops val dep a0 L vs a) hm (ok_order hok) ⟨[], h0, ⟨rfl, rfl, fun _ _ => rfl, fun _ h => (by cases h), fun j o _ _ => ⟨fun h => (by cases h), fun h => (by simp at h)⟩, fun _ _ _ _ _ _ => rfl, fun _ _ _ h => (by cases h), by simp, fun _ _ _ _ _ h => (by cases h)⟩⟩ ?_ ?_
  · rintro i o L a w ho hl hw ⟨vs, hΦ, hI⟩
    have hob := Owes.get ops.toList 0 hsteps i o (by simpa using ho)
    rw [Nat.zero_add] at hob
    cases hv : val i with
    | some v =>
      rw [hv] at hob
      have hdp : dep i ≤ vs.length := by
        rcases Nat.eq_zero_or_pos (dep i) with h | h
        · omega
        · obtain ⟨j, h1, h2, h3⟩ := ok_dep hok ho (by simp [hv]) (by omega)
          have hjs : j < ops.size := Nat.lt_trans h1 (Array.getElem?_eq_some_iff.1 ho).1
          have hLj := hw j h2
          rcases h3 with ⟨h4, h5⟩ | ⟨h4, h5⟩
          · obtain ⟨f, hf⟩ := Option.isSome_iff_exists.1 h4
            have := hI.deps j ops[j] f (Array.getElem?_eq_getElem hjs) hf hLj
            omega
          · have hn : val j = none := by simpa using h4
            have := (hI.pre j ops[j] (Array.getElem?_eq_getElem hjs) hn).1 hLj
            have e : (List.range j).countP (fun k => !(val k).isSome) = pos val j := by
              unfold pos
              congr 1
              funext k
              cases val k <;> rfl
            rw [e] at h5
            omega
      obtain ⟨h1, h2⟩ := hob vs a w hdp hΦ (hI.ctx hl hw)
      obtain ⟨d, hd⟩ := ok_quiet hok ho (by simp [hv])
      refine ⟨h1, ?_⟩
      unfold Oper.wp
      rw [h2]
      show ∃ us, Φ us w ∧ Inv ops val dep a0 (fun j => j == i || L j) us (a.put o.dst (v vs))
      rw [hd]
      exact ⟨vs, hΦ, hI.quiet hok hl hw ho hv hd hdp⟩
    | none =>
      rw [hv] at hob
      have hp : vs.length = pos val i := by
        have a1 : ¬ pos val i < vs.length := fun hh => by
          have := (hI.pre i o ho hv).2 hh
          rw [hl] at this; cases this
        rcases Nat.eq_zero_or_pos (pos val i) with h | h
        · omega
        · obtain ⟨j, h1, h2, h3, h4⟩ := last_loud val i h
          have hwj := ok_chain hok ho (by simp [hv]) h1 (by simp [h2]) h4
          have hLj := hw j hwj
          have hjs : j < ops.size := Nat.lt_trans h1 (Array.getElem?_eq_some_iff.1 ho).1
          have := (hI.pre j ops[j] (Array.getElem?_eq_getElem hjs) h2).1 hLj
          omega
      obtain ⟨h1, h2⟩ := hob vs a w hp hΦ (hI.ctx hl hw)
      refine ⟨h1, Oper.wp_mono ?_ h2⟩
      rintro a' w' ⟨v, rfl, hΦ'⟩
      exact ⟨vs ++ [v], hΦ', hI.loud hok hl hw ho hv hp hst⟩
  · rintro L a w hall ⟨vs, hΦ, hI⟩
    refine hend vs a w ?_ hΦ ⟨hI.defers, hI.size, hI.outer, fun j => ?_⟩
    · have := hI.len
      rcases Nat.lt_or_ge vs.length (pos val ops.size) with h | h
      · obtain ⟨j, h1, h2, h3⟩ := pos_hit val ops.size h
        have := (hI.pre j ops[j] (Array.getElem?_eq_getElem h1) h2).1 (hall j h1)
        omega
      · omega
    · rcases Nat.lt_or_ge j ops.size with h | h
      · exact hI.left j (hall j h)
      · unfold Left
        rw [Array.getElem?_eq_none h]
        trivial

end Go.Proofs.Ytgalmkhgbokidaa.PD

namespace Go.Proofs.Ytgalmkhgbokidaa
open Go.RowKit Go.Proofs
set_option maxRecDepth 20000
set_option linter.unusedVariables false
set_option linter.unusedSimpArgs false

theorem mixed' : Try.prog.follows .mixedOrders = true := by kernel_rfl

theorem usedBy_any (d : Int) (w : World) : Calls Try.prog 33 #[.int .i64 d] w fun e w' => e = .returned (.int .u64 (mask d)) ∧ w' = w := by
  have H : Hid (mask d = (if d = 0 then 4 else if d = 1 then 57 else if d = 2 ∨ d = 4 then 65 else if d = 3 then 3 else if d = 5 then 17 else if d = 6 then 1 else 0)) := rfl
  by_cases h0 : d = 0
  · subst h0
    go_enter Try.func33, Try.ntmps33
    go_wp2
    go_ret
    exact ⟨rfl, rfl⟩
  by_cases h1 : d = 1
  · subst h1
    go_enter Try.func33, Try.ntmps33
    go_wp2
    go_ret
    exact ⟨rfl, rfl⟩
  by_cases h2 : d = 2
  · subst h2
    go_enter Try.func33, Try.ntmps33
    go_wp2
    go_ret
    exact ⟨rfl, rfl⟩
  by_cases h4 : d = 4
  · subst h4
    go_enter Try.func33, Try.ntmps33
    go_wp2
    go_ret
    exact ⟨rfl, rfl⟩
  by_cases h3 : d = 3
  · subst h3
    go_enter Try.func33, Try.ntmps33
    go_wp2
    go_ret
    exact ⟨rfl, rfl⟩
  by_cases h5 : d = 5
  · subst h5
    go_enter Try.func33, Try.ntmps33
    go_wp2
    go_ret
    exact ⟨rfl, rfl⟩
  by_cases h6 : d = 6
  · subst h6
    go_enter Try.func33, Try.ntmps33
    go_wp2
    go_ret
    exact ⟨rfl, rfl⟩
  have e : mask d = 0 := by unfold mask; simp [h0, h1, h2, h3, h4, h5, h6]
  have E := hid' e
  have b0 : (d == 0) = false := by simpa using h0
  have b1 : (d == 1) = false := by simpa using h1
  have b2 : (d == 2) = false := by simpa using h2
  have b3 : (d == 3) = false := by simpa using h3
  have b4 : (d == 4) = false := by simpa using h4
  have b5 : (d == 5) = false := by simpa using h5
  have b6 : (d == 6) = false := by simpa using h6
  clear H e h0 h1 h2 h3 h4 h5 h6
  go_enter Try.func33, Try.ntmps33
  go_wp2
  go_ret
  exact ⟨by rw [E.out]; rfl, rfl⟩

/-- Is a field among them? -/
def hasB (m one : Int) : Bool := bits .and .u64 m one != 0

theorem has_at (m one : Int) (b : Bool) (h : hasB m one = b) (w : World) : Calls Try.prog 34 #[.int .u64 m, .int .u64 one] w fun e w' => e = .returned (.bool b) ∧ w' = w := by
  have H := hid' h
  unfold hasB at H
  clear h
  go_enter Try.func34, Try.ntmps34
  go_wp2
  go_ret
  exact ⟨congrArg Ending.returned (congrArg Value.bool H.out), rfl⟩

/-- Nothing below base, and no block but such of bytes, has changed. -/
structure Kb (base : Nat) (w w' : World) : Prop where
  os : w'.os = w.os
  tape : w'.tape = w.tape
  output : w'.output = w.output
  size : w.heap.size ≤ w'.heap.size
  block : ∀ k, k < w.heap.size → (k < base ∨ ∀ c z, w.heap[k]? ≠ some (.cells c 5 z)) → w'.heap[k]? = w.heap[k]?

theorem Kb.refl (base : Nat) (w : World) : Kb base w w := ⟨rfl, rfl, rfl, Nat.le_refl _, fun _ _ _ => rfl⟩

theorem Kb.trans {base : Nat} {a b c : World} (h : Kb base a b) (k : Kb base b c) : Kb base a c := by
  refine ⟨k.os.trans h.os, k.tape.trans h.tape, k.output.trans h.output, Nat.le_trans h.size k.size, fun i hi hc => ?_⟩
  have e := h.block i hi hc
  rw [k.block i (Nat.lt_of_lt_of_le hi h.size) (by rw [e]; exact hc), e]

theorem Kb.below {base : Nat} {w w' : World} (h : Kb base w w') (hB : base ≤ w.heap.size) : Below base w w' :=
  ⟨h.os, h.tape, h.output, h.size, fun k hk => h.block k (by omega) (.inl hk)⟩

theorem Kb.of_below {base : Nat} {w w' : World} (h : Below w.heap.size w w') : Kb base w w' := ⟨h.os, h.tape, h.output, h.size, fun k hk _ => h.block k hk⟩

theorem Kb.alloc {base : Nat} {w w' : World} (h : Kb base w w') (o : Obj) : Kb base w (w'.alloc o) := h.trans (Kb.of_below ((Below.refl _ _).alloc (Nat.le_refl _) o))
theorem Kb.mono {base base' : Nat} {w w' : World} (h : Kb base w w') (hb : base' ≤ base) : Kb base' w w' := ⟨h.os, h.tape, h.output, h.size, fun k hk hc => h.block k hk (by rcases hc with hc | hc; exact .inl (by omega); exact .inr hc)⟩

theorem Kb.grown {base : Nat} {w w' : World} {v : Value} {n : Nat} {xs : List Value} (h : w.grownBy w' v.ownBlock) (ho : w.ownsRow base 5 1 v n xs) : Kb base w w' := by
  refine ⟨h.os, h.tape, h.output, h.size, fun k hk hc => h.block k hk fun e => ?_⟩
  have h1 := ho.lt k e.symm
  rcases ho.2 with ⟨rfl, _⟩ | ⟨g, cap, cur, rfl, _, hg, _⟩
  · simp [Value.ownBlock] at e
  · simp [Value.ownBlock] at e
    subst e
    rcases hc with hc | hc
    · omega
    · exact hc _ _ hg

theorem Bx.kb {base : Nat} {w w' : World} {b : Nat} {cs : Array Value} {t : TypeId} (h : Bx w b cs t) (k : Kb base w w') (ht : t ≠ 5) : Bx w' b cs t :=
  (k.block b h.lt (.inr fun c z e => ht (by
    have e2 : some (Obj.cells cs t (0, 0)) = some (.cells c 5 z) := h.symm.trans e
    simp at e2
    exact e2.2.1))).trans h

theorem owns_below {base e sz n : Nat} {w w' : World} {v : Value} {xs : List Value} (h : w.ownsRow base e sz v n xs) (hb : Below w.heap.size w w') : w'.ownsRow base e sz v n xs := by
  have hg : w.grownBy w' none := ⟨hb.os, hb.tape, hb.output, hb.size, fun k hk _ => hb.block k hk⟩
  refine h.kept hg ?_
  cases v.ownBlock with
  | none => exact .inl rfl
  | some k => exact .inr (by simp)

theorem own_base {base base' e sz n : Nat} {w : World} {v : Value} {xs : List Value} (h : w.ownsRow base e sz v n xs) (hb : base' ≤ base) : w.ownsRow base' e sz v n xs := by
  refine ⟨h.1, ?_⟩
  rcases h.2 with h | ⟨g, cap, cur, h1, h2, h3⟩
  · exact .inl h
  · exact .inr ⟨g, cap, cur, h1, by omega, h3⟩

/-- v is a slice of bytes of the call's own that reads as l. -/
def Own (base : Nat) (w : World) (v : Value) (l : List Int) : Prop := w.ownsRow base 5 1 v l.length (B8 l)

theorem Own.below {base : Nat} {w w' : World} {v : Value} {l : List Int} (h : Own base w v l) (hb : Below w.heap.size w w') : Own base w' v l := owns_below h hb
theorem Own.base {base base' : Nat} {w : World} {v : Value} {l : List Int} (h : Own base w v l) (hb : base' ≤ base) : Own base' w v l := own_base h hb
theorem Own.kb_alloc {base : Nat} {w : World} {v : Value} {l : List Int} (h : Own base w v l) (o : Obj) : Own base (w.alloc o) v l := owns_below h ((Below.refl _ _).alloc (Nat.le_refl _) o)

/-- What it reads as. -/
theorem Own.bts {base : Nat} {w : World} {v : Value} {l : List Int} (h : Own base w v l) (hr : Byt l) : ∃ a c, v = .slice a l.length c ∧ l.length ≤ c ∧ Bts w.heap.size w a l ∧ (l ≠ [] → ∃ g, a = some ⟨g, 0, none⟩) := by
  have hh := h
  unfold Own at h
  rw [← flat_B8] at h
  obtain ⟨a, c, rfl, hs, hsh⟩ := SP.of_owns (d := 0) cB_len h
  refine ⟨a, c, rfl, hsh.2, BP.bts hs hr, fun hne => ?_⟩
  rcases hh.2 with ⟨_, h0⟩ | ⟨g, cap, cur, hv, _⟩
  · exact absurd (List.length_eq_zero_iff.1 h0) hne
  · cases hv; exact ⟨g, rfl⟩

/-- What a call answers that puts r behind its own bytes l. -/
def PutAns (base : Nat) (w : World) (l r : List Int) (e : Ending) (w' : World) : Prop := ∃ v, e = .returned v ∧ Own base w' v (l ++ r) ∧ Kb base w w'

theorem putNumber_any (base : Nat) (w : World) (v : Value) (l : List Int) (z : Int) (hB : base ≤ w.heap.size) (ho : Own base w v l) (hz : R64 z) (hl : (l ++ oneB z).length ≤ 1000000000) :
    Calls Try.prog 56 #[v, .int .i64 z] w (PutAns base w l (oneB z)) := by
  obtain ⟨i0, hi, hz0, hz1, hz2⟩ := info_parts Try.info5
  have H := hid' (putInt_any w none 0 [] z (Bts.nil _ _ _) (by simp) hz.1 hz.2)
  have HL := hid' hl
  have HO := hid' ho
  unfold oneB at HL ⊢
  rw [List.length_append, length_bytesOf] at HL
  simp only [List.length_nil, Nat.zero_add, List.nil_append] at H
  generalize (zig z).toNat = m at *
  clear hl ho hz
  go_enter Try.func56, Try.ntmps56
  go_wp2_with fail
  refine H.out.mono ?_
  rintro e w2 ⟨g, c, rfl, hown, hbel⟩
  have HW := hid' (owns_below HO.out hbel)
  have HS := hid' (hbel.size)
  go_wp2_with (first
    | (at_builtin; refine wpList_append_own _ rfl (.tmp 5) (.tmp 7) 22 rfl base 5 i0 (.int .u8 0) 1 1 Try.underlying22 hi hz0 hz1 hz2 rfl (by decide) v l.length (B8 l) rfl HW.out ⟨g, 0, none⟩ (sz m) c (B8 (bytesOf m)) rfl (by rw [length_B8, length_bytesOf]; omega) (hown.cells rfl) (B8_one _) (by have := HL.out; unfold maxLen; omega) (by have := HL.out; omega) (by have := HS.out; omega) ?_; intro v' w1 hown1 hgrow1 hnil1))
  have K := hid' ((Kb.of_below (base := base) hbel).trans (Kb.grown hgrow1 HW.out))
  have O : Hid (Own base w1 v' (l ++ bytesOf m)) := (by
    unfold Own
    rw [B8_append, List.length_append, length_bytesOf]
    exact hown1 : Own base w1 v' (l ++ bytesOf m))
  clear hown1 hgrow1 hnil1 hown hbel HW
  go_wp2
  go_ret
  exact ⟨v', rfl, O.out, K.out⟩

end Go.Proofs.Ytgalmkhgbokidaa

namespace Go.Proofs.Ytgalmkhgbokidaa
open Go.RowKit Go.Proofs
set_option maxRecDepth 20000
set_option linter.unusedVariables false
set_option linter.unusedSimpArgs false

section
variable {a : Act} {t u c : Nat} {dst : Option Tmp} {ty : TypeId} {pos : String} {aft : Array Edge} {guard : Option (Nat × Bool)}

theorem run_moveD {v : Value} (w : World) (h : PB.slot a t = v) : (execOp a.eval { dst := dst, op := .move (.tmp t), type := ty, pos := pos, after := aft, guard := guard }).run Try.prog w = .ok (.value v) w := by
  have h1 : a.tmps[t]?.getD undef = v := by rw [← Array.getD_eq_getD_getElem?]; exact h
  go_simp

theorem run_assD {v : Value} (w : World) (h : PB.slot a t = v) : (execOp a.eval { dst := dst, op := .assign (.tmp t), type := ty, pos := pos, after := aft, guard := guard }).run Try.prog w = .ok (.value v) w := by
  have h1 : a.tmps[t]?.getD undef = v := by rw [← Array.getD_eq_getD_getElem?]; exact h
  go_simp

theorem run_nilc {g : Nat} (w : World) (h : PB.slot a t = ptr g) : (execOp a.eval { dst := dst, op := .nilCheck (.tmp t), type := ty, pos := pos, after := aft, guard := guard }).run Try.prog w = .ok (.value (ptr g)) w := by
  have h1 : a.tmps[t]?.getD undef = ptr g := by rw [← Array.getD_eq_getD_getElem?]; exact h
  unfold ptr at *
  go_simp

theorem run_faTime0 {g : Nat} (w : World) (h : PB.slot a t = ptr g) : (execOp a.eval { dst := dst, op := .fieldAddr 26 (.tmp t) 0, type := ty, pos := pos, after := aft, guard := guard }).run Try.prog w = .ok (.value (.pointer (some ⟨g, 0, none⟩))) w := by
  have h1 : a.tmps[t]?.getD undef = ptr g := by rw [← Array.getD_eq_getD_getElem?]; exact h
  unfold ptr at *
  go_simp

theorem run_faTime1 {g : Nat} (w : World) (h : PB.slot a t = ptr g) : (execOp a.eval { dst := dst, op := .fieldAddr 26 (.tmp t) 1, type := ty, pos := pos, after := aft, guard := guard }).run Try.prog w = .ok (.value (.pointer (some ⟨g, 1, none⟩))) w := by
  have h1 : a.tmps[t]?.getD undef = ptr g := by rw [← Array.getD_eq_getD_getElem?]; exact h
  unfold ptr at *
  go_simp

theorem run_faVal0 {g : Nat} (w : World) (h : PB.slot a t = ptr g) : (execOp a.eval { dst := dst, op := .fieldAddr 78 (.tmp t) 0, type := ty, pos := pos, after := aft, guard := guard }).run Try.prog w = .ok (.value (.pointer (some ⟨g, 0, none⟩))) w := by
  have h1 : a.tmps[t]?.getD undef = ptr g := by rw [← Array.getD_eq_getD_getElem?]; exact h
  unfold ptr at *
  go_simp

theorem run_faVal1 {g : Nat} (w : World) (h : PB.slot a t = ptr g) : (execOp a.eval { dst := dst, op := .fieldAddr 78 (.tmp t) 1, type := ty, pos := pos, after := aft, guard := guard }).run Try.prog w = .ok (.value (.pointer (some ⟨g, 1, none⟩))) w := by
  have h1 : a.tmps[t]?.getD undef = ptr g := by rw [← Array.getD_eq_getD_getElem?]; exact h
  unfold ptr at *
  go_simp

theorem run_faVal2 {g : Nat} (w : World) (h : PB.slot a t = ptr g) : (execOp a.eval { dst := dst, op := .fieldAddr 78 (.tmp t) 2, type := ty, pos := pos, after := aft, guard := guard }).run Try.prog w = .ok (.value (.pointer (some ⟨g, 2, none⟩))) w := by
  have h1 : a.tmps[t]?.getD undef = ptr g := by rw [← Array.getD_eq_getD_getElem?]; exact h
  unfold ptr at *
  go_simp

theorem run_faCmd0 {g : Nat} (w : World) (h : PB.slot a t = ptr g) : (execOp a.eval { dst := dst, op := .fieldAddr 31 (.tmp t) 0, type := ty, pos := pos, after := aft, guard := guard }).run Try.prog w = .ok (.value (.pointer (some ⟨g, 0, none⟩))) w := by
  have h1 : a.tmps[t]?.getD undef = ptr g := by rw [← Array.getD_eq_getD_getElem?]; exact h
  unfold ptr at *
  go_simp

theorem run_faCmd1 {g : Nat} (w : World) (h : PB.slot a t = ptr g) : (execOp a.eval { dst := dst, op := .fieldAddr 31 (.tmp t) 1, type := ty, pos := pos, after := aft, guard := guard }).run Try.prog w = .ok (.value (.pointer (some ⟨g, 1, none⟩))) w := by
  have h1 : a.tmps[t]?.getD undef = ptr g := by rw [← Array.getD_eq_getD_getElem?]; exact h
  unfold ptr at *
  go_simp

theorem run_faCmd2 {g : Nat} (w : World) (h : PB.slot a t = ptr g) : (execOp a.eval { dst := dst, op := .fieldAddr 31 (.tmp t) 2, type := ty, pos := pos, after := aft, guard := guard }).run Try.prog w = .ok (.value (.pointer (some ⟨g, 2, none⟩))) w := by
  have h1 : a.tmps[t]?.getD undef = ptr g := by rw [← Array.getD_eq_getD_getElem?]; exact h
  unfold ptr at *
  go_simp

theorem run_faCmd3 {g : Nat} (w : World) (h : PB.slot a t = ptr g) : (execOp a.eval { dst := dst, op := .fieldAddr 31 (.tmp t) 3, type := ty, pos := pos, after := aft, guard := guard }).run Try.prog w = .ok (.value (.pointer (some ⟨g, 6, none⟩))) w := by
  have h1 : a.tmps[t]?.getD undef = ptr g := by rw [← Array.getD_eq_getD_getElem?]; exact h
  unfold ptr at *
  go_simp

theorem run_faCmd4 {g : Nat} (w : World) (h : PB.slot a t = ptr g) : (execOp a.eval { dst := dst, op := .fieldAddr 31 (.tmp t) 4, type := ty, pos := pos, after := aft, guard := guard }).run Try.prog w = .ok (.value (.pointer (some ⟨g, 7, none⟩))) w := by
  have h1 : a.tmps[t]?.getD undef = ptr g := by rw [← Array.getD_eq_getD_getElem?]; exact h
  unfold ptr at *
  go_simp

theorem run_faCmd5 {g : Nat} (w : World) (h : PB.slot a t = ptr g) : (execOp a.eval { dst := dst, op := .fieldAddr 31 (.tmp t) 5, type := ty, pos := pos, after := aft, guard := guard }).run Try.prog w = .ok (.value (.pointer (some ⟨g, 8, none⟩))) w := by
  have h1 : a.tmps[t]?.getD undef = ptr g := by rw [← Array.getD_eq_getD_getElem?]; exact h
  unfold ptr at *
  go_simp

theorem run_faRdr0 {g : Nat} (w : World) (h : PB.slot a t = ptr g) : (execOp a.eval { dst := dst, op := .fieldAddr 82 (.tmp t) 0, type := ty, pos := pos, after := aft, guard := guard }).run Try.prog w = .ok (.value (.pointer (some ⟨g, 0, none⟩))) w := by
  have h1 : a.tmps[t]?.getD undef = ptr g := by rw [← Array.getD_eq_getD_getElem?]; exact h
  unfold ptr at *
  go_simp

theorem run_faRdr1 {g : Nat} (w : World) (h : PB.slot a t = ptr g) : (execOp a.eval { dst := dst, op := .fieldAddr 82 (.tmp t) 1, type := ty, pos := pos, after := aft, guard := guard }).run Try.prog w = .ok (.value (.pointer (some ⟨g, 1, none⟩))) w := by
  have h1 : a.tmps[t]?.getD undef = ptr g := by rw [← Array.getD_eq_getD_getElem?]; exact h
  unfold ptr at *
  go_simp

theorem run_faRdr2 {g : Nat} (w : World) (h : PB.slot a t = ptr g) : (execOp a.eval { dst := dst, op := .fieldAddr 82 (.tmp t) 2, type := ty, pos := pos, after := aft, guard := guard }).run Try.prog w = .ok (.value (.pointer (some ⟨g, 2, none⟩))) w := by
  have h1 : a.tmps[t]?.getD undef = ptr g := by rw [← Array.getD_eq_getD_getElem?]; exact h
  unfold ptr at *
  go_simp

theorem run_faUp0 {g : Nat} (w : World) (h : PB.slot a t = .pointer (some ⟨g, 2, none⟩)) : (execOp a.eval { dst := dst, op := .fieldAddr 28 (.tmp t) 0, type := ty, pos := pos, after := aft, guard := guard }).run Try.prog w = .ok (.value (.pointer (some ⟨g, 2, none⟩))) w := by
  have h1 : a.tmps[t]?.getD undef = .pointer (some ⟨g, 2, none⟩) := by rw [← Array.getD_eq_getD_getElem?]; exact h
  go_simp

theorem run_faUp1 {g : Nat} (w : World) (h : PB.slot a t = .pointer (some ⟨g, 2, none⟩)) : (execOp a.eval { dst := dst, op := .fieldAddr 28 (.tmp t) 1, type := ty, pos := pos, after := aft, guard := guard }).run Try.prog w = .ok (.value (.pointer (some ⟨g, 3, none⟩))) w := by
  have h1 : a.tmps[t]?.getD undef = .pointer (some ⟨g, 2, none⟩) := by rw [← Array.getD_eq_getD_getElem?]; exact h
  go_simp

theorem run_faUp2 {g : Nat} (w : World) (h : PB.slot a t = .pointer (some ⟨g, 2, none⟩)) : (execOp a.eval { dst := dst, op := .fieldAddr 28 (.tmp t) 2, type := ty, pos := pos, after := aft, guard := guard }).run Try.prog w = .ok (.value (.pointer (some ⟨g, 5, none⟩))) w := by
  have h1 : a.tmps[t]?.getD undef = .pointer (some ⟨g, 2, none⟩) := by rw [← Array.getD_eq_getD_getElem?]; exact h
  go_simp

theorem run_loadBy {g k : Nat} {x : Option Addr} {n m : Nat} (w : World) (h : PB.slot a t = .pointer (some ⟨g, k, none⟩)) (hc : w.cell? ⟨g, k, none⟩ = some (.slice x n m)) :
    (execOp a.eval { dst := dst, op := .load 22 (.tmp t), type := ty, pos := pos, after := aft, guard := guard }).run Try.prog w = .ok (.value (.slice x n m)) w := by
  have h0 : a.tmps[t]?.getD undef = .pointer (some ⟨g, k, none⟩) := by rw [← Array.getD_eq_getD_getElem?]; exact h
  go_simp

theorem run_loadRw {g k : Nat} {x : Option Addr} {n m : Nat} (w : World) (h : PB.slot a t = .pointer (some ⟨g, k, none⟩)) (hc : w.cell? ⟨g, k, none⟩ = some (.slice x n m)) :
    (execOp a.eval { dst := dst, op := .load 24 (.tmp t), type := ty, pos := pos, after := aft, guard := guard }).run Try.prog w = .ok (.value (.slice x n m)) w := by
  have h0 : a.tmps[t]?.getD undef = .pointer (some ⟨g, k, none⟩) := by rw [← Array.getD_eq_getD_getElem?]; exact h
  go_simp

theorem run_loadTi {g k : Nat} {x : Option Addr} {n m : Nat} (w : World) (h : PB.slot a t = .pointer (some ⟨g, k, none⟩)) (hc : w.cell? ⟨g, k, none⟩ = some (.slice x n m)) :
    (execOp a.eval { dst := dst, op := .load 29 (.tmp t), type := ty, pos := pos, after := aft, guard := guard }).run Try.prog w = .ok (.value (.slice x n m)) w := by
  have h0 : a.tmps[t]?.getD undef = .pointer (some ⟨g, k, none⟩) := by rw [← Array.getD_eq_getD_getElem?]; exact h
  go_simp

theorem run_loadZ {g k : Nat} {z : Int} (w : World) (h : PB.slot a t = .pointer (some ⟨g, k, none⟩)) (hc : w.cell? ⟨g, k, none⟩ = some (.int .i64 z)) :
    (execOp a.eval { dst := dst, op := .load 3 (.tmp t), type := ty, pos := pos, after := aft, guard := guard }).run Try.prog w = .ok (.value (.int .i64 z)) w := by
  have h0 : a.tmps[t]?.getD undef = .pointer (some ⟨g, k, none⟩) := by rw [← Array.getD_eq_getD_getElem?]; exact h
  go_simp

theorem run_loadS {g k : Nat} {z : ByteArray} (w : World) (h : PB.slot a t = .pointer (some ⟨g, k, none⟩)) (hc : w.cell? ⟨g, k, none⟩ = some (.string z)) :
    (execOp a.eval { dst := dst, op := .load 9 (.tmp t), type := ty, pos := pos, after := aft, guard := guard }).run Try.prog w = .ok (.value (.string z)) w := by
  have h0 : a.tmps[t]?.getD undef = .pointer (some ⟨g, k, none⟩) := by rw [← Array.getD_eq_getD_getElem?]; exact h
  go_simp

theorem run_loadT {g k : Nat} {x y : Int} (w : World) (h : PB.slot a t = .pointer (some ⟨g, k, none⟩)) (hc : w.cell? ⟨g, k, none⟩ = some (.int .i64 x)) (hc1 : w.cell? ⟨g, k + 1, none⟩ = some (.int .i64 y)) :
    (execOp a.eval { dst := dst, op := .load 26 (.tmp t), type := ty, pos := pos, after := aft, guard := guard }).run Try.prog w = .ok (.value (.agg #[.int .i64 x, .int .i64 y])) w := by
  have h0 : a.tmps[t]?.getD undef = .pointer (some ⟨g, k, none⟩) := by rw [← Array.getD_eq_getD_getElem?]; exact h
  go_simp

theorem run_ext0 {x y z : Value} (w : World) (h : PB.slot a t = .tuple #[x, y, z]) : (execOp a.eval { dst := dst, op := .extract (.tmp t) 0, type := ty, pos := pos, after := aft, guard := guard }).run Try.prog w = .ok (.value x) w := by
  have h1 : a.tmps[t]?.getD undef = .tuple #[x, y, z] := by rw [← Array.getD_eq_getD_getElem?]; exact h
  go_simp

theorem run_ext1 {x y z : Value} (w : World) (h : PB.slot a t = .tuple #[x, y, z]) : (execOp a.eval { dst := dst, op := .extract (.tmp t) 1, type := ty, pos := pos, after := aft, guard := guard }).run Try.prog w = .ok (.value y) w := by
  have h1 : a.tmps[t]?.getD undef = .tuple #[x, y, z] := by rw [← Array.getD_eq_getD_getElem?]; exact h
  go_simp

theorem run_ext2 {x y z : Value} (w : World) (h : PB.slot a t = .tuple #[x, y, z]) : (execOp a.eval { dst := dst, op := .extract (.tmp t) 2, type := ty, pos := pos, after := aft, guard := guard }).run Try.prog w = .ok (.value z) w := by
  have h1 : a.tmps[t]?.getD undef = .tuple #[x, y, z] := by rw [← Array.getD_eq_getD_getElem?]; exact h
  go_simp

theorem run_loadC {b o : Nat} {c : Cm} {s : CmS} (w : World) (h : PB.slot a t = .pointer (some ⟨b, o, none⟩)) (hc : ∀ i, i < 9 → w.cell? ⟨b, o + i, none⟩ = (cmA c s)[i]?) :
    (execOp a.eval { dst := dst, op := .load 31 (.tmp t), type := ty, pos := pos, after := aft, guard := guard }).run Try.prog w = .ok (.value (cmV c s)) w := by
  have h0 : a.tmps[t]?.getD undef = .pointer (some ⟨b, o, none⟩) := by rw [← Array.getD_eq_getD_getElem?]; exact h
  have k0 : w.cell? ⟨b, o, none⟩ = some (.int .i64 c.op) := hc 0 (by omega)
  have k1 : w.cell? ⟨b, o + 1, none⟩ = some (.int .i64 c.node) := hc 1 (by omega)
  have k2 : w.cell? ⟨b, o + 2, none⟩ = some (.slice s.ra c.row.length s.rc) := hc 2 (by omega)
  have k3 : w.cell? ⟨b, o + 3, none⟩ = some (.int .i64 c.time.1) := hc 3 (by omega)
  have k4 : w.cell? ⟨b, o + 4, none⟩ = some (.int .i64 c.time.2) := hc 4 (by omega)
  have k5 : w.cell? ⟨b, o + 5, none⟩ = some (.int .i64 c.diff) := hc 5 (by omega)
  have k6 : w.cell? ⟨b, o + 6, none⟩ = some (.slice s.fa c.front.length s.fc) := hc 6 (by omega)
  have k7 : w.cell? ⟨b, o + 7, none⟩ = some (.int .i64 c.fuel) := hc 7 (by omega)
  have k8 : w.cell? ⟨b, o + 8, none⟩ = some (.slice s.sa c.sheet.length s.sc) := hc 8 (by omega)
  unfold cmV cmA
  clear hc
  go_simp
end

end Go.Proofs.Ytgalmkhgbokidaa
