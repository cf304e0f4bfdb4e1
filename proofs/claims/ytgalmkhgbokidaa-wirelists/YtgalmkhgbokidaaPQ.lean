/-
  What is proved here: a law for a statement whose order is left open, where some operations only read what stays as it is (each has one value, whenever it comes) and the others come one behind the other.
-/
import Derived.Test.YtgalmkhgbokidaaPlanI
namespace Go.Proofs.Ytgalmkhgbokidaa.PQ
open Go.RowKit Go.Proofs.Ytgalmkhgbokidaa.PB
set_option linter.unusedVariables false
set_option linter.unusedSimpArgs false

variable {P : Program} {ops : Array Oper} {Q : Exit → Act → World → Prop}

/-- How many of the others stand ahead of the operation i. -/
def pos (val : Nat → Option Value) (i : Nat) : Nat := (List.range i).countP fun j => (val j).isNone

theorem pos_succ (val : Nat → Option Value) (i : Nat) : pos val (i + 1) = pos val i + (if (val i).isNone then 1 else 0) := by
  unfold pos
  rw [List.range_succ, List.countP_append, List.countP_singleton]

theorem pos_mono (val : Nat → Option Value) {i j : Nat} (h : i ≤ j) : pos val i ≤ pos val j := by
  induction j with
  | zero => have : i = 0 := by omega
            subst this; exact Nat.le_refl _
  | succ j ih =>
    rcases Nat.lt_or_ge j i with hj | hj
    · have : i = j + 1 := by omega
      subst this; exact Nat.le_refl _
    · rw [pos_succ]; have := ih hj; omega

theorem pos_lt (val : Nat → Option Value) {i j : Nat} (h : i < j) (hi : val i = none) : pos val i < pos val j := by
  have h1 := pos_mono val (show i + 1 ≤ j from h)
  rw [pos_succ, hi] at h1
  simp at h1
  omega

theorem pos_inj (val : Nat → Option Value) {i j : Nat} (hi : val i = none) (hj : val j = none) (h : pos val i = pos val j) : i = j := by
  rcases Nat.lt_trichotomy i j with hh | hh | hh
  · have := pos_lt val hh hi; omega
  · exact hh
  · have := pos_lt val hh hj; omega

theorem pos_hit (val : Nat → Option Value) {k : Nat} : ∀ n, k < pos val n → ∃ j, j < n ∧ val j = none ∧ pos val j = k
  | 0, h => by simp [pos] at h
  | n + 1, h => by
    rcases Nat.lt_or_ge k (pos val n) with hh | hh
    · obtain ⟨j, h1, h2⟩ := pos_hit val n hh
      exact ⟨j, by omega, h2⟩
    · rw [pos_succ] at h
      by_cases hn : (val n).isNone = true
      · rw [if_pos hn] at h
        exact ⟨n, by omega, by simpa using hn, by omega⟩
      · rw [if_neg hn] at h; omega

/-- Is it such a statement? -/
def quietOK (ops : Array Oper) (n : Nat) (q : Nat → Bool) : Bool :=
  orderOK ops &&
  (List.range ops.size).all (fun i => match ops[i]? with
    | none => false
    | some o => (match o.dst with
        | none => !q i
        | some d => decide (d < n) && (List.range ops.size).all fun j => j == i || (match ops[j]? with | none => false | some o' => o'.dst != some d)) &&
      (q i || (List.range i).all fun j => q j || waits o j || (List.range i).any fun k => decide (j < k) && !q k))

theorem ok_order {n : Nat} {q : Nat → Bool} (h : quietOK ops n q = true) : orderOK ops = true := by
  unfold quietOK at h
  exact (Bool.and_eq_true _ _ ▸ h).1

theorem ok_dst {n : Nat} {q : Nat → Bool} (h : quietOK ops n q = true) {i d : Nat} {o : Oper} (ho : ops[i]? = some o) (hd : o.dst = some d) : d < n ∧ ∀ j o', ops[j]? = some o' → j ≠ i → o'.dst ≠ some d := by
  unfold quietOK at h
  have h2 := (Bool.and_eq_true _ _ ▸ h).2
  have hi : i < ops.size := (Array.getElem?_eq_some_iff.1 ho).1
  have h3 := List.all_eq_true.1 h2 i (List.mem_range.2 hi)
  rw [ho] at h3
  simp only [hd, Bool.and_eq_true, decide_eq_true_eq, List.all_eq_true, List.mem_range] at h3
  refine ⟨h3.1.1, fun j o' hj hne he => ?_⟩
  have hjs : j < ops.size := (Array.getElem?_eq_some_iff.1 hj).1
  have := h3.1.2 j hjs
  rw [hj] at this
  simp [hne, he] at this

theorem ok_quiet {n : Nat} {q : Nat → Bool} (h : quietOK ops n q = true) {i : Nat} {o : Oper} (ho : ops[i]? = some o) (hq : q i = true) : ∃ d, o.dst = some d := by
  unfold quietOK at h
  have h2 := (Bool.and_eq_true _ _ ▸ h).2
  have hi : i < ops.size := (Array.getElem?_eq_some_iff.1 ho).1
  have h3 := List.all_eq_true.1 h2 i (List.mem_range.2 hi)
  rw [ho] at h3
  cases hd : o.dst with
  | none => simp [hd, hq] at h3
  | some d => exact ⟨d, rfl⟩

theorem ok_chain {n : Nat} {q : Nat → Bool} (h : quietOK ops n q = true) {i : Nat} {o : Oper} (ho : ops[i]? = some o) (hq : q i = false) {j : Nat} (hj : j < i) (hqj : q j = false) (hlast : ∀ k, j < k → k < i → q k = true) : waits o j = true := by
  unfold quietOK at h
  have h2 := (Bool.and_eq_true _ _ ▸ h).2
  have hi : i < ops.size := (Array.getElem?_eq_some_iff.1 ho).1
  have h3 := List.all_eq_true.1 h2 i (List.mem_range.2 hi)
  rw [ho] at h3
  simp only [hq, Bool.false_or, Bool.and_eq_true] at h3
  have h4 := List.all_eq_true.1 h3.2 j (List.mem_range.2 hj)
  rw [hqj] at h4
  simp only [Bool.false_or, Bool.or_eq_true, List.any_eq_true, List.mem_range, Bool.and_eq_true, decide_eq_true_eq, Bool.not_eq_true'] at h4
  rcases h4 with h4 | ⟨k, h5, h6, h7⟩
  · exact h4
  · rw [hlast k h6 h5] at h7; cases h7

/-- What an operation that has come left in its slot. -/
def Left (ops : Array Oper) (val : Nat → Option Value) (vs : List Value) (a : Act) (j : Nat) : Prop :=
  match ops[j]? with
  | none => True
  | some o => match o.dst with
    | none => True
    | some d => match val j with
      | some v => slot a d = v
      | none => slot a d = vs.getD (pos val j) undef

/-- What is known at an operation. -/
structure Ctx (ops : Array Oper) (val : Nat → Option Value) (a0 : Act) (i : Nat) (o : Oper) (vs : List Value) (a : Act) : Prop where
  defers : a.defers = a0.defers
  size : a.tmps.size = a0.tmps.size
  outer : ∀ t, outer ops t = true → slot a t = slot a0 t
  left : ∀ j, waits o j = true → Left ops val vs a j
  fresh : ∀ (j : Nat) (o' : Oper) (d : Nat), ops[j]? = some o' → waits o' i = true → o'.dst = some d → slot a d = slot a0 d
  ahead : ∀ (j : Nat) (o' : Oper), ops[j]? = some o' → waits o' i = true → val j = none → vs.length ≤ pos val j

/-- What is known at the end. -/
structure EndCtx (ops : Array Oper) (val : Nat → Option Value) (a0 : Act) (vs : List Value) (a : Act) : Prop where
  defers : a.defers = a0.defers
  size : a.tmps.size = a0.tmps.size
  outer : ∀ t, outer ops t = true → slot a t = slot a0 t
  left : ∀ j, Left ops val vs a j

/-- What is owed at each operation. -/
def Owes (P : Program) (ops : Array Oper) (Q : Exit → Act → World → Prop) (val : Nat → Option Value) (Φ : List Value → World → Prop) (a0 : Act) : Nat → List Oper → Prop
  | _, [] => True
  | i, o :: r => (match val i with
      | some v => ∀ vs a w, Φ vs w → Ctx ops val a0 i o vs a → Region.wanted o (yielded ops a.tmps) = true ∧ (execOp a.eval o).run P w = .ok (.value v) w
      | none => ∀ vs a w, vs.length = pos val i → Φ vs w → Ctx ops val a0 i o vs a → Region.wanted o (yielded ops a.tmps) = true ∧ o.wp P a w (fun a' w' => ∃ v, a' = a.put o.dst v ∧ Φ (vs ++ [v]) w') Q) ∧ Owes P ops Q val Φ a0 (i + 1) r

theorem Owes.get {val : Nat → Option Value} {Φ : List Value → World → Prop} {a0 : Act} : ∀ (l : List Oper) (k : Nat), Owes P ops Q val Φ a0 k l → ∀ i o, l[i]? = some o → (match val (k + i) with
      | some v => ∀ vs a w, Φ vs w → Ctx ops val a0 (k + i) o vs a → Region.wanted o (yielded ops a.tmps) = true ∧ (execOp a.eval o).run P w = .ok (.value v) w
      | none => ∀ vs a w, vs.length = pos val (k + i) → Φ vs w → Ctx ops val a0 (k + i) o vs a → Region.wanted o (yielded ops a.tmps) = true ∧ o.wp P a w (fun a' w' => ∃ v, a' = a.put o.dst v ∧ Φ (vs ++ [v]) w') Q)
  | [], _, _, i, o, h => by simp at h
  | x :: l, k, hl, 0, o, h => by
    simp at h; subst h; exact hl.1
  | x :: l, k, hl, i + 1, o, h => by
    have := Owes.get l (k + 1) hl.2 i o (by simpa using h)
    rw [show k + (i + 1) = k + 1 + i by omega]
    exact this

structure Inv (ops : Array Oper) (val : Nat → Option Value) (a0 : Act) (L : Nat → Bool) (vs : List Value) (a : Act) : Prop where
  defers : a.defers = a0.defers
  size : a.tmps.size = a0.tmps.size
  outer : ∀ t, outer ops t = true → slot a t = slot a0 t
  left : ∀ j, L j = true → Left ops val vs a j
  pre : ∀ j o, ops[j]? = some o → val j = none → (L j = true ↔ pos val j < vs.length)
  fresh : ∀ j o d, ops[j]? = some o → L j = false → o.dst = some d → slot a d = slot a0 d
  closed : ∀ j o, ops[j]? = some o → L j = true → ∀ i, waits o i = true → L i = true
  len : vs.length ≤ pos val ops.size

theorem Inv.ctx {val : Nat → Option Value} {a0 : Act} {L : Nat → Bool} {vs : List Value} {a : Act} {i : Nat} {o : Oper} (h : Inv ops val a0 L vs a) (hl : L i = false) (hw : ∀ j, waits o j = true → L j = true) : Ctx ops val a0 i o vs a := by
  have no : ∀ j o', ops[j]? = some o' → waits o' i = true → L j = false := fun j o' hj hw' => by
    cases hL : L j with
    | false => rfl
    | true =>
      have := h.closed j o' hj hL i hw'
      rw [hl] at this; cases this
  refine ⟨h.defers, h.size, h.outer, fun j hj => h.left j (hw j hj), fun j o' d hj hw' hd => h.fresh j o' d hj (no j o' hj hw') hd, fun j o' hj hw' hv => ?_⟩
  have := no j o' hj hw'
  have k := (h.pre j o' hj hv).2
  rcases Nat.lt_or_ge (pos val j) vs.length with hh | hh
  · rw [k hh] at this; cases this
  · exact hh

theorem left_other {val : Nat → Option Value} {vs vs' : List Value} {a : Act} {j i d : Nat} {v : Value} (h : Left ops val vs a j) (hne : ∀ o' , ops[j]? = some o' → o'.dst ≠ some d) (hvs : val j = none → vs'.getD (pos val j) undef = vs.getD (pos val j) undef) : Left ops val vs' (a.put (some d) v) j := by
  unfold Left at *
  cases ho : ops[j]? with
  | none => simp [ho]
  | some o =>
    rw [ho] at h
    simp only at h ⊢
    cases hd : o.dst with
    | none => simp
    | some d' =>
      rw [hd] at h
      simp only at h ⊢
      have hdd : d' ≠ d := fun e => hne o ho (by rw [hd, e])
      rw [slot_put_other _ _ _ _ hdd]
      cases hv : val j with
      | some x => rw [hv] at h; exact h
      | none => rw [hv] at h; simp only at h ⊢; rw [hvs hv]; exact h

theorem left_none {val : Nat → Option Value} {vs vs' : List Value} {a : Act} {j : Nat} (h : Left ops val vs a j) (hvs : val j = none → vs'.getD (pos val j) undef = vs.getD (pos val j) undef) : Left ops val vs' a j := by
  unfold Left at *
  cases ho : ops[j]? with
  | none => simp
  | some o =>
    rw [ho] at h
    simp only at h ⊢
    cases hd : o.dst with
    | none => simp
    | some d' =>
      rw [hd] at h
      simp only at h ⊢
      cases hv : val j with
      | some x => rw [hv] at h; exact h
      | none => rw [hv] at h; simp only at h ⊢; rw [hvs hv]; exact h

theorem outer_ne {t i : Nat} {o : Oper} (h : outer ops t = true) (ho : ops[i]? = some o) : o.dst ≠ some t := by
  unfold outer at h
  have hm : o ∈ ops.toList := by
    obtain ⟨hi, e⟩ := Array.getElem?_eq_some_iff.1 ho
    rw [← e]; simp
  simpa using List.all_eq_true.1 h o hm

theorem Inv.quiet {val : Nat → Option Value} {a0 : Act} {L : Nat → Bool} {vs : List Value} {a : Act} {i d : Nat} {o : Oper} {v : Value} (hok : quietOK ops a0.tmps.size (fun i => (val i).isSome) = true) (h : Inv ops val a0 L vs a) (hl : L i = false) (hw : ∀ j, waits o j = true → L j = true) (ho : ops[i]? = some o) (hv : val i = some v) (hd : o.dst = some d) : Inv ops val a0 (fun j => j == i || L j) vs (a.put (some d) v) := by
  obtain ⟨h1, h2⟩ := ok_dst hok ho hd
  refine ⟨h.defers, by simp [Act.put, h.size], fun t ht => ?_, fun j hj => ?_, fun j o' hj hv' => ?_, fun j o' d' hj hL hd' => ?_, fun j o' hj hL k hk => ?_, h.len⟩
  · rw [slot_put_other _ _ _ _ (fun e => outer_ne ht ho (by rw [hd, e]))]; exact h.outer t ht
  · by_cases e : j = i
    · subst e
      unfold Left
      simp only [ho, hd, hv]
      exact slot_put_same _ _ _ (by rw [h.size]; exact h1)
    · have hj' : L j = true := by simpa [e] using hj
      exact left_other (i := i) (h.left j hj') (fun o' ho' => h2 j o' ho' e) (fun _ => rfl)
  · have e : j ≠ i := fun e => by subst e; rw [hv] at hv'; cases hv'
    have : (j == i || L j) = L j := by simp [e]
    rw [this]
    exact h.pre j o' hj hv'
  · have e : j ≠ i := fun e => by subst e; simp at hL
    rw [slot_put_other _ _ _ _ (fun e2 => h2 j o' hj e (by rw [hd', e2]))]
    exact h.fresh j o' d' hj (by simpa [e] using hL) hd'
  · by_cases e : j = i
    · subst e
      rw [ho] at hj; cases hj
      simp [hw k hk]
    · have : L k = true := h.closed j o' hj (by simpa [e] using hL) k hk
      simp [this]

theorem Inv.loud {val : Nat → Option Value} {a0 : Act} {L : Nat → Bool} {vs : List Value} {a : Act} {i : Nat} {o : Oper} {v : Value} (hok : quietOK ops a0.tmps.size (fun i => (val i).isSome) = true) (h : Inv ops val a0 L vs a) (hl : L i = false) (hw : ∀ j, waits o j = true → L j = true) (ho : ops[i]? = some o) (hv : val i = none) (hp : vs.length = pos val i) : Inv ops val a0 (fun j => j == i || L j) (vs ++ [v]) (a.put o.dst v) := by
  have hi : i < ops.size := (Array.getElem?_eq_some_iff.1 ho).1
  have old : ∀ j o', ops[j]? = some o' → L j = true → val j = none → (vs ++ [v]).getD (pos val j) undef = vs.getD (pos val j) undef := fun j o' hj hL hv' => by
    have := (h.pre j o' hj hv').1 hL
    simp [List.getD, List.getElem?_append_left this]
  have lf : ∀ j, L j = true → Left ops val (vs ++ [v]) a j := fun j hj => by
    cases hoj : ops[j]? with
    | none => unfold Left; simp [hoj]
    | some o' => exact left_none (h.left j hj) (fun hv' => old j o' hoj hj hv')
  refine ⟨by cases o.dst <;> exact h.defers, by cases o.dst <;> simp [Act.put, h.size], fun t ht => ?_, fun j hj => ?_, fun j o' hj hv' => ?_, fun j o' d' hj hL hd' => ?_, fun j o' hj hL k hk => ?_, ?_⟩
  · cases hd : o.dst with
    | none => exact h.outer t ht
    | some d => rw [slot_put_other _ _ _ _ (fun e => outer_ne ht ho (by rw [hd, e]))]; exact h.outer t ht
  · by_cases e : j = i
    · subst e
      unfold Left
      simp only [ho, hv]
      cases hd : o.dst with
      | none => trivial
      | some d =>
        simp only
        rw [slot_put_same _ _ _ (by rw [h.size]; exact (ok_dst hok ho hd).1)]
        simp [List.getD, ← hp]
    · have hj' : L j = true := by simpa [e] using hj
      cases hd : o.dst with
      | none => exact lf j hj'
      | some d => exact left_other (i := i) (lf j hj') (fun o' ho' => (ok_dst hok ho hd).2 j o' ho' e) (fun _ => rfl)
  · by_cases e : j = i
    · subst e
      simp [hp]
    · have e2 : (j == i || L j) = L j := by simp [e]
      rw [e2, h.pre j o' hj hv', List.length_append, List.length_singleton]
      have : pos val j ≠ pos val i := fun e3 => e (pos_inj val hv' hv e3)
      omega
  · have e : j ≠ i := fun e => by subst e; simp at hL
    have hf := h.fresh j o' d' hj (by simpa [e] using hL) hd'
    cases hd : o.dst with
    | none => exact hf
    | some d => rw [slot_put_other _ _ _ _ (fun e2 => (ok_dst hok ho hd).2 j o' hj e (by rw [hd', e2]))]; exact hf
  · by_cases e : j = i
    · subst e
      rw [ho] at hj; cases hj
      simp [hw k hk]
    · have : L k = true := h.closed j o' hj (by simpa [e] using hL) k hk
      simp [this]
  · rw [List.length_append, List.length_singleton, hp]
    exact pos_lt val hi hv

/-- The last of the others ahead of the operation i. -/
theorem last_loud (val : Nat → Option Value) : ∀ i, 0 < pos val i → ∃ j, j < i ∧ val j = none ∧ pos val j + 1 = pos val i ∧ ∀ k, j < k → k < i → (val k).isSome = true
  | 0, h => by simp [pos] at h
  | i + 1, h => by
    rw [pos_succ] at h ⊢
    cases hv : val i with
    | none => exact ⟨i, by omega, hv, by simp, fun k h1 h2 => by omega⟩
    | some x =>
      simp only [hv, Option.isNone_some] at h
      obtain ⟨j, h1, h2, h3, h4⟩ := last_loud val i (by simpa using h)
      refine ⟨j, by omega, h2, by simpa using h3, fun k h5 h6 => ?_⟩
      rcases Nat.lt_or_ge k i with hk | hk
      · exact h4 k h5 hk
      · have : k = i := by omega
        subst this; simp [hv]

theorem wp_region_quiet {id : Nat} {a0 : Act} {w0 : World} (val : Nat → Option Value) (Φ : List Value → World → Prop) (hm : P.follows .mixedOrders = true) (hok : quietOK ops a0.tmps.size (fun i => (val i).isSome) = true)
    (h0 : Φ [] w0.drew) (hsteps : Owes P ops Q val Φ a0 0 ops.toList)
    (hend : ∀ vs a w, vs.length = pos val ops.size → Φ vs w → EndCtx ops val a0 vs a → Q .normal a w) : (Code.region id ops true).wp P Q a0 w0 := by
  refine wp_region_inv (fun L a w => ∃ vs, Φ vs w ∧ Inv ops val a0 L vs a) hm (ok_order hok) ⟨[], h0, ⟨rfl, rfl, fun _ _ => rfl, fun _ h => (by cases h), fun j o _ _ => ⟨fun h => (by cases h), fun h => (by simp at h)⟩, fun _ _ _ _ _ _ => rfl, fun _ _ _ h => (by cases h), by simp⟩⟩ ?_ ?_
  · rintro i o L a w ho hl hw ⟨vs, hΦ, hI⟩
    have hob := Owes.get ops.toList 0 hsteps i o (by simpa using ho)
    rw [Nat.zero_add] at hob
    cases hv : val i with
    | some v =>
      rw [hv] at hob
      obtain ⟨h1, h2⟩ := hob vs a w hΦ (hI.ctx hl hw)
      obtain ⟨d, hd⟩ := ok_quiet hok ho (by simp [hv])
      refine ⟨h1, ?_⟩
      unfold Oper.wp
      rw [h2]
      show ∃ vs, Φ vs w ∧ Inv ops val a0 (fun j => j == i || L j) vs (a.put o.dst v)
      rw [hd]
      exact ⟨vs, hΦ, hI.quiet hok hl hw ho hv hd⟩
    | none =>
      rw [hv] at hob
      have hp : vs.length = pos val i := by
        have a1 : ¬ pos val i < vs.length := fun hh => by
          have := (hI.pre i o ho hv).2 hh
          rw [hl] at this; cases this
        rcases Nat.eq_zero_or_pos (pos val i) with h | h
        · omega
        · obtain ⟨j, h1, h2, h3, h4⟩ := last_loud val i h
          have hwj := ok_chain hok ho (by simp [hv]) h1 (by simp [h2]) h4
          have hLj := hw j hwj
          have hjs : j < ops.size := Nat.lt_trans h1 (Array.getElem?_eq_some_iff.1 ho).1
          have := (hI.pre j ops[j] (Array.getElem?_eq_getElem hjs) h2).1 hLj
          omega
      obtain ⟨h1, h2⟩ := hob vs a w hp hΦ (hI.ctx hl hw)
      refine ⟨h1, Oper.wp_mono ?_ h2⟩
      rintro a' w' ⟨v, rfl, hΦ'⟩
      exact ⟨vs ++ [v], hΦ', hI.loud hok hl hw ho hv hp⟩
  · rintro L a w hall ⟨vs, hΦ, hI⟩
    refine hend vs a w ?_ hΦ ⟨hI.defers, hI.size, hI.outer, fun j => ?_⟩
    · have := hI.len
      rcases Nat.lt_or_ge vs.length (pos val ops.size) with h | h
      · obtain ⟨j, h1, h2, h3⟩ := pos_hit val ops.size h
        have := (hI.pre j ops[j] (Array.getElem?_eq_getElem h1) h2).1 (hall j h1)
        omega
      · omega
    · rcases Nat.lt_or_ge j ops.size with h | h
      · exact hI.left j (hall j h)
      · unfold Left
        rw [Array.getElem?_eq_none h]
        trivial

theorem loud_value {Φ : List Value → World → Prop} {o : Oper} {a : Act} {w w' : World} {v : Value} {vs : List Value} (hrun : (execOp a.eval o).run P w = .ok (.value v) w') (h : Φ (vs ++ [v]) w') : o.wp P a w (fun a' w' => ∃ v, a' = a.put o.dst v ∧ Φ (vs ++ [v]) w') Q := by
  unfold Oper.wp
  rw [hrun]
  exact ⟨v, rfl, h⟩

theorem loud_skip {Φ : List Value → World → Prop} {o : Oper} {a : Act} {w w' : World} {vs : List Value} (hd : o.dst = none) (hrun : (execOp a.eval o).run P w = .ok .skip w') (h : Φ (vs ++ [undef]) w') : o.wp P a w (fun a' w' => ∃ v, a' = a.put o.dst v ∧ Φ (vs ++ [v]) w') Q := by
  unfold Oper.wp
  rw [hrun]
  simp only [Oper.upon, hd, Act.put]
  exact ⟨undef, trivial, h⟩

/-- A call, whatever it does. -/
theorem loud_call {Φ : List Value → World → Prop} {o : Oper} {a : Act} {w : World} {vs : List Value} {f : FuncId} {fn : Func} {args : Array Operand} {ats : Array TypeId} (xs : Array Value)
    (ho : o.op = .call { callee := .value (.func f), args := args, argTypes := ats }) (hf : P.funcs[f]? = some fn) (hname : (fn.name == "runtime.NumGoroutine") = false) (hbody : fn.body.isNone = false)
    (hvs : args.toList.map a.eval = xs.toList) (hc : Calls P f xs w fun e w' => ∃ v, e = .returned v ∧ Φ (vs ++ [v]) w') : o.wp P a w (fun a' w' => ∃ v, a' = a.put o.dst v ∧ Φ (vs ++ [v]) w') Q := by
  have hrun : (execOp a.eval o).run P w = .ok (.enter f xs) w := by
    obtain ⟨dst, op, ty, pos, aft, guard⟩ := o
    simp only at ho
    subst ho
    have hname' : ¬ fn.name = "runtime.NumGoroutine" := by simpa using hname
    have hbody' : ¬ fn.body = none := by
      intro h; rw [h] at hbody; cases hbody
    have hvs' : args.map a.eval = xs := by apply Array.ext'; rw [Array.toList_map]; exact hvs
    rw [execOp_call_go]
    simp [callFunc, hf, hname', hbody', hvs']
  unfold Oper.wp
  rw [hrun]
  simp only [Oper.upon]
  refine hc.mono ?_
  rintro e w' ⟨v, rfl, hk⟩
  exact ⟨v, rfl, hk⟩

/-- A frame that differs from another one in some slots alone. -/
def puts (A : Act) (A0 : Act) : List Nat → Act
  | [] => A0
  | d :: ds => puts A (A0.put (some d) (slot A d)) ds

theorem puts_size (A : Act) : ∀ (ds : List Nat) (A0 : Act), (puts A A0 ds).tmps.size = A0.tmps.size
  | [], _ => rfl
  | d :: ds, A0 => by rw [puts, puts_size A ds]; simp [Act.put]

theorem puts_defers (A : Act) : ∀ (ds : List Nat) (A0 : Act), (puts A A0 ds).defers = A0.defers
  | [], _ => rfl
  | d :: ds, A0 => by rw [puts, puts_defers A ds]; rfl

theorem puts_slot (A : Act) (t : Nat) : ∀ (ds : List Nat) (A0 : Act), t < A0.tmps.size → (t ∉ ds → slot A0 t = slot A t) → slot (puts A A0 ds) t = slot A t
  | [], A0, _, h => h (by simp)
  | d :: ds, A0, ht, h => by
    rw [puts]
    refine puts_slot A t ds _ (by simp [Act.put]; exact ht) fun hn => ?_
    by_cases e : t = d
    · subst e
      exact slot_put_same _ _ _ ht
    · rw [slot_put_other _ _ _ _ e]
      exact h (by simp [e, hn])

theorem frame_puts {A A0 : Act} (hd : A.defers = A0.defers) (hs : A.tmps.size = A0.tmps.size) (ds : List Nat) (h : ∀ t, t ∉ ds → slot A t = slot A0 t) : A = puts A A0 ds := by
  have h1 : (puts A A0 ds).tmps.size = A.tmps.size := by rw [puts_size, hs]
  have h2 : (puts A A0 ds).defers = A.defers := by rw [puts_defers, hd]
  have h3 : ∀ t, t < A.tmps.size → slot (puts A A0 ds) t = slot A t := fun t ht => puts_slot A t ds A0 (by omega) fun hn => (h t hn).symm
  generalize puts A A0 ds = B at *
  obtain ⟨ta, da⟩ := A
  obtain ⟨tb, db⟩ := B
  simp only at h1 h2
  subst h2
  congr 1
  apply Array.ext (by omega)
  intro i hi1 hi2
  have := h3 i hi1
  simpa [slot, Array.getD, hi1, hi2] using this.symm

end Go.Proofs.Ytgalmkhgbokidaa.PQ
