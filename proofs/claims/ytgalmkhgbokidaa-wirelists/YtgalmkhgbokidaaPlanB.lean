/-
  What is proved here: a law for a statement whose order is left open: if each operation, whatever of the others has come before, leaves a value with a property that lasts while memory only grows, then in the end all values have their properties.
-/
import Derived.Orders
import Derived.Below
import Derived.BigCall
namespace Go.Proofs.Ytgalmkhgbokidaa.PB
open Go.RowKit
set_option linter.unusedVariables false

/-- What a slot holds. -/
def slot (a : Act) (t : Nat) : Value := a.tmps.getD t undef

/-- No operation writes the slot t. -/
def outer (ops : Array Oper) (t : Nat) : Bool := ops.toList.all fun o => o.dst != some t

/-- Operation o waits for operation number j. -/
def waits (o : Oper) (j : Nat) : Bool := o.after.toList.any fun e => e.on == j && Region.binds .any e

/-- Each operation waits for earlier ones alone; each writes a slot of its own, below n. -/
def planOK (ops : Array Oper) (n : Nat) : Bool :=
  (List.range ops.size).all fun i => match ops[i]? with
    | none => false
    | some o => (o.after.all fun e => !Region.binds .any e || decide (e.on < i)) &&
      match o.dst with
      | none => false
      | some d => decide (d < n) && (List.range ops.size).all fun j => (j == i) || match ops[j]? with
        | none => false
        | some o' => o'.dst != some d

/-- The property of what operation number j has left. -/
def Left' (ops : Array Oper) (φ : Nat → Value → World → Prop) (a : Act) (w : World) (j : Nat) : Prop :=
  match ops[j]? with
  | none => False
  | some o => match o.dst with
    | none => False
    | some d => φ j (slot a d) w

/-- What is known of the frame. -/
structure Same (ops : Array Oper) (a0 a : Act) : Prop where
  defers : a.defers = a0.defers
  size : a.tmps.size = a0.tmps.size
  slots : ∀ t, outer ops t = true → slot a t = slot a0 t

/-- What is owed at each operation. -/
def Owed (P : Program) (ops : Array Oper) (Q : Exit → Act → World → Prop) (φ : Nat → Value → World → Prop) (a0 : Act) (w0 : World) (i : Nat) (o : Oper) : Prop :=
  ∀ a w, Below w0.heap.size w0 w → Same ops a0 a → (∀ j, waits o j = true → Left' ops φ a w j) →
    (∀ (j : Nat) (o' : Oper) (d : Nat), ops[j]? = some o' → waits o' i = true → o'.dst = some d → slot a d = slot a0 d) →
    Region.wanted o (yielded ops a.tmps) = true ∧ o.wp P a w (fun a' w' => ∃ v, a' = a.put o.dst v ∧ Below w.heap.size w w' ∧ φ i v w') Q

def OwedAll (P : Program) (ops : Array Oper) (Q : Exit → Act → World → Prop) (φ : Nat → Value → World → Prop) (a0 : Act) (w0 : World) : Nat → List Oper → Prop
  | _, [] => True
  | i, o :: r => Owed P ops Q φ a0 w0 i o ∧ OwedAll P ops Q φ a0 w0 (i + 1) r

theorem OwedAll.get {P : Program} {ops : Array Oper} {Q : Exit → Act → World → Prop} {φ : Nat → Value → World → Prop} {a0 : Act} {w0 : World} :
    ∀ (l : List Oper) (k : Nat), OwedAll P ops Q φ a0 w0 k l → ∀ i o, l[i]? = some o → Owed P ops Q φ a0 w0 (k + i) o
  | [], _, _, i, o, h => by simp at h
  | x :: l, k, hl, 0, o, h => by
    simp at h; subst h; exact hl.1
  | x :: l, k, hl, i + 1, o, h => by
    have := OwedAll.get l (k + 1) hl.2 i o (by simpa using h)
    rw [show k + (i + 1) = k + 1 + i by omega]
    exact this

theorem slot_put_same (a : Act) (d : Nat) (v : Value) (h : d < a.tmps.size) : slot (a.put (some d) v) d = v := by
  simp [slot, Act.put, Array.getD, h]

theorem slot_put_other (a : Act) (d t : Nat) (v : Value) (h : t ≠ d) : slot (a.put (some d) v) t = slot a t := by
  simp only [slot, Act.put, Array.getD_eq_getD_getElem?]
  rw [Array.getElem?_setIfInBounds_ne (by omega)]

/-- What holds while the operations come up. -/
structure PlanInv (ops : Array Oper) (φ : Nat → Value → World → Prop) (a0 : Act) (w0 : World) (listed : Array Bool) (a : Act) (w : World) : Prop where
  below : Below w0.heap.size w0 w
  same : Same ops a0 a
  size : listed.size = ops.size
  left : ∀ j, listed.getD j false = true → Left' ops φ a w j
  fresh : ∀ (j : Nat) (o' : Oper) (d : Nat), ops[j]? = some o' → listed.getD j false = false → o'.dst = some d → slot a d = slot a0 d
  closed : ∀ (j : Nat) (o' : Oper), ops[j]? = some o' → listed.getD j false = true → ∀ x ∈ o'.after, Region.binds .any x = true → listed.getD x.on false = true

theorem planOK_spec {ops : Array Oper} {n i : Nat} (h : planOK ops n = true) (hi : i < ops.size) :
    ∃ o d, ops[i]? = some o ∧ o.dst = some d ∧ d < n ∧ (∀ e ∈ o.after, Region.binds .any e = true → e.on < i) ∧ ∀ j o', ops[j]? = some o' → j ≠ i → o'.dst ≠ some d := by
  unfold planOK at h
  rw [List.all_eq_true] at h
  have hh := h i (List.mem_range.2 hi)
  have ho : ops[i]? = some ops[i] := Array.getElem?_eq_getElem hi
  rw [ho] at hh
  simp only [Bool.and_eq_true] at hh
  obtain ⟨h1, h2⟩ := hh
  cases hd : ops[i].dst with
  | none => rw [hd] at h2; simp at h2
  | some d =>
    rw [hd] at h2
    simp only [Bool.and_eq_true, decide_eq_true_eq, List.all_eq_true, List.mem_range, Bool.or_eq_true, beq_iff_eq] at h2
    refine ⟨_, d, ho, hd, h2.1, fun e he hb => ?_, fun j o' hj hne hd' => ?_⟩
    · rw [Array.all_eq_true_iff_forall_mem] at h1
      have := h1 e he
      simp [hb] at this
      exact this
    · have hjlt : j < ops.size := by
        rcases Nat.lt_or_ge j ops.size with hh | hh
        · exact hh
        · rw [Array.getElem?_eq_none hh] at hj; cases hj
      rcases h2.2 j hjlt with h3 | h3
      · exact hne h3
      · rw [hj] at h3
        simp only at h3
        rw [hd'] at h3
        simp at h3

theorem count_less {p q : Nat → Bool} {i : Nat} : ∀ (l : List Nat), (∀ x, q x = true → p x = true) → i ∈ l → p i = true → q i = false → l.countP q < l.countP p
  | [], _, h, _, _ => by simp at h
  | x :: l, hle, h, hp, hq => by
    have hmono : l.countP q ≤ l.countP p := List.countP_mono_left fun x _ => hle x
    rw [List.countP_cons, List.countP_cons]
    rcases List.mem_cons.1 h with rfl | h
    · simp only [hp, hq]; simp; omega
    · have ih := count_less l hle h hp hq
      have : (if q x = true then 1 else 0) ≤ (if p x = true then 1 else 0) := by
        by_cases hqx : q x = true
        · simp [hqx, hle x hqx]
        · simp [hqx]
      omega

/-- How many have not come up. -/
def openCount (ops : Array Oper) (listed : Array Bool) : Nat := (List.range ops.size).countP fun i => !listed.getD i true

theorem getD_dflt {listed : Array Bool} {i : Nat} (h : i < listed.size) : listed.getD i true = listed.getD i false := by
  simp [Array.getD, h]

theorem open_less {ops : Array Oper} {listed : Array Bool} {i : Nat} (hs : listed.size = ops.size) (hi : i < ops.size) (h : listed.getD i true = false) : openCount ops (listed.setIfInBounds i true) < openCount ops listed := by
  refine count_less (i := i) _ (fun x hx => ?_) (List.mem_range.2 hi) (by simp [h]) ?_
  · by_cases hxi : x = i
    · subst hxi; simp [h]
    · rw [getD_set_ne true (by omega)] at hx; exact hx
  · simp [Array.getD, hs, hi]

theorem all_listed {ops : Array Oper} {n : Nat} {listed : Array Bool} (hok : planOK ops n = true) (hs : listed.size = ops.size) (hr : Region.ready .any ops listed = []) :
    ∀ k, k < ops.size → listed.getD k false = true := by
  intro k
  induction k using Nat.strongRecOn with
  | ind k ih =>
    intro hk
    rcases Bool.eq_false_or_eq_true (listed.getD k false) with h | h
    · exact h
    · exfalso
      obtain ⟨o, d, ho, _, _, hbefore, _⟩ := planOK_spec hok hk
      have : k ∈ Region.ready .any ops listed := mem_ready.2 ⟨by rw [getD_dflt (by omega)]; exact h, o, ho, fun e he hb => by
        have hlt := hbefore e he hb
        exact ih e.on hlt (by omega)⟩
      rw [hr] at this
      simp at this

theorem wpAny_plan {P : Program} {ops : Array Oper} {Q : Exit → Act → World → Prop} {φ : Nat → Value → World → Prop} {a0 : Act} {w0 : World} (hok : planOK ops a0.tmps.size = true)
    (hst : ∀ i v w w', φ i v w → Below w.heap.size w w' → φ i v w') (hsteps : OwedAll P ops Q φ a0 w0 0 ops.toList)
    (hend : ∀ a w, Below w0.heap.size w0 w → Same ops a0 a → (∀ j, j < ops.size → Left' ops φ a w j) → Q .normal a w) :
    ∀ (fuel : Nat) (listed : Array Bool) (a : Act) (w : World), openCount ops listed ≤ fuel → PlanInv ops φ a0 w0 listed a w → wpAny P .any ops Q fuel listed a w := by
  intro fuel
  have fin : ∀ (listed : Array Bool) (a : Act) (w : World), PlanInv ops φ a0 w0 listed a w → Region.ready .any ops listed = [] → Q .normal a w := fun listed a w hinv hr =>
    hend a w hinv.below hinv.same fun j hj => hinv.left j (all_listed hok hinv.size hr j hj)
  induction fuel with
  | zero =>
    intro listed a w hc hinv
    have hr : Region.ready .any ops listed = [] := by
      rw [List.eq_nil_iff_forall_not_mem]
      intro i hi
      obtain ⟨h1, o, ho, _⟩ := mem_ready.1 hi
      have hlt : i < ops.size := (Array.getElem?_eq_some_iff.1 ho).1
      have := open_less hinv.size hlt h1
      omega
    exact ⟨hr, fin _ _ _ hinv hr⟩
  | succ fuel ih =>
    intro listed a w hc hinv
    refine ⟨fin _ _ _ hinv, fun i hi => ?_⟩
    obtain ⟨h1, o, ho, hdeps⟩ := mem_ready.1 hi
    have hlt : i < ops.size := (Array.getElem?_eq_some_iff.1 ho).1
    obtain ⟨o', d, ho', hd, hdn, hbefore, hapart⟩ := planOK_spec hok hlt
    rw [ho] at ho'; cases ho'
    have howed := OwedAll.get ops.toList 0 hsteps i o (by simpa using ho)
    rw [Nat.zero_add] at howed
    obtain ⟨hw, hwp⟩ := howed a w hinv.below hinv.same (fun j hj => by
      unfold waits at hj
      rw [List.any_eq_true] at hj
      obtain ⟨x, hx, hj⟩ := hj
      simp only [Bool.and_eq_true, beq_iff_eq] at hj
      obtain ⟨rfl, hb⟩ := hj
      exact hinv.left _ (hdeps _ (Array.mem_toList_iff.1 hx) hb)) (fun j o' dj hoj hwj hdj => by
      refine hinv.fresh j o' dj hoj ?_ hdj
      rcases Bool.eq_false_or_eq_true (listed.getD j false) with hlj | hlj
      · exfalso
        unfold waits at hwj
        rw [List.any_eq_true] at hwj
        obtain ⟨x, hx, hj⟩ := hwj
        simp only [Bool.and_eq_true, beq_iff_eq] at hj
        obtain ⟨hxi, hb⟩ := hj
        have := hinv.closed j o' hoj hlj x (Array.mem_toList_iff.1 hx) hb
        rw [hxi, ← getD_dflt (by rw [hinv.size]; exact hlt), h1] at this
        cases this
      · exact hlj)
    unfold wpOp
    simp only [ho, hw, if_true]
    refine Or.inl (Oper.wp_mono (fun a' w' h' => ?_) hwp)
    obtain ⟨v, rfl, hbel, hphi⟩ := h'
    have hcnt := open_less hinv.size hlt h1
    refine ih _ _ _ (by omega) ⟨hinv.below.trans (hbel.mono hinv.below.size), ?_, by simp [hinv.size], fun j hj => ?_, fun j o' dj hoj hlj hdj => ?_, fun j o' hoj hlj x hx hb => ?_⟩
    · rw [hd]
      refine ⟨hinv.same.defers, by simp [Act.put, hinv.same.size], fun t ht => ?_⟩
      have htd : t ≠ d := by
        rintro rfl
        unfold outer at ht
        rw [List.all_eq_true] at ht
        have := ht o (by rw [Array.mem_toList_iff]; exact Array.mem_of_getElem? ho)
        rw [hd] at this
        simp at this
      rw [slot_put_other _ _ _ _ htd]
      exact hinv.same.slots t ht
    · by_cases hji : j = i
      · subst hji
        unfold Left'
        rw [ho]
        simp only [hd]
        rw [slot_put_same _ _ _ (by rw [hinv.same.size]; exact hdn)]
        exact hphi
      · rw [getD_set_ne false (by omega)] at hj
        have hleft := hinv.left j hj
        unfold Left' at hleft ⊢
        cases hoj : ops[j]? with
        | none => rw [hoj] at hleft; exact hleft
        | some oj =>
          rw [hoj] at hleft
          simp only at hleft ⊢
          cases hdj : oj.dst with
          | none => rw [hdj] at hleft; exact hleft
          | some dj =>
            rw [hdj] at hleft
            simp only at hleft ⊢
            rw [hd, slot_put_other _ _ _ _ (by rintro rfl; exact hapart j oj hoj hji hdj)]
            exact hst _ _ _ _ hleft hbel
    · by_cases hji : j = i
      · subst hji
        exfalso
        simp [Array.getD, hinv.size, hlt] at hlj
      · rw [getD_set_ne false (by omega)] at hlj
        rw [hd, slot_put_other _ _ _ _ (by rintro rfl; exact hapart j o' hoj hji hdj)]
        exact hinv.fresh j o' dj hoj hlj hdj
    · have hxl : listed.getD x.on false = true := by
        by_cases hji : j = i
        · subst hji
          rw [ho] at hoj; cases hoj
          exact hdeps x hx hb
        · rw [getD_set_ne false (by omega)] at hlj
          exact hinv.closed j o' hoj hlj x hx hb
      by_cases hxi : x.on = i
      · rw [hxi]; simp [Array.getD, hinv.size, hlt]
      · rw [getD_set_ne false (by omega)]; exact hxl

theorem wp_region_plan {P : Program} {id : Nat} {ops : Array Oper} {Q : Exit → Act → World → Prop} {a0 : Act} {w0 : World} (φ : Nat → Value → World → Prop) (hm : P.follows .mixedOrders = true) (hok : planOK ops a0.tmps.size = true)
    (hst : ∀ i v w w', φ i v w → Below w.heap.size w w' → φ i v w') (hsteps : OwedAll P ops Q φ a0 w0 0 ops.toList)
    (hend : ∀ a w, Below w0.heap.size w0 w → Same ops a0 a → (∀ j, j < ops.size → Left' ops φ a w j) → Q .normal a w) : (Code.region id ops true).wp P Q a0 w0 := by
  refine wp_region_any hm (wpAny_plan hok hst hsteps hend _ _ _ _ ?_ ⟨(Below.refl _ _).drew, ⟨rfl, rfl, fun _ _ => rfl⟩, by simp, fun j hj => ?_, fun _ _ _ _ _ _ => rfl, fun j o' _ hj => ?_⟩)
  · exact Nat.le_trans (List.countP_le_length) (by simp)
  · exfalso
    simp [Array.getD] at hj
  · exfalso
    simp [Array.getD] at hj

/-! The properties as a list. -/

/-- Just this value. -/
def E (x : Value) : Value → World → Prop := fun v _ => v = x

def Lasts (p : Value → World → Prop) : Prop := ∀ v w w', p v w → Below w.heap.size w w' → p v w'

theorem E_lasts (x : Value) : Lasts (E x) := fun _ _ _ h _ => h

def LastAll : List (Value → World → Prop) → Prop
  | [] => True
  | p :: r => Lasts p ∧ LastAll r

def phi (l : List (Value → World → Prop)) (i : Nat) : Value → World → Prop := l.getD i (fun _ _ => True)

theorem phi_lasts : ∀ (l : List (Value → World → Prop)), LastAll l → ∀ i v w w', phi l i v w → Below w.heap.size w w' → phi l i v w'
  | [], _, _, _, _, _, _, _ => trivial
  | p :: r, h, 0, v, w, w', hp, hb => h.1 v w w' hp hb
  | p :: r, h, i + 1, v, w, w', hp, hb => phi_lasts r h.2 i v w w' hp hb

section
variable {P : Program} {ops : Array Oper} {Q : Exit → Act → World → Prop} {o : Oper} {a : Act} {w : World}

/-- What an operation owes, in the state a, w. -/
def Does (P : Program) (ops : Array Oper) (Q : Exit → Act → World → Prop) (p : Value → World → Prop) (o : Oper) (a : Act) (w : World) : Prop :=
  Region.wanted o (yielded ops a.tmps) = true ∧ o.wp P a w (fun a' w' => ∃ v, a' = a.put o.dst v ∧ Below w.heap.size w w' ∧ p v w') Q

theorem wanted_free (h : o.guard = none) : Region.wanted o (yielded ops a.tmps) = true := by simp [Region.wanted, h]

theorem wanted_by {j d : Nat} {b : Bool} (h : o.guard = some (j, b)) (hd : (ops[j]?).bind (·.dst) = some d) (hs : slot a d = .bool b) : Region.wanted o (yielded ops a.tmps) = true := by
  have hx : a.tmps[d]? = some (.bool b) := by
    unfold slot at hs
    rw [Array.getD_eq_getD_getElem?] at hs
    cases hh : a.tmps[d]? with
    | none => rw [hh] at hs; simp [undef] at hs
    | some x => rw [hh] at hs; simp at hs; rw [hs]
  simp [Region.wanted, h, yielded, hd, hx]

theorem does_run {p : Value → World → Prop} {v : Value} (hw : Region.wanted o (yielded ops a.tmps) = true) (hrun : (execOp a.eval o).run P w = .ok (.value v) w) (hp : p v w) : Does P ops Q p o a w := by
  refine ⟨hw, ?_⟩
  unfold Oper.wp
  rw [hrun]
  exact ⟨v, rfl, Below.refl _ _, hp⟩

theorem does_move {p : Value → World → Prop} {t : Nat} (hw : Region.wanted o (yielded ops a.tmps) = true) (ho : o.op = .move (.tmp t)) (hp : p (slot a t) w) : Does P ops Q p o a w :=
  does_run hw (by simp only [execOp, ho]; rfl) hp

theorem does_assign {p : Value → World → Prop} {t : Nat} (hw : Region.wanted o (yielded ops a.tmps) = true) (ho : o.op = .assign (.tmp t)) (hp : p (slot a t) w) : Does P ops Q p o a w :=
  does_run hw (by simp only [execOp, ho]; rfl) hp

theorem does_pick {p : Value → World → Prop} {c x : Nat} {y : Operand} (hw : Region.wanted o (yielded ops a.tmps) = true) (ho : o.op = .pick (.tmp c) (.tmp x) y) (hc : slot a c = .bool true) (hp : p (slot a x) w) : Does P ops Q p o a w := by
  refine does_run hw ?_ hp
  have hc' : a.eval (.tmp c) = .bool true := hc
  simp only [execOp, ho, hc']
  rfl

theorem does_convert {p : Value → World → Prop} {s d t : Nat} {v : Value} (hw : Region.wanted o (yielded ops a.tmps) = true) (ho : o.op = .convert s d (.tmp t)) (hrun : (convert s d (slot a t)).run P w = .ok v w) (hp : p v w) : Does P ops Q p o a w := by
  refine does_run hw ?_ hp
  have hs : a.eval (.tmp t) = slot a t := rfl
  simp only [execOp, ho, hs, Sem.run_bind, hrun, Result.andThen]
  rfl

theorem does_convertOf {p : Value → World → Prop} {s d t : Nat} {v X : Value} (hw : Region.wanted o (yielded ops a.tmps) = true) (ho : o.op = .convert s d (.tmp t)) (hx : slot a t = X) (hrun : (convert s d X).run P w = .ok v w) (hp : p v w) : Does P ops Q p o a w :=
  does_convert hw ho (by rw [hx]; exact hrun) hp

theorem does_bin {p : Value → World → Prop} {op : BinOp} {s t x y : Nat} {v X Y : Value} (hw : Region.wanted o (yielded ops a.tmps) = true) (ho : o.op = .binOp op s (.tmp x) (.tmp y) t) (hx : slot a x = X) (hy : slot a y = Y)
    (hrun : ((do eqGuard op s (.tmp x) (.tmp y) X Y; binOp op s X Y : Sem Value)).run P w = .ok v w) (hp : p v w) : Does P ops Q p o a w := by
  refine does_run hw ?_ hp
  have h1 : a.eval (.tmp x) = X := hx
  have h2 : a.eval (.tmp y) = Y := hy
  simp only [execOp, ho, h1, h2]
  rw [Sem.run_bind, hrun]
  rfl

theorem does_bin2 {p : Value → World → Prop} {op : BinOp} {s t : Nat} {x y : Operand} {v X Y : Value} (hw : Region.wanted o (yielded ops a.tmps) = true) (ho : o.op = .binOp op s x y t) (hx : a.eval x = X) (hy : a.eval y = Y)
    (hrun : ((do eqGuard op s x y X Y; binOp op s X Y : Sem Value)).run P w = .ok v w) (hp : p v w) : Does P ops Q p o a w := by
  refine does_run hw ?_ hp
  simp only [execOp, ho, hx, hy]
  rw [Sem.run_bind, hrun]
  rfl

theorem does_call {p : Value → World → Prop} {f : FuncId} {fn : Func} {args : Array Operand} {ats : Array TypeId} (vs : Array Value) (hw : Region.wanted o (yielded ops a.tmps) = true)
    (ho : o.op = .call { callee := .value (.func f), args := args, argTypes := ats }) (hf : P.funcs[f]? = some fn) (hname : (fn.name == "runtime.NumGoroutine") = false) (hbody : fn.body.isNone = false)
    (hvs : args.toList.map a.eval = vs.toList) (hc : Calls P f vs w fun e w' => ∃ v, e = .returned v ∧ Below w.heap.size w w' ∧ p v w') : Does P ops Q p o a w := by
  refine ⟨hw, ?_⟩
  have hrun : (execOp a.eval o).run P w = .ok (.enter f vs) w := by
    obtain ⟨dst, op, ty, pos, aft, guard⟩ := o
    simp only at ho
    subst ho
    have hname' : ¬ fn.name = "runtime.NumGoroutine" := by simpa using hname
    have hbody' : ¬ fn.body = none := by
      intro h; rw [h] at hbody; cases hbody
    have hvs' : args.map a.eval = vs := by apply Array.ext'; rw [Array.toList_map]; exact hvs
    rw [execOp_call_go]
    simp [callFunc, hf, hname', hbody', hvs']
  unfold Oper.wp
  rw [hrun]
  simp only [Oper.upon]
  refine hc.mono ?_
  rintro e w' ⟨v, rfl, hb, hp⟩
  exact ⟨v, rfl, hb, hp⟩
end
end Go.Proofs.Ytgalmkhgbokidaa.PB
