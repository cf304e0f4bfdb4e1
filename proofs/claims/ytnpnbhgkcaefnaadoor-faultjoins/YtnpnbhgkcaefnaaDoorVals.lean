/-
  What is proved here: a law for a statement whose order is left open, each of whose operations leaves one known value: behind it the frame is as if they had come up in the text's order.
-/
import Derived.Test.YtnpnbhgkcaefnaaDoorPlan
namespace Go.Proofs.YtnpnbhgkcaefnaaDoor
open Go.RowKit
set_option linter.unusedVariables false

/-- The operations' values laid one behind the other. -/
def putAll : List Oper → List Value → Act → Act
  | o :: os, v :: vs, a => putAll os vs (a.put o.dst v)
  | _, _, a => a

theorem putAll_rest (os : List Oper) : ∀ (vs : List Value) (a : Act), (putAll os vs a).defers = a.defers ∧ (putAll os vs a).tmps.size = a.tmps.size := by
  induction os with
  | nil => intro vs a; cases vs <;> exact ⟨rfl, rfl⟩
  | cons o os ih =>
    intro vs a
    cases vs with
    | nil => exact ⟨rfl, rfl⟩
    | cons v vs =>
      obtain ⟨h1, h2⟩ := ih vs (a.put o.dst v)
      refine ⟨h1.trans ?_, h2.trans ?_⟩
      · cases o.dst <;> rfl
      · cases o.dst <;> simp [Act.put]

theorem putAll_other (os : List Oper) (t : Nat) : ∀ (vs : List Value) (a : Act), (∀ o ∈ os, o.dst ≠ some t) → slot (putAll os vs a) t = slot a t := by
  induction os with
  | nil => intro vs a _; cases vs <;> rfl
  | cons o os ih =>
    intro vs a h
    cases vs with
    | nil => rfl
    | cons v vs =>
      refine (ih vs (a.put o.dst v) fun o' ho' => h o' (List.mem_cons_of_mem _ ho')).trans ?_
      have hne := h o (by simp)
      cases hd : o.dst with
      | none => rfl
      | some d => exact slot_put_other _ _ _ _ (by rintro rfl; exact hne hd)

theorem putAll_own (os : List Oper) : ∀ (vs : List Value) (a : Act) (j : Nat) (o : Oper) (d : Nat) (v : Value), os[j]? = some o → o.dst = some d → d < a.tmps.size → vs[j]? = some v → (∀ i o', os[i]? = some o' → i ≠ j → o'.dst ≠ some d) → slot (putAll os vs a) d = v := by
  induction os with
  | nil => intro vs a j o d v h; simp at h
  | cons x os ih =>
    intro vs a j o d v ho hd hlt hv hap
    cases vs with
    | nil => simp at hv
    | cons y vs =>
      cases j with
      | zero =>
        simp at ho hv
        subst ho; subst hv
        show slot (putAll os vs (a.put x.dst y)) d = y
        rw [putAll_other os d vs _ fun o' ho' => by
          obtain ⟨i, hi⟩ := List.getElem?_of_mem ho'
          exact hap (i + 1) o' (by simpa using hi) (by omega)]
        rw [hd]
        exact slot_put_same _ _ _ hlt
      | succ j =>
        refine ih vs (a.put x.dst y) j o d v (by simpa using ho) hd ?_ (by simpa using hv) fun i o' hi hne => hap (i + 1) o' (by simpa using hi) (by omega)
        cases hx : x.dst with
        | none => exact hlt
        | some d' => simpa [Act.put] using hlt

theorem act_ext {a b : Act} (hd : a.defers = b.defers) (hs : a.tmps.size = b.tmps.size) (h : ∀ t, slot a t = slot b t) : a = b := by
  obtain ⟨ta, da⟩ := a
  obtain ⟨tb, db⟩ := b
  simp only at hd hs
  subst hd
  have : ta = tb := by
    apply Array.ext hs
    intro i h1 h2
    have := h i
    simpa [slot, Array.getD, h1, h2] using this
  rw [this]

theorem wp_region_vals {P : Program} {id : Nat} {ops : Array Oper} {Q : Exit → Act → World → Prop} {a0 : Act} {w0 : World} (vs : List Value) (hm : P.follows .mixedOrders = true) (hok : planOK ops a0.tmps.size = true) (hlen : vs.length = ops.size)
    (hsteps : OwedAll P ops Q (phi (vs.map E)) a0 w0 0 ops.toList)
    (hend : ∀ w, Below w0.heap.size w0 w → Q .normal (putAll ops.toList vs a0) w) : (Code.region id ops true).wp P Q a0 w0 := by
  refine wp_region_plan (phi (vs.map E)) hm hok ?_ hsteps ?_
  · intro i v w w' h _
    unfold phi at h ⊢
    rw [List.getD_eq_getElem?_getD, List.getElem?_map] at h ⊢
    cases hv : vs[i]? with
    | none => trivial
    | some x => rw [hv] at h; exact h
  · intro a w hb hS hL
    have e : a = putAll ops.toList vs a0 := by
      obtain ⟨r1, r2⟩ := putAll_rest ops.toList vs a0
      refine act_ext (hS.defers.trans r1.symm) (hS.size.trans r2.symm) fun t => ?_
      by_cases ht : outer ops t = true
      · rw [hS.slots t ht]
        refine (putAll_other ops.toList t vs a0 fun o ho => ?_).symm
        unfold outer at ht
        rw [List.all_eq_true] at ht
        simpa using ht o ho
      · have : ∃ (j : Nat) (o : Oper), ops[j]? = some o ∧ o.dst = some t := by
          have ht' : outer ops t = false := by simpa using ht
          unfold outer at ht'
          rw [List.all_eq_false] at ht'
          obtain ⟨o, ho, hd⟩ := ht'
          obtain ⟨j, hj⟩ := List.getElem?_of_mem ho
          exact ⟨j, o, by simpa using hj, by simpa using hd⟩
        obtain ⟨j, o, hj, hd⟩ := this
        have hjlt : j < ops.size := (Array.getElem?_eq_some_iff.1 hj).1
        obtain ⟨o', d, ho', hd', hdn, _, hap⟩ := planOK_spec hok hjlt
        rw [hj] at ho'
        cases ho'
        rw [hd] at hd'
        cases hd'
        have hl := hL j hjlt
        unfold Left' at hl
        rw [hj] at hl
        simp only [hd] at hl
        have hv : vs[j]? = some vs[j] := List.getElem?_eq_getElem (by omega)
        have hval : slot a t = vs[j] := by
          unfold phi at hl
          rw [List.getD_eq_getElem?_getD, List.getElem?_map, hv] at hl
          exact hl
        rw [hval]
        exact (putAll_own ops.toList vs a0 j o t _ (by simpa using hj) hd hdn hv fun i o' hi hne => hap i o' (by simpa using hi) hne).symm
    rw [e]
    exact hend w hb
end Go.Proofs.YtnpnbhgkcaefnaaDoor
