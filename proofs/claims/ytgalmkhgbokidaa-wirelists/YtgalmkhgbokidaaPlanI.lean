/-
  What is proved here: a law for a statement whose order is left open, by one invariant over what has come up: each operation that may come next keeps it; in the end all have come.
-/
import Derived.Test.YtgalmkhgbokidaaPlanB
namespace Go.Proofs.Ytgalmkhgbokidaa.PB
open Go.RowKit
set_option linter.unusedVariables false

/-- Each operation waits for earlier ones alone. -/
def orderOK (ops : Array Oper) : Bool :=
  (List.range ops.size).all fun i => match ops[i]? with
    | none => false
    | some o => o.after.all fun e => !Region.binds .any e || decide (e.on < i)

theorem orderOK_spec {ops : Array Oper} {i : Nat} (h : orderOK ops = true) (hi : i < ops.size) : ∃ o, ops[i]? = some o ∧ ∀ e ∈ o.after, Region.binds .any e = true → e.on < i := by
  unfold orderOK at h
  rw [List.all_eq_true] at h
  have hh := h i (List.mem_range.2 hi)
  have ho : ops[i]? = some ops[i] := Array.getElem?_eq_getElem hi
  rw [ho] at hh
  refine ⟨_, ho, fun e he hb => ?_⟩
  rw [Array.all_eq_true_iff_forall_mem] at hh
  have := hh e he
  simp [hb] at this
  exact this

theorem inv_all {ops : Array Oper} {listed : Array Bool} (hok : orderOK ops = true) (hs : listed.size = ops.size) (hr : Region.ready .any ops listed = []) : ∀ k, k < ops.size → listed.getD k false = true := by
  intro k
  induction k using Nat.strongRecOn with
  | ind k ih =>
    intro hk
    rcases Bool.eq_false_or_eq_true (listed.getD k false) with h | h
    · exact h
    · exfalso
      obtain ⟨o, ho, hbefore⟩ := orderOK_spec hok hk
      have : k ∈ Region.ready .any ops listed := mem_ready.2 ⟨by rw [getD_dflt (by omega)]; exact h, o, ho, fun e he hb => by
        have hlt := hbefore e he hb
        exact ih e.on hlt (by omega)⟩
      rw [hr] at this
      simp at this

theorem wpAny_inv {P : Program} {ops : Array Oper} {Q : Exit → Act → World → Prop} (I : (Nat → Bool) → Act → World → Prop) (hok : orderOK ops = true)
    (hstep : ∀ i o L a w, ops[i]? = some o → L i = false → (∀ j, waits o j = true → L j = true) → I L a w → Region.wanted o (yielded ops a.tmps) = true ∧ o.wp P a w (fun a' w' => I (fun j => j == i || L j) a' w') Q)
    (hend : ∀ L a w, (∀ j, j < ops.size → L j = true) → I L a w → Q .normal a w) :
    ∀ (fuel : Nat) (listed : Array Bool) (a : Act) (w : World), openCount ops listed ≤ fuel → listed.size = ops.size → I (fun j => listed.getD j false) a w → wpAny P .any ops Q fuel listed a w := by
  intro fuel
  induction fuel with
  | zero =>
    intro listed a w hc hs hi
    have hr : Region.ready .any ops listed = [] := by
      rw [List.eq_nil_iff_forall_not_mem]
      intro i hi
      obtain ⟨h1, o, ho, _⟩ := mem_ready.1 hi
      have hlt : i < ops.size := (Array.getElem?_eq_some_iff.1 ho).1
      have := open_less hs hlt h1
      omega
    exact ⟨hr, hend _ _ _ (inv_all hok hs hr) hi⟩
  | succ fuel ih =>
    intro listed a w hc hs hi
    refine ⟨fun hr => hend _ _ _ (inv_all hok hs hr) hi, fun i hir => ?_⟩
    obtain ⟨h1, o, ho, hdeps⟩ := mem_ready.1 hir
    have hlt : i < ops.size := (Array.getElem?_eq_some_iff.1 ho).1
    obtain ⟨hw, hwp⟩ := hstep i o (fun j => listed.getD j false) a w ho (by rw [← getD_dflt (by omega)]; exact h1) (fun j hj => by
      unfold waits at hj
      rw [List.any_eq_true] at hj
      obtain ⟨x, hx, hj⟩ := hj
      simp only [Bool.and_eq_true, beq_iff_eq] at hj
      obtain ⟨rfl, hb⟩ := hj
      exact hdeps _ (Array.mem_toList_iff.1 hx) hb) hi
    unfold wpOp
    simp only [ho, hw, if_true]
    refine Or.inl (Oper.wp_mono (fun a' w' h' => ?_) hwp)
    have hcnt := open_less hs hlt h1
    refine ih _ _ _ (by omega) (by simp [hs]) ?_
    have e : (fun j => (listed.setIfInBounds i true).getD j false) = fun j => j == i || listed.getD j false := by
      funext j
      by_cases hji : j = i
      · subst hji; simp [Array.getD, hs, hlt]
      · rw [getD_set_ne false (by omega)]; simp [hji]
    rw [e]
    exact h'

theorem wp_region_inv {P : Program} {id : Nat} {ops : Array Oper} {Q : Exit → Act → World → Prop} {a0 : Act} {w0 : World} (I : (Nat → Bool) → Act → World → Prop) (hm : P.follows .mixedOrders = true) (hok : orderOK ops = true)
    (h0 : I (fun _ => false) a0 w0.drew)
    (hstep : ∀ i o L a w, ops[i]? = some o → L i = false → (∀ j, waits o j = true → L j = true) → I L a w → Region.wanted o (yielded ops a.tmps) = true ∧ o.wp P a w (fun a' w' => I (fun j => j == i || L j) a' w') Q)
    (hend : ∀ L a w, (∀ j, j < ops.size → L j = true) → I L a w → Q .normal a w) : (Code.region id ops true).wp P Q a0 w0 := by
  refine wp_region_any hm (wpAny_inv I hok hstep hend _ _ _ _ ?_ (by simp) ?_)
  · exact Nat.le_trans (List.countP_le_length) (by simp)
  · have e : (fun j => (Array.replicate ops.size false).getD j false) = fun _ => false := by
      funext j
      simp [Array.getD]
    rw [e]
    exact h0

/-- What is owed at each operation, as a list. -/
def InvT (P : Program) (ops : Array Oper) (Q : Exit → Act → World → Prop) (I : (Nat → Bool) → Act → World → Prop) : Nat → List Oper → Prop
  | _, [] => True
  | i, o :: r => (∀ L a w, L i = false → (∀ j, waits o j = true → L j = true) → I L a w → Region.wanted o (yielded ops a.tmps) = true ∧ o.wp P a w (fun a' w' => I (fun j => j == i || L j) a' w') Q) ∧ InvT P ops Q I (i + 1) r

theorem InvT.get {P : Program} {ops : Array Oper} {Q : Exit → Act → World → Prop} {I : (Nat → Bool) → Act → World → Prop} :
    ∀ (l : List Oper) (k : Nat), InvT P ops Q I k l → ∀ i o, l[i]? = some o → ∀ L a w, L (k + i) = false → (∀ j, waits o j = true → L j = true) → I L a w → Region.wanted o (yielded ops a.tmps) = true ∧ o.wp P a w (fun a' w' => I (fun j => j == (k + i) || L j) a' w') Q
  | [], _, _, i, o, h => by simp at h
  | x :: l, k, hl, 0, o, h => by
    simp at h; subst h; exact hl.1
  | x :: l, k, hl, i + 1, o, h => by
    have := InvT.get l (k + 1) hl.2 i o (by simpa using h)
    rw [show k + (i + 1) = k + 1 + i by omega]
    exact this

theorem wp_region_invT {P : Program} {id : Nat} {ops : Array Oper} {Q : Exit → Act → World → Prop} {a0 : Act} {w0 : World} (I : (Nat → Bool) → Act → World → Prop) (hm : P.follows .mixedOrders = true) (hok : orderOK ops = true)
    (h0 : I (fun _ => false) a0 w0.drew) (hsteps : InvT P ops Q I 0 ops.toList) (hend : ∀ L a w, (∀ j, j < ops.size → L j = true) → I L a w → Q .normal a w) : (Code.region id ops true).wp P Q a0 w0 :=
  wp_region_inv I hm hok h0 (fun i o L a w ho hl hw hi => by
    have := InvT.get ops.toList 0 hsteps i o (by simpa using ho) L a w (by simpa using hl) hw hi
    simpa using this) hend

theorem inv_does {P : Program} {ops : Array Oper} {Q : Exit → Act → World → Prop} {o : Oper} {a : Act} {w : World} {v : Value} {J : Act → World → Prop} (h : Does P ops Q (E v) o a w) (hk : ∀ w', Below w.heap.size w w' → J (a.put o.dst v) w') :
    Region.wanted o (yielded ops a.tmps) = true ∧ o.wp P a w (fun a' w' => J a' w') Q := by
  refine ⟨h.1, Oper.wp_mono (fun a' w' h' => ?_) h.2⟩
  obtain ⟨u, rfl, hb, hp⟩ := h'
  obtain rfl : u = v := hp
  exact hk w' hb

theorem inv_value {P : Program} {ops : Array Oper} {Q : Exit → Act → World → Prop} {o : Oper} {a : Act} {w w' : World} {v : Value} {J : Act → World → Prop} (hw : Region.wanted o (yielded ops a.tmps) = true) (hrun : (execOp a.eval o).run P w = .ok (.value v) w') (hk : J (a.put o.dst v) w') :
    Region.wanted o (yielded ops a.tmps) = true ∧ o.wp P a w (fun a' w' => J a' w') Q := by
  refine ⟨hw, ?_⟩
  unfold Oper.wp
  rw [hrun]
  exact hk

theorem inv_skip {P : Program} {ops : Array Oper} {Q : Exit → Act → World → Prop} {o : Oper} {a : Act} {w w' : World} {J : Act → World → Prop} (hw : Region.wanted o (yielded ops a.tmps) = true) (hd : o.dst = none) (hrun : (execOp a.eval o).run P w = .ok .skip w') (hk : J a w') :
    Region.wanted o (yielded ops a.tmps) = true ∧ o.wp P a w (fun a' w' => J a' w') Q := by
  refine ⟨hw, ?_⟩
  unfold Oper.wp
  rw [hrun]
  simp only [Oper.upon, hd, Act.put]
  exact hk

end Go.Proofs.Ytgalmkhgbokidaa.PB
