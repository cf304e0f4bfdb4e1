/-
  What is proved here: small laws for the law MomentPartial: a new variable, a store into it, the end of a statement whose order is open.
-/
import Derived.Test.YtpgiekjkmfbmaaaPairs
import Derived.Test.YtpgiekjkmfbmaaaPlanC
import Derived.Test.YtpgiekjkmfbmaaaCloses
namespace Go.Proofs.Ytpgiekjkmfbmaaa
open Go.RowKit Go.Proofs
set_option linter.unusedVariables false
set_option linter.unusedSimpArgs false

/-- A new variable that holds no time yet, made since w0. -/
def Nw (w0 : World) : Value → World → Prop := fun v w => ∃ g, v = .pointer (some ⟨g, 0, none⟩) ∧ w0.heap.size ≤ g ∧ g < w.heap.size ∧ w.heap[g]? = some (.cells #[.int .i64 0, .int .i64 0] 23 (0, 0))

theorem nw_lasts (w0 : World) : PB.Lasts (Nw w0) := by
  rintro v w w' ⟨g, rfl, h0, h1, h2⟩ hb
  exact ⟨g, rfl, h0, Nat.lt_of_lt_of_le h1 hb.size, (hb.block g h1).trans h2⟩

section
variable {a : Act} {t u : Nat} {dst : Option Tmp} {ty : TypeId} {pos : String} {aft : Array Edge} {guard : Option (Nat × Bool)}

theorem run_alloc23 (w : World) : (execOp a.eval { dst := dst, op := .alloc 23, type := ty, pos := pos, after := aft, guard := guard }).run Try.prog w = .ok (.value (.pointer (some ⟨w.heap.size, 0, none⟩))) (w.alloc (.cells #[.int .i64 0, .int .i64 0] 23)) := by
  go_simp

theorem run_store23 {g : Nat} {x1 x2 y1 y2 : Int} (w : World) (h : PB.slot a t = .pointer (some ⟨g, 0, none⟩)) (h' : PB.slot a u = .agg #[.int .i64 x1, .int .i64 x2]) (hc : w.heap[g]? = some (.cells #[.int .i64 y1, .int .i64 y2] 23 (0, 0))) :
    (execOp a.eval { dst := dst, op := .store 23 (.tmp t) (.tmp u), type := ty, pos := pos, after := aft, guard := guard }).run Try.prog w = .ok .skip ((w.setCell ⟨g, 0, none⟩ (.int .i64 x1)).setCell ⟨g, 1, none⟩ (.int .i64 x2)) := by
  have h1 : a.tmps[t]?.getD undef = .pointer (some ⟨g, 0, none⟩) := by rw [← Array.getD_eq_getD_getElem?]; exact h
  have h2 : a.tmps[u]?.getD undef = .agg #[.int .i64 x1, .int .i64 x2] := by rw [← Array.getD_eq_getD_getElem?]; exact h'
  have c0 : w.cell? ⟨g, 0, none⟩ = some (.int .i64 y1) := by rw [cell_of_row _ _ _ _ _ _ hc]; rfl
  have c1 : w.cell? ⟨g, 1, none⟩ = some (.int .i64 y2) := by rw [cell_of_row _ _ _ _ _ _ hc]; rfl
  have f0 : w.frozen? ⟨g, 0, none⟩ = false := by simp [World.frozen?, hc]
  have f1 : w.frozen? ⟨g, 1, none⟩ = false := by simp [World.frozen?, hc]
  clear hc
  go_simp
end

theorem wpAny_done {P : Program} {md : Region.Mode} {ops : Array Oper} {Q : Exit → Act → World → Prop} {fuel : Nat} {listed : Array Bool} {a : Act} {w : World} (hr : Region.ready md ops listed = []) (hq : Q .normal a w) : wpAny P md ops Q fuel listed a w := by
  cases fuel with
  | zero => exact ⟨hr, hq⟩
  | succ f => exact ⟨fun _ => hq, fun i hi => by rw [hr] at hi; cases hi⟩

/-- One operation alone is ready, and it runs. -/
theorem wpAny_one {P : Program} {md : Region.Mode} {ops : Array Oper} {Q : Exit → Act → World → Prop} {fuel i : Nat} {listed : Array Bool} {a : Act} {w w' : World} {o : Oper} (hr : Region.ready md ops listed = [i]) (ho : ops[i]? = some o) (hd : o.dst = none) (hg : o.guard = none)
    (hrun : (execOp a.eval o).run P w = .ok .skip w') (hk : wpAny P md ops Q fuel (listed.setIfInBounds i true) a w') : wpAny P md ops Q (fuel + 1) listed a w := by
  refine ⟨fun h => (by rw [hr] at h; cases h), fun j hj => ?_⟩
  rw [hr] at hj
  simp at hj
  subst hj
  unfold wpOp
  rw [ho]
  simp only [PB.wanted_free hg, if_true]
  refine Or.inl ?_
  unfold Oper.wp
  rw [hrun]
  simp only [Oper.upon, hd, Act.put]
  exact hk

theorem le2_refl (a : T) : le2 a a = true := by simp [le2]
theorem le2_anti {a b : T} (h1 : le2 a b = true) (h2 : le2 b a = true) : a = b := by
  obtain ⟨a1, a2⟩ := a
  obtain ⟨b1, b2⟩ := b
  simp [le2] at *
  omega
theorem le2_trans {a b c : T} (h1 : le2 a b = true) (h2 : le2 b c = true) : le2 a c = true := by
  simp [le2] at *
  omega
theorem le2_join (a b c : T) : le2 (joinT a b) c = (le2 a c && le2 b c) := by
  simp only [le2, joinT, Int.max_le, Bool.decide_and]
  cases decide (a.1 ≤ c.1) <;> cases decide (a.2 ≤ c.2) <;> cases decide (b.1 ≤ c.1) <;> cases decide (b.2 ≤ c.2) <;> rfl
theorem le2_meet (a b c : T) : le2 c (meetT a b) = (le2 c a && le2 c b) := by
  simp only [le2, meetT, Int.le_min, Bool.decide_and]
  cases decide (c.1 ≤ a.1) <;> cases decide (c.2 ≤ a.2) <;> cases decide (c.1 ≤ b.1) <;> cases decide (c.2 ≤ b.2) <;> rfl
theorem cf_le {a b : T} (h : le2 a b = true) : cfT a b ≤ 0 := by
  unfold le2 at h
  unfold cfT
  simp at h
  split
  · omega
  · split
    · omega
    · split
      · omega
      · split <;> omega

end Go.Proofs.Ytpgiekjkmfbmaaa
