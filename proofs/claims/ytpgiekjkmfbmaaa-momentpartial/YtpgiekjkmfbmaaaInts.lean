/-
  What is proved here: lists of numbers in order: sorted, each once; a step of Closure in numbers: the rounds that came up to now, the joins of one epoch.
-/
import Derived.Test.YtpgiekjkmfbmaaaMath
import Derived.Lib.SlicesCompact
namespace Go.Proofs.Ytpgiekjkmfbmaaa
open Go.RowKit
set_option linter.unusedVariables false
set_option linter.unusedSimpArgs false

/-- In strict order. -/
def SI (l : List Int) : Prop := l.Pairwise (· < ·)

theorem compact_upto (zs : List Int) (hs : zs.Pairwise (· ≤ ·)) : ∀ m, m ≤ zs.length → SI (Lib.compactUpTo zs.toArray m) ∧ (∀ x, x ∈ Lib.compactUpTo zs.toArray m ↔ x ∈ zs.take m) := by
  intro m
  induction m with
  | zero => intro _; simp [Lib.compactUpTo, SI]
  | succ m ih =>
    intro hm
    obtain ⟨h1, h2⟩ := ih (by omega)
    have hmz : m < zs.length := by omega
    have hd : zs.toArray[m]! = zs[m] := by rw [getElem!_pos _ _ (by simpa using hmz)]; simp
    have hle : ∀ x ∈ zs.take m, x ≤ zs[m] := by
      intro x hx
      obtain ⟨i, hi, rfl⟩ := List.mem_iff_getElem.1 hx
      rw [List.length_take] at hi
      rw [List.getElem_take]
      exact List.pairwise_iff_getElem.1 hs i m (by omega) hmz (by omega)
    have htk : zs.take (m + 1) = zs.take m ++ [zs[m]] := by rw [List.take_add_one, List.getElem?_eq_getElem hmz]; rfl
    rw [Lib.compactUpTo_succ, hd, htk]
    by_cases hk : Lib.keeps zs.toArray m = true
    · rw [if_pos hk]
      refine ⟨?_, fun x => by rw [List.mem_append, List.mem_append, h2]⟩
      unfold SI
      rw [List.pairwise_append]
      refine ⟨h1, List.pairwise_singleton _ _, fun x hx y hy => ?_⟩
      simp at hy
      subst hy
      have hx' := (h2 x).1 hx
      have hxle := hle x hx'
      rcases Int.lt_or_eq_of_le hxle with h | h
      · exact h
      · exfalso
        unfold Lib.keeps at hk
        cases m with
        | zero => simp at hx'
        | succ m =>
          have hmz' : m < zs.length := by omega
          have hd' : zs.toArray[m]! = zs[m] := by rw [getElem!_pos _ _ (by simpa using hmz')]; simp
          simp [hmz, hmz'] at hk
          have hlast : x ≤ zs[m] := by
            obtain ⟨i, hi, rfl⟩ := List.mem_iff_getElem.1 hx'
            rw [List.length_take] at hi
            rw [List.getElem_take]
            rcases Nat.lt_or_ge i m with hi' | hi'
            · exact List.pairwise_iff_getElem.1 hs i m (by omega) hmz' hi'
            · have : i = m := by omega
              subst this; exact Int.le_refl _
          have hstep : zs[m] ≤ zs[m + 1] := List.pairwise_iff_getElem.1 hs m (m + 1) hmz' hmz (by omega)
          exact hk (by omega)
    · rw [if_neg hk, List.append_nil]
      refine ⟨h1, fun x => ?_⟩
      rw [h2, List.mem_append]
      constructor
      · exact Or.inl
      · rintro (h | h)
        · exact h
        · simp at h
          subst h
          cases m with
          | zero => exfalso; apply hk; simp [Lib.keeps]
          | succ m =>
            have hmz' : m < zs.length := by omega
            have : zs[m + 1] = zs[m] := by
              unfold Lib.keeps at hk
              simp [hmz, hmz'] at hk
              exact hk
            rw [this]
            exact List.mem_iff_getElem.2 ⟨m, by rw [List.length_take]; omega, by rw [List.getElem_take]⟩

theorem compact_spec (zs : List Int) (hs : zs.Pairwise (· ≤ ·)) : SI (Lib.compact zs) ∧ ∀ x, x ∈ Lib.compact zs ↔ x ∈ zs := by
  have := compact_upto zs hs zs.length (Nat.le_refl _)
  rw [List.take_length] at this
  exact this

def srt (zs : List Int) : List Int := zs.mergeSort fun x y => decide (x ≤ y)

theorem srt_sorted (zs : List Int) : (srt zs).Pairwise (· ≤ ·) := by
  have := List.pairwise_mergeSort (le := fun x y : Int => decide (x ≤ y)) (fun a b c h1 h2 => by simp at *; omega) (fun a b => by simp; omega) zs
  refine List.Pairwise.imp (fun {a b} h => ?_) this
  simpa using h

theorem srt_mem (zs : List Int) (x : Int) : x ∈ srt zs ↔ x ∈ zs := (List.mergeSort_perm zs _).mem_iff
theorem srt_length (zs : List Int) : (srt zs).length = zs.length := List.length_mergeSort zs

theorem countP_take (l : List Int) (r : Int) (h : SI l) : (∀ x ∈ l.take (l.countP (· < r)), x < r) ∧ (∀ x ∈ l.drop (l.countP (· < r)), r ≤ x) := by
  induction l with
  | nil => simp
  | cons y l ih =>
    obtain ⟨h1, h2⟩ := List.pairwise_cons.1 h
    obtain ⟨i1, i2⟩ := ih h2
    rw [List.countP_cons]
    by_cases hy : y < r
    · simp only [hy, decide_true, if_true, List.take_succ_cons, List.drop_succ_cons]
      refine ⟨fun x hx => ?_, i2⟩
      rcases List.mem_cons.1 hx with rfl | hx
      · exact hy
      · exact i1 x hx
    · have h0 : l.countP (· < r) = 0 := by
        rw [List.countP_eq_zero]
        intro x hx
        have := h1 x hx
        simp; omega
      simp only [hy, decide_false, h0, Bool.false_eq_true, if_false, Nat.add_zero, List.take_zero, List.drop_zero]
      refine ⟨fun x hx => by simp at hx, fun x hx => ?_⟩
      rcases List.mem_cons.1 hx with rfl | hx
      · omega
      · have := h1 x hx; omega

/-- The times of a list that have the epoch of its first, ahead of all others. -/
def pre (l : List T) : Nat := (l.takeWhile fun t => decide (t.1 = (l.getD 0 (0, 0)).1)).length

theorem takeWhile_length (p : T → Bool) : ∀ (l : List T) (j : Nat), j ≤ l.length → (∀ i, i < j → p (l.getD i (0, 0)) = true) → (j = l.length ∨ p (l.getD j (0, 0)) = false) → (l.takeWhile p).length = j
  | [], j, hj, _, _ => by simp at hj ⊢; omega
  | x :: l, 0, _, _, hs => by
    rcases hs with h | h
    · simp at h
    · simp at h; simp [h]
  | x :: l, j + 1, hj, hp, hs => by
    have h0 := hp 0 (by omega)
    simp at h0
    rw [List.takeWhile_cons, if_pos h0]
    simp only [List.length_cons, Nat.add_right_cancel_iff]
    exact takeWhile_length p l j (by simpa using hj) (fun i hi => by simpa using hp (i + 1) (by omega)) (by simpa using hs)

theorem pre_eq (l : List T) (j : Nat) (hj : j ≤ l.length) (hp : ∀ i, i < j → (l.getD i (0, 0)).1 = (l.getD 0 (0, 0)).1) (hs : j = l.length ∨ (l.getD j (0, 0)).1 ≠ (l.getD 0 (0, 0)).1) : pre l = j := by
  refine takeWhile_length _ l j hj (fun i hi => by simpa using hp i hi) ?_
  rcases hs with h | h
  · exact .inl h
  · exact .inr (by simpa using h)

end Go.Proofs.Ytpgiekjkmfbmaaa
