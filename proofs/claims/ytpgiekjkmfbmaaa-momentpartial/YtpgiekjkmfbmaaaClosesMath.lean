/-
  What is proved here: the join of those times of a list that are less than a time or the same.
-/
import Derived.Test.YtpgiekjkmfbmaaaMath
namespace Go.Proofs.Ytpgiekjkmfbmaaa
open Go.RowKit Go.Proofs
set_option linter.unusedVariables false
set_option linter.unusedSimpArgs false

/-- The join of those of the times so far that are less than t or the same. -/
structure Some' (l : List T) (t : T) (some : Bool) (j : T) : Prop where
  none : some = false → (∀ x ∈ l, le2 x t = false) ∧ j = (0, 0)
  isE : some = true → ∃ x ∈ l, le2 x t = true ∧ x.1 = j.1
  isR : some = true → ∃ x ∈ l, le2 x t = true ∧ x.2 = j.2
  up : some = true → ∀ x ∈ l, le2 x t = true → x.1 ≤ j.1 ∧ x.2 ≤ j.2

theorem Some'.start (t : T) : Some' [] t false (0, 0) := ⟨fun _ => ⟨fun x h => (by simp at h), rfl⟩, fun h => (by cases h), fun h => (by cases h), fun h => (by cases h)⟩

theorem Some'.skip {l : List T} {t j : T} {s : Bool} (h : Some' l t s j) {x : T} (hx : le2 x t = false) : Some' (l ++ [x]) t s j := by
  refine ⟨fun hs => ⟨fun y hy => ?_, (h.none hs).2⟩, fun hs => ?_, fun hs => ?_, fun hs y hy hl => ?_⟩
  · rcases List.mem_append.1 hy with hy | hy
    · exact (h.none hs).1 y hy
    · simp only [List.mem_singleton] at hy; rw [hy]; exact hx
  · obtain ⟨y, hy, h1, h2⟩ := h.isE hs; exact ⟨y, by simp [hy], h1, h2⟩
  · obtain ⟨y, hy, h1, h2⟩ := h.isR hs; exact ⟨y, by simp [hy], h1, h2⟩
  · rcases List.mem_append.1 hy with hy | hy
    · exact h.up hs y hy hl
    · simp only [List.mem_singleton] at hy; rw [hy, hx] at hl; cases hl

theorem Some'.first {l : List T} {t j : T} (h : Some' l t false j) {x : T} (hx : le2 x t = true) : Some' (l ++ [x]) t true x := by
  refine ⟨fun hs => (by cases hs), fun _ => ⟨x, by simp, hx, rfl⟩, fun _ => ⟨x, by simp, hx, rfl⟩, fun _ y hy hl => ?_⟩
  rcases List.mem_append.1 hy with hy | hy
  · rw [(h.none rfl).1 y hy] at hl; cases hl
  · simp only [List.mem_singleton] at hy; rw [hy]; omega

theorem Some'.more {l : List T} {t j : T} (h : Some' l t true j) {x : T} (hx : le2 x t = true) : Some' (l ++ [x]) t true (joinT j x) := by
  obtain ⟨p, hp, hp1, hp2⟩ := h.isE rfl
  obtain ⟨q, hq, hq1, hq2⟩ := h.isR rfl
  refine ⟨fun hs => (by cases hs), fun _ => ?_, fun _ => ?_, fun _ y hy hl => ?_⟩
  · rcases Int.le_total j.1 x.1 with h' | h'
    · exact ⟨x, by simp, hx, by simp only [joinT]; omega⟩
    · exact ⟨p, by simp [hp], hp1, by simp only [joinT]; omega⟩
  · rcases Int.le_total j.2 x.2 with h' | h'
    · exact ⟨x, by simp, hx, by simp only [joinT]; omega⟩
    · exact ⟨q, by simp [hq], hq1, by simp only [joinT]; omega⟩
  · simp only [joinT]
    rcases List.mem_append.1 hy with hy | hy
    · have := h.up rfl y hy hl; omega
    · simp only [List.mem_singleton] at hy; rw [hy]; omega

/-- In the end: it is in the closure, and less than t or the same. -/
theorem Some'.closed {l : List T} {t j : T} {s : Bool} (h : Some' l t s j) (hs : s = true) : Joins l j ∧ le2 j t = true := by
  obtain ⟨p, hp, hp1, hp2⟩ := h.isE hs
  obtain ⟨q, hq, hq1, hq2⟩ := h.isR hs
  have hup := h.up hs p hp hp1
  have huq := h.up hs q hq hq1
  refine ⟨(joins_iff l j).2 ⟨⟨p, hp, hp2, hup.2⟩, q, hq, hq2, huq.1⟩, ?_⟩
  unfold le2 at *
  simp only [Bool.and_eq_true, decide_eq_true_eq] at *
  omega

end Go.Proofs.Ytpgiekjkmfbmaaa
