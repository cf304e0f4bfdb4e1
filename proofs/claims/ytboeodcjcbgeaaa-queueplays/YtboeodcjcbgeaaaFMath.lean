/-
  What is proved here: least times, steps, what is in advance, joins of two lists, what stands for a time: plain mathematics of pairs.
-/
import Derived.Test.YtboeodcjcbgeaaaStair
import Derived.Test.YtboeodcjcbgeaaaMath
namespace Go.Proofs.Ytboeodcjcbgeaaa
open Go.RowKit
set_option linter.unusedVariables false
set_option linter.unusedSimpArgs false

set_option maxRecDepth 100000 in
theorem le2_iff (a b : T) : le2 a b = true ↔ a.1 ≤ b.1 ∧ a.2 ≤ b.2 := by simp [le2]
set_option maxRecDepth 100000 in
theorem le2_refl (a : T) : le2 a a = true := by simp [le2]
set_option maxRecDepth 100000 in
theorem le2_anti {a b : T} (h1 : le2 a b = true) (h2 : le2 b a = true) : a = b := by
  obtain ⟨a1, a2⟩ := a
  obtain ⟨b1, b2⟩ := b
  simp [le2] at *
  omega
set_option maxRecDepth 100000 in
theorem le2_trans {a b c : T} (h1 : le2 a b = true) (h2 : le2 b c = true) : le2 a c = true := by
  simp [le2] at *
  omega
set_option maxRecDepth 100000 in
theorem le2_join (a b c : T) : le2 (joinT a b) c = true ↔ le2 a c = true ∧ le2 b c = true := by
  simp only [le2_iff, joinT]; omega
set_option maxRecDepth 100000 in
theorem le2_meet (a b c : T) : le2 c (meetT a b) = true ↔ le2 c a = true ∧ le2 c b = true := by
  simp only [le2_iff, meetT]; omega

/-- One of the least times of a list. -/
def Least (l : List T) (x : T) : Prop := x ∈ l ∧ ∀ y ∈ l, le2 y x = true → y = x

/-- Some time of the list is LessEq to t. -/
def Adv (l : List T) (t : T) : Prop := ∃ y ∈ l, le2 y t = true

/-- Steps: epochs rise, rounds fall. -/
def Stairs (s : List T) : Prop := s.Pairwise fun x y => x.1 < y.1 ∧ y.2 < x.2

set_option maxRecDepth 100000 in
theorem Stairs.sl {s : List T} (h : Stairs s) : SL s := List.Pairwise.imp (fun {a b} hab => Or.inl hab.1) h

set_option maxRecDepth 100000 in
theorem Stairs.at {s : List T} (h : Stairs s) {i j : Nat} (hij : i < j) (hj : j < s.length) : (s.getD i (0, 0)).1 < (s.getD j (0, 0)).1 ∧ (s.getD j (0, 0)).2 < (s.getD i (0, 0)).2 := by
  have := List.pairwise_iff_getElem.1 h i j (by omega) hj hij
  simpa [List.getD, List.getElem?_eq_getElem hj, List.getElem?_eq_getElem (show i < s.length by omega)] using this

set_option maxRecDepth 100000 in
theorem Stairs.rise {s : List T} (h : Stairs s) : Rise s := by
  intro i j hij hj
  rcases Nat.lt_or_eq_of_le hij with h' | rfl
  · exact Int.le_of_lt (h.at h' hj).1
  · exact Int.le_refl _

set_option maxRecDepth 100000 in
theorem mem_getD {s : List T} {y : T} (h : y ∈ s) : ∃ i, i < s.length ∧ s.getD i (0, 0) = y := by
  obtain ⟨i, hi, e⟩ := List.getElem_of_mem h
  exact ⟨i, hi, by simp [List.getD, List.getElem?_eq_getElem hi, e]⟩

set_option maxRecDepth 100000 in
theorem getD_mem {s : List T} {i : Nat} (h : i < s.length) : s.getD i (0, 0) ∈ s := by
  simp [List.getD, List.getElem?_eq_getElem h]

set_option maxRecDepth 100000 in
/-- Where epochs do not fall, those that are not above one come first. -/
theorem upto_spec {s : List T} (h : Rise s) (ep : Int) : ∀ i, i < s.length → (i < upto s ep ↔ (s.getD i (0, 0)).1 ≤ ep) := by
  have key : ∀ k, k ≤ s.length → (∀ i, i < k → (s.getD i (0, 0)).1 ≤ ep) → (k < s.length → ¬ (s.getD k (0, 0)).1 ≤ ep) → upto s ep = k := fun k hk h1 h2 =>
    countP_split _ (0, 0) s k hk (fun i hi => by simpa using h1 i hi) (fun i hi hi2 => by
      have a := h2 (by omega)
      have b := h k i hi hi2
      simp only [decide_eq_false_iff_not]
      omega)
  have ex : ∃ k, k ≤ s.length ∧ (∀ i, i < k → (s.getD i (0, 0)).1 ≤ ep) ∧ (k < s.length → ¬ (s.getD k (0, 0)).1 ≤ ep) := by
    have : ∀ m, m ≤ s.length → ∃ k, k ≤ m ∧ (∀ i, i < k → (s.getD i (0, 0)).1 ≤ ep) ∧ (k < m → ¬ (s.getD k (0, 0)).1 ≤ ep) := by
      intro m
      induction m with
      | zero => intro _; exact ⟨0, Nat.le_refl _, fun i hi => by omega, fun h => by omega⟩
      | succ m ih =>
        intro hm
        obtain ⟨k, hk, h1, h2⟩ := ih (by omega)
        rcases Nat.lt_or_eq_of_le hk with hk' | rfl
        · exact ⟨k, by omega, h1, fun _ => h2 hk'⟩
        · by_cases hc : (s.getD k (0, 0)).1 ≤ ep
          · exact ⟨k + 1, Nat.le_refl _, fun i hi => by
              rcases Nat.lt_or_eq_of_le (Nat.le_of_lt_succ hi) with h' | rfl
              · exact h1 i h'
              · exact hc, fun h => by omega⟩
          · exact ⟨k, by omega, h1, fun _ => hc⟩
    exact this _ (Nat.le_refl _)
  obtain ⟨k, hk, h1, h2⟩ := ex
  have e := key k hk h1 h2
  intro i hi
  rw [e]
  constructor
  · exact h1 i
  · intro hle
    rcases Nat.lt_or_ge i k with h' | h'
    · exact h'
    · exact absurd (Int.le_trans (h k i h' hi) hle) (h2 (by omega))

set_option maxRecDepth 100000 in
/-- What under answers, at steps: the one of the least round among those whose epoch is not above one. -/
theorem under_spec {s : List T} (h : Stairs s) (ep : Int) : ((underT s ep).2 = false ∧ ∀ y ∈ s, ¬ y.1 ≤ ep) ∨ ((underT s ep).2 = true ∧ (underT s ep).1 ∈ s ∧ (underT s ep).1.1 ≤ ep ∧ ∀ y ∈ s, y.1 ≤ ep → (underT s ep).1.2 ≤ y.2) := by
  have hs := upto_spec h.rise ep
  have hle := upto_le s ep
  unfold underT
  by_cases h0 : upto s ep = 0
  · rw [if_pos h0]
    refine Or.inl ⟨rfl, fun y hy hc => ?_⟩
    obtain ⟨i, hi, rfl⟩ := mem_getD hy
    have := (hs i hi).2 hc
    omega
  · rw [if_neg h0]
    refine Or.inr ⟨rfl, getD_mem (by omega), (hs _ (by omega)).1 (by omega), fun y hy hc => ?_⟩
    obtain ⟨i, hi, rfl⟩ := mem_getD hy
    have := (hs i hi).2 hc
    rcases Nat.lt_or_eq_of_le (show i ≤ upto s ep - 1 by omega) with h' | h'
    · exact Int.le_of_lt (h.at h' (by omega)).2
    · rw [h']; exact Int.le_refl _

set_option maxRecDepth 100000 in
theorem stepAhead_iff {s : List T} (h : Stairs s) (t : T) : stepAhead s t = true ↔ Adv s t := by
  unfold stepAhead Adv
  rcases under_spec h t.1 with ⟨e, hn⟩ | ⟨e, hm, h1, h2⟩
  · rw [e]
    simp only [Bool.false_and, Bool.false_eq_true, false_iff]
    rintro ⟨y, hy, hc⟩
    exact hn y hy ((le2_iff _ _).1 hc).1
  · rw [e]
    simp only [Bool.true_and]
    constructor
    · intro hc; exact ⟨_, hm, hc⟩
    · rintro ⟨y, hy, hc⟩
      rw [le2_iff] at hc ⊢
      have := h2 y hy hc.1
      omega

/-- Steps of a list: they are its own, and each of its times has one that is LessEq to it. -/
structure StepsOf (u s : List T) : Prop where
  st : Stairs s
  sub : ∀ x ∈ s, x ∈ u
  cov : ∀ y ∈ u, Adv s y

set_option maxRecDepth 100000 in
theorem StepsOf.nil : StepsOf [] [] := ⟨List.Pairwise.nil, fun x h => (by simp at h), fun x h => (by simp at h)⟩

set_option maxRecDepth 100000 in
theorem StepsOf.keep {u s : List T} {t : T} (h : StepsOf u s) (ha : Adv s t) : StepsOf (u ++ [t]) s :=
  ⟨h.st, fun x hx => List.mem_append_left _ (h.sub x hx), fun y hy => by
    rcases List.mem_append.1 hy with hy | hy
    · exact h.cov y hy
    · simp at hy; subst hy; exact ha⟩

set_option maxRecDepth 100000 in
theorem StepsOf.add {u s : List T} {t : T} (h : StepsOf u s) (ha : ¬ Adv s t) (hlt : ∀ y ∈ u, ltT y t) : StepsOf (u ++ [t]) (s ++ [t]) := by
  refine ⟨?_, fun x hx => ?_, fun y hy => ?_⟩
  · unfold Stairs
    rw [List.pairwise_append]
    refine ⟨h.st, by simp, fun a hm b hb => ?_⟩
    simp at hb
    subst hb
    have h1 := hlt a (h.sub a hm)
    have h2 : ¬ le2 a b = true := fun hc => ha ⟨a, hm, hc⟩
    rw [le2_iff] at h2
    unfold ltT at h1
    omega
  · rcases List.mem_append.1 hx with hx | hx
    · exact List.mem_append_left _ (h.sub x hx)
    · exact List.mem_append_right _ hx
  · rcases List.mem_append.1 hy with hy | hy
    · obtain ⟨x, hx, hc⟩ := h.cov y hy
      exact ⟨x, List.mem_append_left _ hx, hc⟩
    · exact ⟨y, List.mem_append_right _ hy, le2_refl y⟩

set_option maxRecDepth 100000 in
/-- Of two steps neither is LessEq to the other. -/
theorem Stairs.apart {s : List T} (h : Stairs s) {x y : T} (hx : x ∈ s) (hy : y ∈ s) (hc : le2 x y = true) : x = y := by
  obtain ⟨i, hi, rfl⟩ := mem_getD hx
  obtain ⟨j, hj, rfl⟩ := mem_getD hy
  rw [le2_iff] at hc
  rcases Nat.lt_trichotomy i j with h' | h' | h'
  · have := h.at h' hj; omega
  · rw [h']
  · have := h.at h' hi; omega

set_option maxRecDepth 100000 in
theorem StepsOf.set {u s : List T} (h : StepsOf u s) : SetOf s (Least u) := by
  refine ⟨h.st.sl, fun x => ⟨fun hx => ⟨h.sub x hx, fun y hy hc => ?_⟩, fun ⟨hx, hl⟩ => ?_⟩⟩
  · obtain ⟨z, hz, hzy⟩ := h.cov y hy
    have : z = x := h.st.apart hz hx (le2_trans hzy hc)
    subst this
    exact le2_anti hc hzy
  · obtain ⟨z, hz, hzx⟩ := h.cov x hx
    rw [← hl z (h.sub z hz) hzx]
    exact hz

set_option maxRecDepth 100000 in
theorem StepsOf.congr {u u' s : List T} (h : StepsOf u s) (e : ∀ x, x ∈ u ↔ x ∈ u') : StepsOf u' s :=
  ⟨h.st, fun x hx => (e x).1 (h.sub x hx), fun y hy => h.cov y ((e y).2 hy)⟩

set_option maxRecDepth 100000 in
theorem StepsOf.adv {u s : List T} (h : StepsOf u s) (t : T) : Adv s t ↔ Adv u t := by
  constructor
  · rintro ⟨y, hy, hc⟩; exact ⟨y, h.sub y hy, hc⟩
  · rintro ⟨y, hy, hc⟩
    obtain ⟨z, hz, hzy⟩ := h.cov y hy
    exact ⟨z, hz, le2_trans hzy hc⟩

set_option maxRecDepth 100000 in
/-- Two lists that are stepped alike have the same steps. -/
theorem StepsOf.eq {u u' s s' : List T} (h : StepsOf u s) (h' : StepsOf u' s') (e : ∀ t, Adv u t ↔ Adv u' t) : s = s' := by
  refine h.st.sl.eq h'.st.sl fun x => ?_
  have key : ∀ {u u' s s' : List T}, StepsOf u s → StepsOf u' s' → (∀ t, Adv u t ↔ Adv u' t) → ∀ x ∈ s, x ∈ s' := by
    intro u u' s s' h h' e x hx
    obtain ⟨y, hy, hyx⟩ := (h'.adv x).2 ((e x).1 ((h.adv x).1 ⟨x, hx, le2_refl x⟩))
    obtain ⟨z, hz, hzy⟩ := (h.adv y).2 ((e y).2 ((h'.adv y).1 ⟨y, hy, le2_refl y⟩))
    have : z = x := h.st.apart hz hx (le2_trans hzy hyx)
    subst this
    have : y = z := le2_anti hyx hzy
    rw [← this]; exact hy
  exact ⟨key h h' e x, key h' h (fun t => (e t).symm) x⟩

set_option maxRecDepth 100000 in
/-- Of a set of least times: they are steps. -/
theorem steps_of_set {u f : List T} (h : SetOf f (Least u)) : Stairs f := by
  unfold Stairs
  refine List.Pairwise.imp_of_mem (fun {a b} ha hb hab => ?_) h.sl
  have h1 := (h.mem a).1 ha
  have h2 := (h.mem b).1 hb
  have h3 : ¬ le2 a b = true := fun hc => ltT_irrefl a (by have := h2.2 a h1.1 hc; rw [← this] at hab; exact hab)
  rw [le2_iff] at h3
  unfold ltT at hab
  omega

end Go.Proofs.Ytboeodcjcbgeaaa
