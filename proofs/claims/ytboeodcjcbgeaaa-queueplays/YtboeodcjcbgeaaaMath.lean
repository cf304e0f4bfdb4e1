/-
  What is proved here: the order of times, lists in strict order and the sets that they are, joins of two times.
-/
import Derived.Test.YtboeodcjcbgeaaaOrd
import Derived.Sort.Statements
import Derived.Shelf.SlSortCmp.Insertion
namespace Go.Proofs.Ytboeodcjcbgeaaa
open Go.RowKit
set_option linter.unusedVariables false
set_option linter.unusedSimpArgs false

def ltT (x y : T) : Prop := x.1 < y.1 ∨ (x.1 = y.1 ∧ x.2 < y.2)

set_option maxRecDepth 100000 in
theorem cf_lt (x y : T) : cfT x y < 0 ↔ ltT x y := by
  unfold cfT ltT
  by_cases h1 : x.1 < y.1
  · simp [h1]
  · by_cases h2 : y.1 < x.1
    · simp [h1, h2]; omega
    · have e : x.1 = y.1 := by omega
      by_cases h3 : x.2 < y.2
      · simp [h1, h2, h3, e]
      · by_cases h4 : y.2 < x.2 <;> simp [h1, h2, h3, h4, e]

set_option maxRecDepth 100000 in
theorem cf_eq (x y : T) : cfT x y = 0 ↔ x = y := by
  obtain ⟨a, b⟩ := x
  obtain ⟨c, d⟩ := y
  unfold cfT
  simp only [Prod.mk.injEq]
  by_cases h1 : a < c
  · simp [h1]; omega
  · by_cases h2 : c < a
    · simp [h1, h2]; omega
    · by_cases h3 : b < d
      · simp [h1, h2, h3]; omega
      · by_cases h4 : d < b
        · simp [h1, h2, h3, h4]; omega
        · simp [h1, h2, h3, h4]; omega

set_option maxRecDepth 100000 in
theorem cf_neg (x y : T) : cfT x y = -cfT y x := by
  unfold cfT
  by_cases h1 : x.1 < y.1
  · simp [h1, show ¬ y.1 < x.1 by omega]
  · by_cases h2 : y.1 < x.1
    · simp [h1, h2]
    · by_cases h3 : x.2 < y.2
      · simp [h1, h2, h3, show ¬ y.2 < x.2 by omega]
      · by_cases h4 : y.2 < x.2 <;> simp [h1, h2, h3, h4]

set_option maxRecDepth 100000 in
theorem ltT_irrefl (x : T) : ¬ ltT x x := by unfold ltT; omega
set_option maxRecDepth 100000 in
theorem ltT_trans {x y z : T} (h1 : ltT x y) (h2 : ltT y z) : ltT x z := by unfold ltT at *; omega
set_option maxRecDepth 100000 in
theorem ltT_total (x y : T) : ltT x y ∨ x = y ∨ ltT y x := by
  obtain ⟨a, b⟩ := x
  obtain ⟨c, d⟩ := y
  unfold ltT
  simp only [Prod.mk.injEq]
  omega
set_option maxRecDepth 100000 in
theorem ltT_asymm {x y : T} (h1 : ltT x y) : ¬ ltT y x := fun h2 => ltT_irrefl x (ltT_trans h1 h2)

instance : DecidableRel ltT := fun x y => by unfold ltT; infer_instance

set_option maxRecDepth 100000 in
theorem ltOf_cf (x y : T) : ltOf cfT x y = decide (ltT x y) := by
  unfold ltOf
  exact decide_eq_decide.2 (cf_lt x y)

set_option maxRecDepth 100000 in
theorem swoT : Sort.SWO (ltOf cfT) where
  irrefl x := by rw [← Bool.not_eq_true]; unfold ltOf; simp [cf_lt]; exact ltT_irrefl x
  trans x y z h1 h2 := by unfold ltOf at *; simp only [decide_eq_true_eq, cf_lt] at *; exact ltT_trans h1 h2
  ntrans x y z h1 h2 := by unfold ltOf at *; simp only [decide_eq_false_iff_not, cf_lt] at *; unfold ltT at *; omega

/-- In strict order. -/
def SL (l : List T) : Prop := l.Pairwise ltT

set_option maxRecDepth 100000 in
theorem SL.nodup {l : List T} (h : SL l) : l.Nodup := by
  refine List.Pairwise.imp (fun {a b} hab => ?_) h
  rintro rfl
  exact ltT_irrefl _ hab

set_option maxRecDepth 100000 in
/-- A list in strict order is known by its members. -/
theorem SL.eq {l r : List T} (hl : SL l) (hr : SL r) (h : ∀ x, x ∈ l ↔ x ∈ r) : l = r := by
  refine List.Perm.eq_of_pairwise (le := ltT) (fun a b _ _ h1 h2 => absurd h2 (ltT_asymm h1)) hl hr ?_
  exact (List.perm_ext_iff_of_nodup hl.nodup hr.nodup).2 h

/-- The members of a list in strict order. -/
structure SetOf (l : List T) (p : T → Prop) : Prop where
  sl : SL l
  mem : ∀ x, x ∈ l ↔ p x

set_option maxRecDepth 100000 in
theorem SetOf.eq {l r : List T} {p q : T → Prop} (hl : SetOf l p) (hr : SetOf r q) (h : ∀ x, p x ↔ q x) : l = r :=
  hl.sl.eq hr.sl fun x => by rw [hl.mem, hr.mem, h]

set_option maxRecDepth 100000 in
theorem sl_of_sorted {l : List T} (hn : l.Nodup) (hs : ∀ i j, i < j → j < l.length → ¬ ltT (l.getD j (0, 0)) (l.getD i (0, 0))) : SL l := by
  unfold SL
  rw [List.pairwise_iff_getElem]
  intro i j hi hj hij
  have h1 := hs i j hij hj
  simp only [List.getD, List.getElem?_eq_getElem hi, List.getElem?_eq_getElem hj, Option.getD_some] at h1
  rcases ltT_total l[i] l[j] with h | h | h
  · exact h
  · exact absurd h (by
      have := List.pairwise_iff_getElem.1 hn i j hi hj hij
      exact this)
  · exact absurd h h1

/-- All joins of two. -/
def Joins (l : List T) (x : T) : Prop := ∃ a ∈ l, ∃ b ∈ l, x = joinT a b

set_option maxRecDepth 100000 in
theorem RT.join {a b : T} (ha : RT a) (hb : RT b) : RT (joinT a b) := by
  unfold RT R64 joinT at *
  simp only
  omega

set_option maxRecDepth 100000 in
theorem joins_iff (l : List T) (x : T) : Joins l x ↔ (∃ a ∈ l, a.1 = x.1 ∧ a.2 ≤ x.2) ∧ (∃ b ∈ l, b.2 = x.2 ∧ b.1 ≤ x.1) := by
  obtain ⟨x1, x2⟩ := x
  constructor
  · rintro ⟨⟨a1, a2⟩, ha, ⟨b1, b2⟩, hb, e⟩
    simp only [joinT, Prod.mk.injEq] at e
    obtain ⟨e1, e2⟩ := e
    refine ⟨?_, ?_⟩
    · rcases Int.le_total a1 b1 with h | h
      · exact ⟨_, hb, by simp only; omega, by simp only; omega⟩
      · exact ⟨_, ha, by simp only; omega, by simp only; omega⟩
    · rcases Int.le_total a2 b2 with h | h
      · exact ⟨_, hb, by simp only; omega, by simp only; omega⟩
      · exact ⟨_, ha, by simp only; omega, by simp only; omega⟩
  · rintro ⟨⟨⟨a1, a2⟩, ha, e1, h1⟩, ⟨b1, b2⟩, hb, e2, h2⟩
    simp only at e1 h1 e2 h2
    refine ⟨_, ha, _, hb, ?_⟩
    simp only [joinT, Prod.mk.injEq]
    omega

set_option maxRecDepth 100000 in
/-- The joins of joins are joins. -/
theorem joins_joins {l c : List T} (h : ∀ x, x ∈ c ↔ Joins l x) (x : T) : Joins c x ↔ Joins l x := by
  constructor
  · intro hx
    rw [joins_iff] at hx
    obtain ⟨⟨a, ha, e1, h1⟩, b, hb, e2, h2⟩ := hx
    rw [h, joins_iff] at ha hb
    obtain ⟨⟨p, hp, ep, hp2⟩, _⟩ := ha
    obtain ⟨_, ⟨q, hq, eq, hq2⟩⟩ := hb
    rw [joins_iff]
    exact ⟨⟨p, hp, by omega, by omega⟩, q, hq, by omega, by omega⟩
  · intro hx
    refine ⟨x, (h x).2 hx, x, (h x).2 hx, ?_⟩
    obtain ⟨x1, x2⟩ := x
    simp [joinT]

/-- A time is put into a list in strict order. -/
def addT : List T → T → List T
  | [], t => [t]
  | x :: l, t => if ltT x t then x :: addT l t else if x = t then x :: l else t :: x :: l

set_option maxRecDepth 100000 in
theorem mem_addT (l : List T) (t x : T) : x ∈ addT l t ↔ x = t ∨ x ∈ l := by
  induction l with
  | nil => simp [addT]
  | cons y l ih =>
    unfold addT
    split
    · simp [ih]; constructor
      · rintro (h | h | h)
        · exact Or.inr (Or.inl h)
        · exact Or.inl h
        · exact Or.inr (Or.inr h)
      · rintro (h | h | h)
        · exact Or.inr (Or.inl h)
        · exact Or.inl h
        · exact Or.inr (Or.inr h)
    · split
      · rename_i e; subst e; simp
      · simp

set_option maxRecDepth 100000 in
theorem sl_addT (l : List T) (t : T) (h : SL l) : SL (addT l t) := by
  induction l with
  | nil => simp [addT, SL]
  | cons y l ih =>
    obtain ⟨h1, h2⟩ := List.pairwise_cons.1 h
    unfold addT
    split
    · rename_i hlt
      refine List.pairwise_cons.2 ⟨fun z hz => ?_, ih h2⟩
      rcases (mem_addT l t z).1 hz with rfl | hz
      · exact hlt
      · exact h1 z hz
    · split
      · exact h
      · rename_i hn he
        have hty : ltT t y := by
          rcases ltT_total t y with h' | h' | h'
          · exact h'
          · exact absurd h'.symm he
          · exact absurd h' hn
        refine List.pairwise_cons.2 ⟨fun z hz => ?_, h⟩
        rcases List.mem_cons.1 hz with rfl | hz
        · exact hty
        · exact ltT_trans hty (h1 z hz)

/-- The place of a time in a list in strict order. -/
def place : List T → T → Nat
  | [], _ => 0
  | x :: l, t => if ltT x t then place l t + 1 else 0

set_option maxRecDepth 100000 in
theorem place_le (l : List T) (t : T) : place l t ≤ l.length := by
  induction l with
  | nil => simp [place]
  | cons y l ih => unfold place; split <;> simp; omega

set_option maxRecDepth 100000 in
theorem addT_place (l : List T) (t : T) : addT l t = if (l.getD (place l t) (0, 0) = t ∧ place l t < l.length) then l else l.take (place l t) ++ [t] ++ l.drop (place l t) := by
  induction l with
  | nil => simp [addT, place]
  | cons y l ih =>
    unfold addT place
    by_cases h : ltT y t
    · rw [if_pos h, if_pos h, ih]
      simp only [List.getD_cons_succ, List.length_cons, List.take_succ_cons, List.drop_succ_cons]
      by_cases h2 : l.getD (place l t) (0, 0) = t ∧ place l t < l.length
      · rw [if_pos h2, if_pos ⟨h2.1, by omega⟩]
      · rw [if_neg h2, if_neg (fun h3 => h2 ⟨h3.1, by omega⟩)]; simp
    · rw [if_neg h, if_neg h]
      simp

set_option maxRecDepth 100000 in
theorem place_spec (l : List T) (t : T) : ∀ i, i < place l t → ltT (l.getD i (0, 0)) t := by
  induction l with
  | nil => intro i hi; simp [place] at hi
  | cons y l ih =>
    intro i hi
    unfold place at hi
    split at hi
    · rename_i h
      cases i with
      | zero => simpa using h
      | succ i => simpa using ih i (by omega)
    · omega

set_option maxRecDepth 100000 in
theorem place_stop (l : List T) (t : T) (h : place l t < l.length) : ¬ ltT (l.getD (place l t) (0, 0)) t := by
  induction l with
  | nil => simp at h
  | cons y l ih =>
    unfold place at h ⊢
    by_cases hy : ltT y t
    · rw [if_pos hy] at h ⊢
      simpa using ih (by simpa using h)
    · rw [if_neg hy]
      simpa using hy

end Go.Proofs.Ytboeodcjcbgeaaa
