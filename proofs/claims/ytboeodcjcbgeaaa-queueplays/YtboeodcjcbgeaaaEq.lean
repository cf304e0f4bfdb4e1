/-
  What is proved here: slices.Equal of times; Same and Check of the program.
-/
import Derived.Test.YtboeodcjcbgeaaaAid
namespace Go.Proofs.Ytboeodcjcbgeaaa
open Go.RowKit Go.Proofs
set_option linter.unusedVariables false
set_option linter.unusedSimpArgs false

set_option maxRecDepth 100000 in
theorem same_L (w : World) (l r : List T) (u v : Value) (hu : IsL l u w) (hv : IsL r v w) (hl : l.length ≤ 1000000000) (hr : r.length ≤ 1000000000) :
    Calls Try.prog 16 #[u, v] w fun e w' => e = .returned (.bool (decide (l = r))) ∧ Below w.heap.size w w' := by
  obtain ⟨a, c, rfl, _, _, ht⟩ := hu
  obtain ⟨a', c', rfl, _, _, ht'⟩ := hv
  exact (same_any w a a' c c' l r ht ht' (by omega) (by omega)).mono fun e w' ⟨he, hg⟩ => ⟨he, hg.below⟩

set_option maxRecDepth 100000 in
theorem new_L (w : World) (l : List T) (v : Value) (h : IsL l v w) (hl : l.length ≤ 1000000000) : Calls Try.prog 25 #[v] w fun e w' => ∃ u f, e = .returned u ∧ StepsOf l f ∧ f.length ≤ l.length ∧ IsL f u w' ∧ Below w.heap.size w w' :=
  (new_newB l v w h hl).mono fun e w' ⟨u, he, hb, f, h1, h2, h3⟩ => ⟨u, f, he, h1, h2, h3, hb⟩

/-- Two lists have the same steps just if the same times are in advance of both. -/
def sameT (l r : List T) : Prop := ∀ t, Adv l t ↔ Adv r t

set_option maxRecDepth 100000 in
theorem steps_same {l r f g : List T} (hf : StepsOf l f) (hg : StepsOf r g) : f = g ↔ sameT l r := by
  constructor
  · intro e t
    rw [← hf.adv t, ← hg.adv t, e]
  · intro h; exact hf.eq hg h

/-- What Check answers. -/
def fcheckT (l : List T) (z : Int) : Prop := (1024 < l.length ∧ z = 3) ∨ (¬ 1024 < l.length ∧ (∃ x ∈ l, checkT x ≠ 0) ∧ z = 7) ∨ (¬ 1024 < l.length ∧ (∀ x ∈ l, checkT x = 0) ∧ ¬ StepsOf l l ∧ z = 6) ∨ (¬ 1024 < l.length ∧ (∀ x ∈ l, checkT x = 0) ∧ StepsOf l l ∧ z = 0)

set_option maxRecDepth 100000 in
theorem fcheckT_one {l : List T} {z z' : Int} (h : fcheckT l z) (h' : fcheckT l z') : z = z' := by
  have key : ∀ {p : Prop}, (∃ x ∈ l, checkT x ≠ 0) → (∀ x ∈ l, checkT x = 0) → p := fun ⟨x, hx, hn⟩ ha => absurd (ha x hx) hn
  rcases h with ⟨a, rfl⟩ | ⟨a, b, rfl⟩ | ⟨a, b, c, rfl⟩ | ⟨a, b, c, rfl⟩ <;> rcases h' with ⟨a', rfl⟩ | ⟨a', b', rfl⟩ | ⟨a', b', c', rfl⟩ | ⟨a', b', c', rfl⟩ <;> first | rfl | exact absurd a a' | exact absurd a' a | exact key b b' | exact key b' b | exact absurd c c' | exact absurd c' c

set_option maxRecDepth 100000 in
theorem steps_self {l f : List T} (h : StepsOf l f) : f = l ↔ StepsOf l l := by
  constructor
  · rintro rfl; exact h
  · intro h'; exact h.eq h' (fun _ => Iff.rfl)

end Go.Proofs.Ytboeodcjcbgeaaa
