/-
  What is proved here: front's Check, LessEq, New at slices of one time.
-/
import Derived.Test.YtlamcgeboclkjaaTrC
import Derived.Test.YtlamcgeboclkjaaFLE
namespace Go.Proofs.Ytlamcgeboclkjaa
open Go.RowKit Go.Maps
set_option linter.unusedVariables false
set_option linter.unusedSimpArgs false

theorem One.isL {x : T} {v : Value} {w : World} (h : One x v w) : IsL [x] v w := by
  obtain ⟨g, c, rfl⟩ : ∃ g c, v = .slice (some ⟨g, 0, none⟩) 1 c := by obtain ⟨_, g, c, _, e, _⟩ := h; exact ⟨g, c, e⟩
  have hc : 1 ≤ c := by obtain ⟨_, g', c', _, e, hc, _⟩ := h; simp at e; rw [e.2]; exact hc
  obtain ⟨hg, h1, h2⟩ := h.cells
  refine ⟨_, c, rfl, hc, .inr ⟨_, rfl⟩, ⟨fun z hz => ?_, fun _ => ⟨g, 0, rfl, hg, fun i hi => ?_⟩⟩⟩
  · simp at hz; subst hz; exact h.1
  · have : i = 0 := by simp at hi; omega
    subst this
    exact ⟨h1, h2⟩

theorem steps_one (x : T) : StepsOf [x] [x] := ⟨by simp [Stairs], fun _ h => h, fun y hy => ⟨y, hy, le2_refl y⟩⟩

theorem check_one (x : T) (v : Value) (w : World) (h : One x v w) (hc : checkT x = 0) : Calls Try.prog 15 #[v] w fun e w' => e = .returned (.int .i64 0) ∧ Below w.heap.size w w' := by
  have hl := h.isL
  obtain ⟨g, c, rfl⟩ : ∃ g c, v = .slice (some ⟨g, 0, none⟩) 1 c := by obtain ⟨_, g, c, _, e, _⟩ := h; exact ⟨g, c, e⟩
  refine (FCheck_any w [x] (some ⟨g, 0, none⟩) c hl (by simp)).mono ?_
  rintro e w' ⟨z, rfl, hz, hb⟩
  have h0 : fcheckT [x] 0 := .inr (.inr (.inr ⟨by simp, by simpa using hc, steps_one x, rfl⟩))
  exact ⟨by rw [fcheckT_one hz h0], hb⟩

theorem le_one (x y : T) (u v : Value) (w : World) (hu : One x u w) (hv : One y v w) (hl : le2 x y = true) : Calls Try.prog 16 #[u, v] w fun e w' => e = .returned (.bool true) ∧ Below w.heap.size w w' := by
  refine (FLE_any w [x] [y] u v hu.isL hv.isL (by simp) (by simp)).mono ?_
  rintro e w' ⟨b, rfl, hb, hbel⟩
  have : b = true := hb.2 (fun z hz => by simp at hz; subst hz; exact ⟨x, by simp, hl⟩)
  subst this
  exact ⟨rfl, hbel⟩

theorem new_ones (w : World) (base : Nat) (v : Value) (l : List T) (h : w.ownsRow base 31 2 v l.length (flat l)) (hr : ∀ x ∈ l, RT x) (hlen : l.length ≤ 1000000000) (y : T) (hy : y ∈ l) (hmin : ∀ x ∈ l, le2 y x = true) :
    Calls Try.prog 25 #[v] w fun e w' => ∃ u, e = .returned u ∧ Below w.heap.size w w' ∧ One y u w' := by
  obtain ⟨a, c, rfl, hc, ht⟩ := Ts.of_owns h hr
  refine (new_any w a c l ht hlen).mono ?_
  rintro e w' ⟨v', s, rfl, hsl, hst, hown, hb⟩
  have hs : s = [y] := hst.eq (steps_one y) (fun t => ⟨fun ⟨z, hz, hzt⟩ => ⟨y, by simp, le2_trans (hmin z hz) hzt⟩, fun ⟨z, hz, hzt⟩ => by simp at hz; subst hz; exact ⟨z, hy, hzt⟩⟩)
  subst hs
  exact ⟨v', rfl, hb, One.of_owns hown (hr y hy)⟩

end Go.Proofs.Ytlamcgeboclkjaa
