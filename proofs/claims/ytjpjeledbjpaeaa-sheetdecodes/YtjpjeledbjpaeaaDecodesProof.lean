/-
  What is proved here: for all bytes the law SheetDecodes answers true: Decode answers as the document says, leaves the bytes as they were, and what is told has the same bytes again. No condition.
-/
import Derived.Test.YtjpjeledbjpaeaaRows
import Derived.Test.YtjpjeledbjpaeaaOpenB
import Derived.Test.YtjpjeledbjpaeaaDecodesW
namespace Go.Proofs.Ytjpjeledbjpaeaa.sheetDecodes
open Go.ChangeShapes Go.WideShapes Go.ChangeAt Go.RowKit
set_option linter.unusedVariables false

set_option maxRecDepth 100000 in
theorem lifted (os : Os) (started : os.Started) (H : Type) (enc : TypeId × Value → H) :
    ReturnsInHanded {} Try.checked os 4 .any (Rows.sheetDecodesSpec.pre6 enc Try.prog Try.f4 Rows.sheetDecodesRow.domain false) (Rows.sheetDecodesSpec.post enc Try.prog Try.f4 false true false false) := by
  refine returnsInHanded_of_change (C := Try.checked) own started (by kernel_rfl) Try.func4
    (ChangeSpec.witness6 (enc := enc) (C := Try.checked) false ⟨#[], #[.slice none 0 0], []⟩ 8 (by kernel_rfl) (by kernel_rfl) (by kernel_rfl) (by kernel_rfl)) ?_
  intro W base args ds gs before hval0 hW hcnd _
  have hval : ∀ (j : Nat) t v, Try.f4.params[j]? = some t → args[j]? = some v → Value.okWide Try.prog W .any base t v := hval0
  have hW' := hW
  obtain ⟨p, q, hA0, hV, rfl, hfz, hnd⟩ := hW
  have hA : DataW.TrodAll enc Try.prog W 0 (fun _ => true) true Try.f4.params.toList args.toList ds p := hA0
  rw [Try.params4] at hA hval
  obtain ⟨v0, vs0, d0, ds0, p0, q0, hargs, rfl, rfl, h0, r0⟩ := trodAll_cons hA
  obtain ⟨rfl, rfl, rfl⟩ := trodAll_nil r0
  obtain rfl : args = #[v0] := by cases args; simp_all
  obtain ⟨rfl, rfl⟩ := trodVars_none hV
  have k0 := h0
  have lt0 : ∀ x ∈ p0, x.block < W.heap.size := by obtain ⟨m, hm⟩ := k0; exact DataW.trod_lt m _ _ _ hm
  obtain ⟨a0, len0, cap0, rfl⟩ := okWide_slice Try.underlying28 (hval 0 28 v0 rfl rfl)
  obtain ⟨l0, hl0, hc0, hb0, hn0⟩ := (by obtain ⟨fuel, hf⟩ := h0; exact open_bytes hf : ∃ l : List Int, l.length = len0 ∧ len0 ≤ cap0 ∧ Bts W.heap.size W a0 l ∧ (a0 = none → l = [] ∧ cap0 = 0))
  subst hl0
  clear hA0 hval0
  refine (decodes_walk W a0 cap0 l0 hb0 hc0 hn0).mono fun e W' ⟨he, bel⟩ => ?_
  subst he
  exact ⟨_, rfl, _, _, _, [], _, [], hW', trodAll_mk1 (shut_bool Try.underlying4 _), (trodAll_cons_mk (Below.trod laidOut (by kernel_rfl) (of_decide_eq_true (by kernel_rfl)) k0 bel lt0) trodAll_mk0), rfl, bel.frame _, fun h => by cases h⟩

theorem over : Rows.sheetDecodesRow.holds Try.pinned (OpenSpec.ofChange Rows.sheetDecodesSpec) :=
  OpenClaim.holds_of_wide 4 Try.f4 rfl rfl rfl rfl rfl rfl rfl ⟨rfl, rfl, rfl, rfl, rfl⟩ rfl rfl rfl rfl rfl (by kernel_rfl) Try.func4 (by kernel_rfl)
    (of_decide_eq_true (by kernel_rfl)) (by unfold Func.isWrapper; first | (rw [if_pos (by decide +kernel)]; kernel_rfl) | (rw [if_neg (by decide +kernel)]; exact ⟨rfl, rfl⟩))
    (fun os started H enc _ => lifted os started H enc)

end Go.Proofs.Ytjpjeledbjpaeaa.sheetDecodes
namespace Go.Proofs.Ytjpjeledbjpaeaa
theorem sheetDecodes_holds : Rows.SheetDecodesSaid := sheetDecodes.over
#print axioms sheetDecodes_holds
end Go.Proofs.Ytjpjeledbjpaeaa
