/-
  What is proved here: slices.IndexFunc and ContainsFunc at the two functions that are handed to them; Ahead; what is no time.
-/
import Derived.Test.YtboeodcjcbgeaaaNew
namespace Go.Proofs.Ytboeodcjcbgeaaa
open Go.RowKit Go.Proofs
set_option linter.unusedVariables false
set_option linter.unusedSimpArgs false

/-- In advance of a list, as a bool. -/
def advB (l : List T) (t : T) : Bool := l.any fun y => le2 y t

set_option maxRecDepth 100000 in
theorem advB_iff (l : List T) (t : T) : advB l t = true ↔ Adv l t := by simp [advB, Adv]

set_option maxRecDepth 100000 in
theorem bool_eq {a b : Bool} (h : a = true ↔ b = true) : a = b := by cases a <;> cases b <;> simp_all

end Go.Proofs.Ytboeodcjcbgeaaa
