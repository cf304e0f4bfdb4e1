/-
  What is proved here: an argument that is a number, as the statement reads it.
-/
import Derived.Test.YtioldkilfeemfaaBase
import Derived.ProofKit
import Derived.OpenShut
import Derived.ShutString
import Derived.ChangeOld
import Derived.ChangeSlices
namespace Go.Proofs.Ytioldkilfeemfaa
open Go.ChangeShapes Go.WideShapes Go.ChangeAt Go.RowKit
set_option linter.unusedVariables false
set_option linter.unusedSimpArgs false

theorem laidOut : laidOutB Try.prog = true := by kernel_rfl

theorem own : ownKnob Try.prog.godebug = none := by kernel_rfl

theorem R64.of_wf {z : Int} (h : (Lit.int .i64 z).wf = true) : R64 z := by
  have := bounds_i64 h
  unfold R64; omega

end Go.Proofs.Ytioldkilfeemfaa
