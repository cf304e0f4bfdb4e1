/-
  No cell of these rows narrows 'for every input' (looked for: loops, veiled, ifaces, maps, wideKeys, modest, calm, conditions, laid).
  DERIVED. THE GIVEN ROWS OF THIS SEAT. 4 by the template 'for every input the law returns true; each argument reads behind the call as it read before'; 0 by the template 'total and deterministic' (their statements: YtpmlcpnnfllenaaTotals.lean).
  GIVEN WITH THE SEED: the statements are not yours to turn. If you find one false, say at which input.
  Laid BY PROGRAM, IN A SANDBOX (cutbox-rows.mjs): the forced cells as the released guide's own fill.sh prints them over the translation 90c6c4230c3c0852… (all of the seat's roots in one cut). By AI agents, Wed Nov 11 2026. No macro, syntax, notation, axiom, sorry.
-/
import Derived.Test.YtpmlcpnnfllenaaChecked
import GoSem.Claim
import GoSem.ClaimJoined
import GoSem.ClaimMapViews
import Derived.JoinedTies
import Derived.KernelRfl
namespace Go.Proofs.Ytpmlcpnnfllenaa
/- THE CELL 'sum', in the pinned program and in every row, IS THE sha256 OF THE DUMP (.gsa) THAT YtpmlcpnnfllenaaProg.lean LOADS. Nothing in Lean hashes anything: it is a label: what it is worth is what the hold of that sum in a sandbox is worth. -/
noncomputable def Try.pinned : Pinned := { name := "ytpmlcpnnfllenaa", sum := "90c6c4230c3c08525a89b28d68092b966f35c7223349f1948ecb22914c5f4642", checked := Try.checked }
namespace Rows
def none {H : Type} : Left H := { results := [], args := [] }

/-- 'runnellaw06.WeighPairs': WHATEVER THE INPUT: true; the input reads as it did. -/
def weighPairsSpec : ChangeSpec := { name := "weighPairs", fn := fun _ => fun
  | [d1, d2] => { results := [.lit (.bool true)], args := [d1, d2] }
  | _ => none }
def weighPairsRow : OpenClaim := { program := "ytpmlcpnnfllenaa", sum := "90c6c4230c3c08525a89b28d68092b966f35c7223349f1948ecb22914c5f4642", func := "runnel/runnellaw06.WeighPairs", spec := "weighPairs", apart := false }
def WeighPairsSaid : Prop := weighPairsRow.holds Try.pinned (OpenSpec.ofChange weighPairsSpec)

/-- ITS FALSE NEIGHBOUR: 'it returns false'. Refute it at one input. -/
def weighPairsWrong : ChangeSpec := { name := "weighPairs", fn := fun _ => fun
  | [d1, d2] => { results := [.lit (.bool false)], args := [d1, d2] }
  | _ => none }
def WeighPairsWrongFalsely : Prop := weighPairsRow.holds Try.pinned (OpenSpec.ofChange weighPairsWrong)

/-- 'runnellaw06.WeighProducts': WHATEVER THE INPUT: true; the input reads as it did. -/
def weighProductsSpec : ChangeSpec := { name := "weighProducts", fn := fun _ => fun
  | [d1, d2] => { results := [.lit (.bool true)], args := [d1, d2] }
  | _ => none }
def weighProductsRow : OpenClaim := { program := "ytpmlcpnnfllenaa", sum := "90c6c4230c3c08525a89b28d68092b966f35c7223349f1948ecb22914c5f4642", func := "runnel/runnellaw06.WeighProducts", spec := "weighProducts", apart := false }
def WeighProductsSaid : Prop := weighProductsRow.holds Try.pinned (OpenSpec.ofChange weighProductsSpec)

/-- ITS FALSE NEIGHBOUR: 'it returns false'. Refute it at one input. -/
def weighProductsWrong : ChangeSpec := { name := "weighProducts", fn := fun _ => fun
  | [d1, d2] => { results := [.lit (.bool false)], args := [d1, d2] }
  | _ => none }
def WeighProductsWrongFalsely : Prop := weighProductsRow.holds Try.pinned (OpenSpec.ofChange weighProductsWrong)

/-- 'runnellaw06.WeighSums': WHATEVER THE INPUT: true; the input reads as it did. -/
def weighSumsSpec : ChangeSpec := { name := "weighSums", fn := fun _ => fun
  | [d1, d2] => { results := [.lit (.bool true)], args := [d1, d2] }
  | _ => none }
def weighSumsRow : OpenClaim := { program := "ytpmlcpnnfllenaa", sum := "90c6c4230c3c08525a89b28d68092b966f35c7223349f1948ecb22914c5f4642", func := "runnel/runnellaw06.WeighSums", spec := "weighSums", apart := false }
def WeighSumsSaid : Prop := weighSumsRow.holds Try.pinned (OpenSpec.ofChange weighSumsSpec)

/-- ITS FALSE NEIGHBOUR: 'it returns false'. Refute it at one input. -/
def weighSumsWrong : ChangeSpec := { name := "weighSums", fn := fun _ => fun
  | [d1, d2] => { results := [.lit (.bool false)], args := [d1, d2] }
  | _ => none }
def WeighSumsWrongFalsely : Prop := weighSumsRow.holds Try.pinned (OpenSpec.ofChange weighSumsWrong)

/-- 'runnellaw06.WeighBack': WHATEVER THE INPUT: true; the input reads as it did. -/
def weighBackSpec : ChangeSpec := { name := "weighBack", fn := fun _ => fun
  | [d1, d2] => { results := [.lit (.bool true)], args := [d1, d2] }
  | _ => none }
def weighBackRow : OpenClaim := { program := "ytpmlcpnnfllenaa", sum := "90c6c4230c3c08525a89b28d68092b966f35c7223349f1948ecb22914c5f4642", func := "runnel/runnellaw06.WeighBack", spec := "weighBack", apart := false }
def WeighBackSaid : Prop := weighBackRow.holds Try.pinned (OpenSpec.ofChange weighBackSpec)

/-- ITS FALSE NEIGHBOUR: 'it returns false'. Refute it at one input. -/
def weighBackWrong : ChangeSpec := { name := "weighBack", fn := fun _ => fun
  | [d1, d2] => { results := [.lit (.bool false)], args := [d1, d2] }
  | _ => none }
def WeighBackWrongFalsely : Prop := weighBackRow.holds Try.pinned (OpenSpec.ofChange weighBackWrong)

/- THE SECOND FORM. 'bulk': how many values and letters a reading holds, each counted each time it is reached (what is shared counts as often as it is met; a slice's spare places count too). A statement '..UptoSaid' is the law's where the arguments, and the package variables that the reading takes, are together of bulk at most 1048576: NARROWER than '..Said'. Prove '..Said' where nothing that the law and all that it calls make is longer than what came in: it says more and counts as full. Else prove '..UptoSaid'. A law counts once. -/
mutual
def uptoBulk {H : Type} : DataW H → Nat
  | .lit (.string bytes) => bytes.length + 1
  | .lit _ => 1
  | .nil => 1
  | .ptr d => uptoBulk d + 1
  | .slice elems spare => uptoBulkAll elems + uptoBulkAll spare + 1
  | .agg parts => uptoBulkAll parts + 1
  | .iface _ d => uptoBulk d + 1
  | .map entries => uptoBulkEntries entries + 1
  | .held _ => 1
def uptoBulkAll {H : Type} : List (DataW H) → Nat
  | [] => 0
  | d :: r => uptoBulk d + uptoBulkAll r
def uptoBulkEntries {H : Type} : List (Lit × DataW H) → Nat
  | [] => 0
  | x :: r => uptoBulkEntry x + uptoBulkEntries r
def uptoBulkEntry {H : Type} : Lit × DataW H → Nat
  | (.string bytes, d) => bytes.length + uptoBulk d + 1
  | (_, d) => uptoBulk d + 1
 end
def uptoSmall : (H : Type) → List (DataW H) → Bool := fun _ ds => decide (uptoBulkAll ds ≤ 1048576)
def OpenSpec.upto (s : _root_.Go.ChangeSpec) : _root_.Go.OpenSpec := { _root_.Go.OpenSpec.ofChange s with cond := some uptoSmall }

/-- 'runnellaw06.WeighPairs', WHERE WHAT IT READS IS OF BULK AT MOST 1048576: true; the input reads as it did. -/
def weighPairsUptoRow : OpenClaim := { program := "ytpmlcpnnfllenaa", sum := "90c6c4230c3c08525a89b28d68092b966f35c7223349f1948ecb22914c5f4642", func := "runnel/runnellaw06.WeighPairs", spec := "weighPairs", apart := false, narrowed := true }
def WeighPairsUptoSaid : Prop := weighPairsUptoRow.holds Try.pinned (OpenSpec.upto weighPairsSpec)

/-- 'runnellaw06.WeighProducts', WHERE WHAT IT READS IS OF BULK AT MOST 1048576: true; the input reads as it did. -/
def weighProductsUptoRow : OpenClaim := { program := "ytpmlcpnnfllenaa", sum := "90c6c4230c3c08525a89b28d68092b966f35c7223349f1948ecb22914c5f4642", func := "runnel/runnellaw06.WeighProducts", spec := "weighProducts", apart := false, narrowed := true }
def WeighProductsUptoSaid : Prop := weighProductsUptoRow.holds Try.pinned (OpenSpec.upto weighProductsSpec)

/-- 'runnellaw06.WeighSums', WHERE WHAT IT READS IS OF BULK AT MOST 1048576: true; the input reads as it did. -/
def weighSumsUptoRow : OpenClaim := { program := "ytpmlcpnnfllenaa", sum := "90c6c4230c3c08525a89b28d68092b966f35c7223349f1948ecb22914c5f4642", func := "runnel/runnellaw06.WeighSums", spec := "weighSums", apart := false, narrowed := true }
def WeighSumsUptoSaid : Prop := weighSumsUptoRow.holds Try.pinned (OpenSpec.upto weighSumsSpec)

/-- 'runnellaw06.WeighBack', WHERE WHAT IT READS IS OF BULK AT MOST 1048576: true; the input reads as it did. -/
def weighBackUptoRow : OpenClaim := { program := "ytpmlcpnnfllenaa", sum := "90c6c4230c3c08525a89b28d68092b966f35c7223349f1948ecb22914c5f4642", func := "runnel/runnellaw06.WeighBack", spec := "weighBack", apart := false, narrowed := true }
def WeighBackUptoSaid : Prop := weighBackUptoRow.holds Try.pinned (OpenSpec.upto weighBackSpec)

end Rows
end Go.Proofs.Ytpmlcpnnfllenaa
