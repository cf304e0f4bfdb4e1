/-
  What is proved here: an argument that is a slice of numbers, as the statement reads it: what lies in memory.
-/
import Derived.Test.YtpmlcpnnfllenaaSums
import Derived.ProofKit
import Derived.OpenShut
import Derived.ShutString
import Derived.ChangeOld
import Derived.ChangeSlices
namespace Go.Proofs.Ytpmlcpnnfllenaa
open Go.ChangeShapes Go.WideShapes Go.ChangeAt Go.RowKit
set_option linter.unusedVariables false
set_option linter.unusedSimpArgs false

theorem laidOut : laidOutB Try.prog = true := by kernel_rfl

theorem own : ownKnob Try.prog.godebug = none := by kernel_rfl

theorem R64.of_wf {z : Int} (h : (Lit.int .i64 z).wf = true) : R64 z := by
  have := bounds_i64 h
  unfold R64; omega

theorem open_numbers {H : Type} {enc : TypeId × Value → H} {w : World} {fuel : Nat} {a : Option Addr} {len cap : Nat} {x : DataW H × List MemPlace} (h : DataW.trod enc Try.prog w 0 (fun _ => true) true fuel 31 [.slice a len cap] = some x) :
    ∃ l : List Int, l.length = len ∧ Ns w.heap.size w a l := by
  rcases open_ints Try.underlying31 Try.underlying3 (by kernel_rfl) h with ⟨hcs, _⟩ | ⟨ad, len', cap', zs, hcs, _, hle, _, hzs, _, hc, hw⟩
  · simp at hcs
    obtain ⟨rfl, rfl, rfl⟩ := hcs
    exact ⟨[], rfl, Ns.nil _ _ _⟩
  · simp at hcs
    obtain ⟨rfl, rfl, rfl⟩ := hcs
    simp at hzs
    refine ⟨zs.take len, by simp [hzs]; omega, fun z hz => R64.of_wf (hw z (List.mem_of_mem_take hz)), fun hne => ?_⟩
    have hpos : 0 < len := by
      rcases Nat.eq_zero_or_pos len with h | h
      · subst h; simp at hne
      · exact h
    obtain ⟨b, off, spot⟩ := ad
    have hc0 := hc 0 (by omega)
    have hspot : spot = none := by simpa [Addr.add] using World.cell?_spot hc0
    subst hspot
    have hadd : ∀ i, (⟨b, off, none⟩ : Addr).add i = ⟨b, off + i, none⟩ := fun i => by unfold Addr.add; split <;> simp_all
    refine ⟨b, off, rfl, ?_, fun i hi => ?_⟩
    · rw [hadd] at hc0
      have := block_lt_of_cell hc0
      exact this
    · simp at hi
      have := hc i (by omega)
      rw [hadd] at this
      rw [this]
      simp [List.getD, List.getElem?_take_of_lt (show i < len by omega)]

end Go.Proofs.Ytpmlcpnnfllenaa
