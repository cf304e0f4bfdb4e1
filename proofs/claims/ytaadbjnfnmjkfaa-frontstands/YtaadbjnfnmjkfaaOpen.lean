/-
  What is proved here: an argument that is a time, or a slice of times, as the statement reads it: what lies in memory.
-/
import Derived.Test.YtaadbjnfnmjkfaaAid
import Derived.ProofKit
import Derived.OpenShut
import Derived.ShutString
import Derived.ChangeOld
import Derived.Lib.SmallJoins
import Derived.Deep.SlicePairs
namespace Go.Proofs.Ytaadbjnfnmjkfaa
open Go.ChangeShapes Go.WideShapes Go.ChangeAt Go.RowKit
set_option linter.unusedVariables false
set_option linter.unusedSimpArgs false

theorem own : ownKnob Try.prog.godebug = none := by kernel_rfl

section
variable {H : Type} {enc : TypeId × Value → H} {w : World}

theorem open_time {r : Reach} {b0 : Nat} {v : Value} {d : DataW H} {p : List MemPlace} (hv : Value.okWide Try.prog w r b0 32 v) (h : DataW.Trod enc Try.prog w 0 (fun _ => true) true 32 v d p) : ∃ x1 x2 : Int, v = .agg #[.int .i64 x1, .int .i64 x2] ∧ RT (x1, x2) := by
  obtain ⟨v0, v1, y0, y1, n, rfl, _, _, h0, h1⟩ := Joins.open_agg2 Try.underlying32 (by kernel_rfl) (by kernel_rfl) hv h
  obtain ⟨x1, e1, _, w1⟩ := DataW.trod_int Try.underlying3 h0
  obtain ⟨x2, e2, _, w2⟩ := DataW.trod_int Try.underlying3 h1
  simp at e1 e2
  subst e1 e2
  exact ⟨x1, x2, rfl, R64.of_wf w1, R64.of_wf w2⟩

theorem open_times {fuel : Nat} {a : Option Addr} {len cap : Nat} {x : DataW H × List MemPlace} (h : DataW.trod enc Try.prog w 0 (fun _ => true) true fuel 22 [.slice a len cap] = some x) :
    ∃ l : List T, l.length = len ∧ IsL l (.slice a len cap) w := by
  rcases Deep.open_slice_pairs Try.underlying22 Try.underlying32 (by kernel_rfl) rfl rfl (by kernel_rfl) (by kernel_rfl) h with ⟨hcs, _⟩ | ⟨ad, len', cap', m, n, V0, V1, D0, D1, P0, P1, hcs, _, hl, hm, hmm, _, hx⟩
  · simp at hcs
    obtain ⟨rfl, rfl, rfl⟩ := hcs
    exact ⟨[], rfl, isL_nil w⟩
  · simp at hcs
    obtain ⟨rfl, rfl, rfl⟩ := hcs
    simp at hmm
    subst hmm
    have hint : ∀ i, i < m → ∃ z y : Int, V0 i = .int .i64 z ∧ V1 i = .int .i64 y ∧ R64 z ∧ R64 y := by
      intro i hi
      obtain ⟨_, _, h1, h2⟩ := hx i hi
      obtain ⟨z, e1, _, w1⟩ := DataW.trod_int Try.underlying3 h1
      obtain ⟨y, e2, _, w2⟩ := DataW.trod_int Try.underlying3 h2
      simp at e1 e2
      exact ⟨z, y, e1, e2, R64.of_wf w1, R64.of_wf w2⟩
    refine ⟨(List.range len).map fun i => (intOf (V0 i), intOf (V1 i)), by simp, some ad, m, by simp, by simpa using hl, .inr ⟨ad, rfl⟩, ⟨?_, fun hne => ?_⟩⟩
    · intro t ht
      obtain ⟨i, hi, rfl⟩ := List.mem_map.1 ht
      obtain ⟨z, y, e1, e2, r1, r2⟩ := hint i (by have := List.mem_range.1 hi; omega)
      rw [e1, e2]
      exact ⟨r1, r2⟩
    · have hpos : 0 < len := by
        rcases Nat.eq_zero_or_pos len with h | h
        · subst h; simp at hne
        · exact h
      obtain ⟨b, off, spot⟩ := ad
      have hc := (hx 0 (by omega)).1
      have hspot : spot = none := by simpa [Addr.add] using World.cell?_spot hc
      subst hspot
      refine ⟨b, off, rfl, ?_, fun i hi => ?_⟩
      · have := block_lt_of_cell hc
        rw [addr_add] at this
        exact this
      · have hi' : i < len := by simpa using hi
        obtain ⟨h1, h2, _⟩ := hx i (by omega)
        obtain ⟨z, y, e1, e2, _⟩ := hint i (by omega)
        rw [addr_add, e1] at h1
        rw [addr_add, e2] at h2
        rw [show off + i * 2 + 1 = off + (i * 2 + 1) by omega, h1, h2]
        simp [List.getD, hi', e1, e2, intOf]
end

end Go.Proofs.Ytaadbjnfnmjkfaa
