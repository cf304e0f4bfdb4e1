/-
  What is proved here: errors.As finds the number of an error that is wrapped any number of times, writes it where it is asked for, and else only makes new memory.
-/
import Derived.Test.YtnpnbhgkcaefnaaDoorFacts
namespace Go.Proofs.YtnpnbhgkcaefnaaDoor
open Go.RowKit Go.Extern.Stop Go.Stop Go.Extern
set_option linter.unusedVariables false

/-- An error wrapped by ops, the outermost first. -/
def wrapV : List ByteArray → Value → Value
  | [], b => b
  | op :: r, b => failV op (wrapV r b)

theorem wrapV_iface {b : Value} (hb : ∃ t v, b = .iface t v) : ∀ r : List ByteArray, ∃ t v, wrapV r b = .iface t v
  | [] => hb
  | op :: r => ⟨53, _, rfl⟩

theorem lt_of_cell {w : World} {a : Addr} {v : Value} (h : w.cell? a = some v) : a.block < w.heap.size := by
  rcases Nat.lt_or_ge a.block w.heap.size with k | k
  · exact k
  · simp [World.cell?, Array.getElem?_eq_none k] at h

/-- The type's handle. -/
def hnd (t : TypeId) : Value := .pointer (some ⟨1, t, none⟩)

set_option maxHeartbeats 4000000 in
theorem asIn_chain (ops : List ByteArray) (z : Int) (t a : Addr) (old : Value) (w : World) (ha : w.cell? a = some (.pointer (some t))) (ht : w.cell? t = some old) (hf : w.frozen? t = false) :
    Calls Tryd.prog 37 #[wrapV ops (numV z), .iface 55 (.pointer (some t)), .agg #[.pointer (some ⟨1, 55, none⟩), .pointer (some a), .int .u64 150], .iface 86 (.agg #[.pointer (some ⟨1, 27, none⟩)])] w
      fun e w' => e = .returned (.bool true) ∧ ∃ w1, Below w.heap.size w w1 ∧ w' = w1.setCell t (.int .i64 z) := by
  have hal := lt_of_cell ha
  have htl := lt_of_cell ht
  have h40 := Tryd.h40
  have h70 := Tryd.h70
  have h42 := Tryd.h42
  have h34 := Tryd.h34
  have h43 := Tryd.h43
  have mA := Tryd.methodAssignableTo
  have mU := Tryd.mUF
  have tN := Tryd.typeOf27
  have tF := Tryd.typeOf53
  have aN := Tryd.assignable27
  have aF := Tryd.assignable53
  have vN := Tryd.valueOf27
  have nF := Tryd.noAsF
  have uF := Tryd.uF
  go_enter Tryd.func37, Tryd.ntmps37
  go_wp2
  go_loopg [0] ops.length (fun k p wr => ∃ r : List ByteArray, r.length = k ∧ p = wrapV r (numV z) ∧
    Below (w.heap.size + 1) (w.alloc (.cells #[.pointer (some ⟨1, 55, none⟩), .pointer (some a), .int .u64 150] 66)) wr)
  case atStart => exact ⟨ops, rfl, rfl, Below.refl _ _⟩
  case round =>
    obtain ⟨r, hr, rfl, hb⟩ := hrel
    have c0 : wr.cell? ⟨w.heap.size, 0, none⟩ = some (.pointer (some ⟨1, 55, none⟩)) := by rw [hb.cell (p := ⟨w.heap.size, 0, none⟩) (by simp)]; simp
    have c1 : wr.cell? ⟨w.heap.size, 1, none⟩ = some (.pointer (some a)) := by rw [hb.cell (p := ⟨w.heap.size, 1, none⟩) (by simp)]; simp
    have c2 : wr.cell? ⟨w.heap.size, 2, none⟩ = some (.int .u64 150) := by rw [hb.cell (p := ⟨w.heap.size, 2, none⟩) (by simp)]; simp
    have HB : Hid (Below w.heap.size w wr) := below_from (by simpa using hb)
    cases r with
    | nil =>
      have st := Tryd.set27 t ⟨wr.heap.size, 0, none⟩ z old (wr.alloc (.cells #[.int .i64 z] 27)) (by simp)
        (by rw [World.cell?_alloc_lt _ _ t (by have := HB.out.size; omega), HB.out.cell htl]; exact ht)
        (by rw [World.frozen?_alloc_old _ _ t (by have := HB.out.size; omega), HB.out.frozen htl]; exact hf)
      have el := Tryd.elemV55 a t wr (by rw [HB.out.cell hal]; exact ha)
      clear hb
      unfold wrapV numV
      go_wp2
      go_ret
      exact ⟨rfl, _, HB.out.alloc HB.out.size _, rfl⟩
    | cons op r =>
      obtain ⟨t', v', hv⟩ := wrapV_iface (b := numV z) ⟨_, _, rfl⟩ r
      unfold wrapV failV
      have HV : Hid (wrapV r (numV z) = .iface t' v') := hv
      have HH : Hid (r.length + 1 = gk) := hr
      have HC : Hid (Below (w.heap.size + 1) (w.alloc (.cells #[.pointer (some ⟨1, 55, none⟩), .pointer (some a), .int .u64 150] 66)) wr) := hb
      rw [hv]
      clear hv hr hb
      go_wp2
      go_roundg r.length
      case measure => have := HH.out; omega
      case rel => exact ⟨r, rfl, HV.out.symm, HC.out.alloc (by have := HC.out.size; simpa using this) _⟩
end Go.Proofs.YtnpnbhgkcaefnaaDoor
