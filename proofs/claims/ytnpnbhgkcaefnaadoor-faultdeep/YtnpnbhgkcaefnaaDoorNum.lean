/-
  What is proved here: errors.As at a number's variable, and package fault's number: of an error that is wrapped any number of times its number, of nil none.
-/
import Derived.Test.YtnpnbhgkcaefnaaDoorAs
namespace Go.Proofs.YtnpnbhgkcaefnaaDoor
open Go.RowKit Go.Extern.Stop Go.Stop Go.Extern
set_option linter.unusedVariables false

/-- What errors.As leaves: all old blocks but t's own are as they were. -/
structure Onto (t : Addr) (w w' : World) : Prop where
  os : w'.os = w.os
  tape : w'.tape = w.tape
  output : w'.output = w.output
  size : w.heap.size ≤ w'.heap.size
  block : ∀ k, k < w.heap.size → k ≠ t.block → w'.heap[k]? = w.heap[k]?

theorem Onto.of_below {t : Addr} {w w' : World} (h : Below w.heap.size w w') : Onto t w w' := ⟨h.os, h.tape, h.output, h.size, fun k hk _ => h.block k hk⟩

theorem Onto.of_set {t : Addr} {w w1 : World} {v : Value} (h : Below w.heap.size w w1) : Onto t w (w1.setCell t v) :=
  ⟨h.os, h.tape, h.output, by have := h.size; simpa [World.setCell] using this, fun k hk hne => (Below.heap_setCell _ _ _ _ hne).trans (h.block k hk)⟩

theorem Onto.below {t : Addr} {w w' : World} (h : Onto t w w') {B : Nat} (hB : B ≤ t.block) (hw : B ≤ w.heap.size) : Below B w w' :=
  ⟨h.os, h.tape, h.output, h.size, fun k hk => h.block k (by omega) (by omega)⟩

theorem Onto.cell {t : Addr} {w w' : World} (h : Onto t w w') {p : Addr} (hp : p.block < w.heap.size) (hne : p.block ≠ t.block) : w'.cell? p = w.cell? p := World.cell?_of_block (w := w) (h.block p.block hp hne)
theorem Onto.frozen {t : Addr} {w w' : World} (h : Onto t w w') {p : Addr} (hp : p.block < w.heap.size) (hne : p.block ≠ t.block) : w'.frozen? p = w.frozen? p := World.frozen?_of_block (w := w) (h.block p.block hp hne)

/-- Package errors' variable errorType. -/
def Laid (w : World) : Prop := w.cell? ⟨0, 0, none⟩ = some (.iface 86 (.agg #[.pointer (some ⟨1, 25, none⟩)]))

theorem Laid.keep {w w' : World} (h : Laid w) {B : Nat} (hb : Below B w w') (hB : 0 < B) : Laid w' := (hb.cell (p := ⟨0, 0, none⟩) hB).trans h
theorem Laid.pos {w : World} (h : Laid w) : 0 < w.heap.size := lt_of_cell h

/-- A condition on the world that lasts while only new memory is made. -/
def Stays (K : World → Prop) : Prop := ∀ W W' : World, K W → Below W.heap.size W W' → K W'

/-- What a caller is told of errors.As(x, &t), t a number's variable, where K holds: 'ok', and z lies in t. -/
def AsNumK (K : World → Prop) (x : Value) (ok : Bool) (z : Int) : Prop := ∀ (t : Addr) (W : World), K W → Laid W → W.cell? t = some (.int .i64 0) → W.frozen? t = false →
  Calls Tryd.prog 26 #[x, .iface 55 (.pointer (some t))] W fun e w' => e = .returned (.bool ok) ∧ Onto t W w' ∧ w'.cell? t = some (.int .i64 z) ∧ w'.frozen? t = false

/-- .. in any world. -/
def AsNum (x : Value) (ok : Bool) (z : Int) : Prop := AsNumK (fun _ => True) x ok z

theorem asNum_nil : AsNum .nilIface false 0 := fun t W _ _ hc hz => (as_nil _ W).mono fun e w' ⟨h, h'⟩ => ⟨h, h' ▸ Onto.of_below (Below.refl _ _), h' ▸ hc, h' ▸ hz⟩

set_option maxHeartbeats 4000000 in
/-- Ahead of its loop errors.As makes a Value of the target. -/
theorem asNum_of (K : World → Prop) (hst : Stays K) (tx : TypeId) (vx : Value) (z : Int) (h37 : ∀ (t a : Addr) (W : World), K W → W.cell? a = some (.pointer (some t)) → W.cell? t = some (.int .i64 0) → W.frozen? t = false →
      Calls Tryd.prog 37 #[.iface tx vx, .iface 55 (.pointer (some t)), .agg #[.pointer (some ⟨1, 55, none⟩), .pointer (some a), .int .u64 150], .iface 86 (.agg #[.pointer (some ⟨1, 27, none⟩)])] W
        fun e w' => e = .returned (.bool true) ∧ ∃ w1, Below W.heap.size W w1 ∧ w' = w1.setCell t (.int .i64 z)) : AsNumK K (.iface tx vx) true z := by
  intro t w hK hg ht hf
  have h34 := Tryd.h34
  have h35 := Tryd.h35
  have h36 := Tryd.h36
  have h58 := Tryd.h58
  have h72 := Tryd.h72
  have h73 := Tryd.h73
  have v55 := Tryd.valueOf55
  have t55 := Tryd.type55
  have mK := Tryd.methodKind
  have mE := Tryd.methodElem
  have mI := Tryd.methodImplements
  have k55 := Tryd.kind55
  have k27 := Tryd.kind27
  have e55 := Tryd.elem55
  have i27 := Tryd.implements27
  have hpos := hg.pos
  have htl := lt_of_cell ht
  have n36 := Tryd.isNil55 ⟨w.heap.size, 0, none⟩ t ((w.alloc (.cells #[.pointer (some t)] 55)).alloc (.cells #[.pointer (some ⟨1, 55, none⟩), .pointer (some ⟨w.heap.size, 0, none⟩), .int .u64 150] 66)) (by simp)
  have hg2 : ((w.alloc (.cells #[.pointer (some t)] 55)).alloc (.cells #[.pointer (some ⟨1, 55, none⟩), .pointer (some ⟨w.heap.size, 0, none⟩), .int .u64 150] 66)).cell? ⟨0, 0, none⟩ = some (.iface 86 (.agg #[.pointer (some ⟨1, 25, none⟩)])) := by
    rw [World.cell?_alloc_lt _ _ ⟨0, 0, none⟩ (by simp), World.cell?_alloc_lt _ _ ⟨0, 0, none⟩ hpos]; exact hg
  have hb2 : Hid (Below w.heap.size w ((w.alloc (.cells #[.pointer (some t)] 55)).alloc (.cells #[.pointer (some ⟨1, 55, none⟩), .pointer (some ⟨w.heap.size, 0, none⟩), .int .u64 150] 66))) :=
    ((Below.refl _ _).alloc (Nat.le_refl _) _).alloc (by simp) _
  have H37 := hid' (h37 t ⟨w.heap.size, 0, none⟩ ((w.alloc (.cells #[.pointer (some t)] 55)).alloc (.cells #[.pointer (some ⟨1, 55, none⟩), .pointer (some ⟨w.heap.size, 0, none⟩), .int .u64 150] 66)) (hst _ _ hK hb2.out) (by simp)
    (by rw [hb2.out.cell htl]; exact ht) (by rw [hb2.out.frozen htl]; exact hf))
  clear hK
  go_enter Tryd.func26, Tryd.ntmps26
  go_wp2_with fail
  refine H37.out.mono ?_
  rintro e w' ⟨rfl, w1, hb1, rfl⟩
  go_wp2
  go_ret
  have hbb := hb2.out.trans (hb1.mono hb2.out.size)
  refine ⟨rfl, Onto.of_set hbb, ?_, ?_⟩
  · exact World.cell?_setCell_same _ _ _ (by rw [hbb.cell htl]; exact ht)
  · rw [World.frozen?_setCell, hbb.frozen htl]; exact hf

theorem asNum_chain (ops : List ByteArray) (z : Int) : AsNum (wrapV ops (numV z)) true z := by
  obtain ⟨tx, vx, hx⟩ := wrapV_iface (b := numV z) ⟨_, _, rfl⟩ ops
  have h := fun (t a : Addr) (W : World) (_ : True) ha ht hf => asIn_chain ops z t a (.int .i64 0) W ha ht hf
  rw [hx] at h ⊢
  exact asNum_of (fun _ => True) (fun _ _ _ _ => trivial) tx vx z h

/-- number's deferred function where nothing panics. -/
theorem numberIdle (p q : Addr) (w : World) :
    CallsD Tryd.prog 25 #[.pointer (some p), .pointer (some q)] .returning w fun e u' w' => e = .returned (.tuple #[]) ∧ u' = .returning ∧ w' = w := by
  refine callsD_of_wpS Tryd.func25 rfl fun c₀ cs hu => ?_
  apply wpS_seq
  apply wpS_region
  simp [wpOpsS, go_sem, recoverD, hu, Tryd.ntmps25, Exit.thenS]
  refine wpS_cond (t := false) (by simp [Act.eval, Array.replicate]) ?_
  simp only [Bool.false_eq_true, if_false]
  refine wpS_of_wp (wp_skip ?_)
  cases c₀
  simp_all [bodyPostS, results, Tryd.results25]

set_option maxHeartbeats 4000000 in
theorem number_at (K : World → Prop) (hst : Stays K) (x : Value) (ok : Bool) (z : Int) (hx : AsNumK K x ok z) (w : World) (hK : K w) (hg : Laid w) :
    Calls Tryd.prog 19 #[x] w fun e w' => e = .returned (.tuple #[.int .i64 z, .bool ok]) ∧ Below w.heap.size w w' := by
  have hmf : ∀ (fn : Fn) (first cap : Array Value) (w : World), (Instr.makeFunc fn first cap).run Tryd.prog w = .ok (.func fn first cap) w := fun _ _ _ _ => rfl
  have hpos := hg.pos
  have hb2 : Hid (Below w.heap.size w ((w.alloc (.cells #[.int .i64 0] 27)).alloc (.cells #[.bool false] 4))) := ((Below.refl _ _).alloc (Nat.le_refl _) _).alloc (by simp) _
  have H := hid' (hx ⟨w.heap.size, 0, none⟩ ((w.alloc (.cells #[.int .i64 0] 27)).alloc (.cells #[.bool false] 4)) (hst _ _ hK hb2.out) (hg.keep hb2.out hpos) (by simp) (by simp))
  clear hK hx
  go_enter_defers Tryd.func19, Tryd.ntmps19
  go_wp2_with fail
  refine H.out.mono ?_
  rintro e w1 ⟨rfl, ho, hc, hz⟩
  have hc2 : w1.cell? ⟨w.heap.size + 1, 0, none⟩ = some (.bool false) := by rw [ho.cell (by simp) (by simp)]; simp
  have hz2 : w1.frozen? ⟨w.heap.size + 1, 0, none⟩ = false := by rw [ho.frozen (by simp) (by simp)]; simp
  have HB : Hid (Below w.heap.size w w1) := hb2.out.trans (ho.below (Nat.le_refl _) hb2.out.size)
  clear ho H
  go_wp2_with fail
  go_region
  go_wp2
  refine leaves_cons (f := 25) (args := #[.pointer (some ⟨w.heap.size, 0, none⟩), .pointer (some ⟨w.heap.size + 1, 0, none⟩)]) (by simp) (by simp [go_sem]) ?_
  refine (numberIdle ⟨w.heap.size, 0, none⟩ ⟨w.heap.size + 1, 0, none⟩ _).mono ?_
  rintro e u' w'' ⟨rfl, rfl, rfl⟩
  simp [Leaves, settle, results, Tryd.results19, go_sem, hc, hc2]
  exact (((HB.out.setCell (Nat.le_succ _) _).setCell (Nat.le_refl _) _).setCell (Nat.le_succ _) _).drew

theorem number_of (x : Value) (ok : Bool) (z : Int) (hx : AsNum x ok z) (w : World) (hg : Laid w) :
    Calls Tryd.prog 19 #[x] w fun e w' => e = .returned (.tuple #[.int .i64 z, .bool ok]) ∧ Below w.heap.size w w' :=
  number_at (fun _ => True) (fun _ _ _ _ => trivial) x ok z hx w trivial hg
end Go.Proofs.YtnpnbhgkcaefnaaDoor
