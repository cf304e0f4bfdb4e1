/-
  What is proved here: errors.As at a variable for what joins several, and package fault's parts.
-/
import Derived.Test.YtnpnbhgkcaefnaaDoorParts
namespace Go.Proofs.YtnpnbhgkcaefnaaDoor
open Go.RowKit Go.Extern.Stop Go.Stop Go.Extern
set_option linter.unusedVariables false

/-- The world in which errors.As enters its loop. -/
def asWorld (t : Addr) (w : World) : World := (w.alloc (.cells #[.pointer (some t)] 80)).alloc (.cells #[.pointer (some ⟨1, 80, none⟩), .pointer (some ⟨w.heap.size, 0, none⟩), .int .u64 150] 66)

theorem asWorld_below (t : Addr) (w : World) : Below w.heap.size w (asWorld t w) := ((Below.refl _ _).alloc (Nat.le_refl _) _).alloc (by simp) _

set_option maxHeartbeats 4000000 in
theorem asJ_enter (x : Value) (hx : ∃ t v, x = .iface t v) (t : Addr) (w : World) (R : Ending → World → Prop)
    (h : Calls Tryd.prog 37 #[x, .iface 80 (.pointer (some t)), .agg #[.pointer (some ⟨1, 80, none⟩), .pointer (some ⟨w.heap.size, 0, none⟩), .int .u64 150], .iface 86 (.agg #[.pointer (some ⟨1, 79, none⟩)])] (asWorld t w) fun e w' => ∃ b, e = .returned (.bool b) ∧ R e w') :
    Calls Tryd.prog 26 #[x, .iface 80 (.pointer (some t))] w R := by
  obtain ⟨tx, vx, rfl⟩ := hx
  have h34 := Tryd.h34
  have h35 := Tryd.h35
  have h36 := Tryd.h36
  have h58 := Tryd.h58
  have h72 := Tryd.h72
  have v80 := Tryd.valueOf80
  have t80 := Tryd.type80
  have mK := Tryd.methodKind
  have mE := Tryd.methodElem
  have k80 := Tryd.kind80
  have k79 := Tryd.kind79
  have e80 := Tryd.elem80
  have n36 := Tryd.isNil80 ⟨w.heap.size, 0, none⟩ t ((w.alloc (.cells #[.pointer (some t)] 80)).alloc (.cells #[.pointer (some ⟨1, 80, none⟩), .pointer (some ⟨w.heap.size, 0, none⟩), .int .u64 150] 66)) (by simp)
  have H := hid' h
  unfold asWorld at H
  clear h
  go_enter Tryd.func26, Tryd.ntmps26
  go_wp2_with fail
  refine H.out.mono ?_
  rintro e w' ⟨b, rfl, hR⟩
  have HR := hid' hR
  clear hR
  go_wp2
  exact HR.out

theorem asJoin_num (v : Value) : AsJoin (.iface 27 v) false .nilIface := by
  intro t w ht hf
  refine asJ_enter _ ⟨_, _, rfl⟩ t w _ ((asInJ_num v t _ _).mono ?_)
  rintro e w' ⟨rfl, hb⟩
  have hb' := (asWorld_below t w).trans (hb.mono (asWorld_below t w).size)
  exact ⟨_, rfl, rfl, Onto.of_below hb', (hb'.cell (lt_of_cell ht)).trans ht, (hb'.frozen (lt_of_cell ht)).trans hf⟩

theorem asJoin_join (p : Addr) : AsJoin (.iface 60 (.pointer (some p))) true (.iface 60 (.pointer (some p))) := by
  intro t w ht hf
  have hb0 := asWorld_below t w
  refine asJ_enter _ ⟨_, _, rfl⟩ t w _ ((asInJ_join p t _ .nilIface _ (by simp [asWorld]) ((hb0.cell (lt_of_cell ht)).trans ht) ((hb0.frozen (lt_of_cell ht)).trans hf)).mono ?_)
  rintro e w' ⟨rfl, w1, hb, rfl⟩
  have hb' := hb0.trans (hb.mono hb0.size)
  refine ⟨_, rfl, rfl, Onto.of_set hb', World.cell?_setCell_same _ _ _ ((hb'.cell (lt_of_cell ht)).trans ht), ?_⟩
  rw [World.frozen?_setCell]
  exact (hb'.frozen (lt_of_cell ht)).trans hf

/-- parts' deferred function where nothing panics. -/
theorem partsIdle (p : Addr) (w : World) :
    CallsD Tryd.prog 38 #[.pointer (some p)] .returning w fun e u' w' => e = .returned (.tuple #[]) ∧ u' = .returning ∧ w' = w := by
  refine callsD_of_wpS Tryd.func38 rfl fun c₀ cs hu => ?_
  apply wpS_seq
  apply wpS_region
  simp [wpOpsS, go_sem, recoverD, hu, Tryd.ntmps38, Exit.thenS]
  refine wpS_cond (t := false) (by simp [Act.eval, Array.replicate]) ?_
  simp only [Bool.false_eq_true, if_false]
  refine wpS_of_wp (wp_skip ?_)
  cases c₀
  simp_all [bodyPostS, results, Tryd.results38]

set_option maxHeartbeats 4000000 in
theorem parts_none (x : Value) (hx : AsJoin x false .nilIface) (w : World) : Calls Tryd.prog 30 #[x] w fun e w' => e = .returned (.slice none 0 0) ∧ Below w.heap.size w w' := by
  have hmf : ∀ (fn : Fn) (first cap : Array Value) (w : World), (Instr.makeFunc fn first cap).run Tryd.prog w = .ok (.func fn first cap) w := fun _ _ _ _ => rfl
  have hb2 : Hid (Below w.heap.size w ((w.alloc (.cells #[.slice none 0 0] 36)).alloc (.cells #[.nilIface] 79))) := ((Below.refl _ _).alloc (Nat.le_refl _) _).alloc (by simp) _
  have H := hid' (hx ⟨w.heap.size + 1, 0, none⟩ ((w.alloc (.cells #[.slice none 0 0] 36)).alloc (.cells #[.nilIface] 79)) (by simp) (by simp))
  go_enter_defers Tryd.func30, Tryd.ntmps30
  go_wp2_with fail
  refine H.out.mono ?_
  rintro e w1 ⟨rfl, ho, hc, hz⟩
  have hc2 : w1.cell? ⟨w.heap.size, 0, none⟩ = some (.slice none 0 0) := by rw [ho.cell (by simp; omega) (by simp)]; simp
  have hz2 : w1.frozen? ⟨w.heap.size, 0, none⟩ = false := by rw [ho.frozen (by simp; omega) (by simp)]; simp
  have HB : Hid (Below w.heap.size w w1) := hb2.out.trans (ho.below (Nat.le_succ _) hb2.out.size)
  clear ho H
  go_wp2
  refine leaves_cons (f := 38) (args := #[.pointer (some ⟨w.heap.size, 0, none⟩)]) (by simp) (by simp [go_sem]) ?_
  refine (partsIdle ⟨w.heap.size, 0, none⟩ _).mono ?_
  rintro e u' w'' ⟨rfl, rfl, rfl⟩
  simp [Leaves, settle, results, Tryd.results30, go_sem, hc2]
  exact HB.out.setCell (Nat.le_refl _) _

/-- (*joinError).Unwrap through the interface. -/
theorem Tryd.mUJ' (v : Value) (w : World) : (Go.method 225 60 v "Unwrap").run Tryd.prog w = .ok (65, v) w := Tryd.mUJ v w

set_option maxHeartbeats 4000000 in
theorem parts_join (pb : Nat) (a : Option Addr) (n c : Nat) (w : World) (hj : w.cell? ⟨pb, 0, none⟩ = some (.slice a n c)) :
    Calls Tryd.prog 30 #[.iface 60 (.pointer (some ⟨pb, 0, none⟩))] w fun e w' => e = .returned (.slice a n c) ∧ Below w.heap.size w w' := by
  have hmf : ∀ (fn : Fn) (first cap : Array Value) (w : World), (Instr.makeFunc fn first cap).run Tryd.prog w = .ok (.func fn first cap) w := fun _ _ _ _ => rfl
  have hpb : pb < w.heap.size := lt_of_cell hj
  have hb2 : Hid (Below w.heap.size w ((w.alloc (.cells #[.slice none 0 0] 36)).alloc (.cells #[.nilIface] 79))) := ((Below.refl _ _).alloc (Nat.le_refl _) _).alloc (by simp) _
  have H := hid' (asJoin_join ⟨pb, 0, none⟩ ⟨w.heap.size + 1, 0, none⟩ ((w.alloc (.cells #[.slice none 0 0] 36)).alloc (.cells #[.nilIface] 79)) (by simp) (by simp))
  have mU := Tryd.mUJ
  go_enter_defers Tryd.func30, Tryd.ntmps30
  go_wp2_with fail
  refine H.out.mono ?_
  rintro e w1 ⟨rfl, ho, hc, hz⟩
  have hc2 : w1.cell? ⟨w.heap.size, 0, none⟩ = some (.slice none 0 0) := by rw [ho.cell (by simp; omega) (by simp)]; simp
  have hz2 : w1.frozen? ⟨w.heap.size, 0, none⟩ = false := by rw [ho.frozen (by simp; omega) (by simp)]; simp
  have HB : Hid (Below w.heap.size w w1) := hb2.out.trans (ho.below (Nat.le_succ _) hb2.out.size)
  have hj1 : w1.cell? ⟨pb, 0, none⟩ = some (.slice a n c) := (HB.out.cell hpb).trans hj
  clear ho H hj
  go_wp2
  refine leaves_cons (f := 38) (args := #[.pointer (some ⟨w.heap.size, 0, none⟩)]) (by simp) (by simp [go_sem]) ?_
  refine (partsIdle ⟨w.heap.size, 0, none⟩ _).mono ?_
  rintro e u' w'' ⟨rfl, rfl, rfl⟩
  simp [Leaves, settle, results, Tryd.results30, go_sem, hc2]
  exact HB.out.setCell (Nat.le_refl _) _
end Go.Proofs.YtnpnbhgkcaefnaaDoor
