/-
  What is proved here: the small parts of package fault: New, Wrap, one step of errors.Unwrap, inner (with its deferred recover that finds nothing), opOf.
-/
import Derived.Test.YtnpnbhgkcaefnaaDoorChecked
import Derived.WalkKit
import Derived.LaidEql
import Derived.Stop.Asserts
import Derived.RowKitTokens
import Derived.Defers
import Derived.Recover
import Derived.Below
namespace Go.Proofs.YtnpnbhgkcaefnaaDoor
open Go.RowKit Go.Extern.Stop Go.Stop Go.Extern
set_option linter.unusedVariables false

theorem hid' {p : Prop} (h : p) : Hid p := h

/-- A number as an error. -/
def numV (e : Int) : Value := .iface 27 (.int .i64 e)
/-- An error in an op. -/
def failV (op : ByteArray) (x : Value) : Value := .iface 53 (.agg #[.string op, x])
/-- What joins some, at p. -/
def joinV (p : Addr) : Value := .iface 60 (.pointer (some p))

theorem Tryd.uN (v : Value) (xT : TypeId) (w : World) : (Instr.typeAssert (.iface 27 v) xT 75 true).run Tryd.prog w = .ok (.tuple #[.nilIface, .bool false]) w := run_typeAssert_lacksB Tryd.underlying75 (by kernel_rfl) (by kernel_rfl) v xT w
theorem Tryd.uJ (v : Value) (xT : TypeId) (w : World) : (Instr.typeAssert (.iface 60 v) xT 75 true).run Tryd.prog w = .ok (.tuple #[.nilIface, .bool false]) w := run_typeAssert_lacksB Tryd.underlying75 (by kernel_rfl) (by kernel_rfl) v xT w
theorem Tryd.uF (v : Value) (xT : TypeId) (w : World) : (Instr.typeAssert (.iface 53 v) xT 75 true).run Tryd.prog w = .ok (.tuple #[.iface 53 v, .bool true]) w := run_typeAssert_hasB Tryd.underlying75 (by kernel_rfl) v xT w
theorem Tryd.uNil (xT : TypeId) (w : World) : (Instr.typeAssert .nilIface xT 75 true).run Tryd.prog w = .ok (.tuple #[.nilIface, .bool false]) w := by kernel_rfl
theorem Tryd.mUF (v : Value) (w : World) : (Go.method 225 53 v "Unwrap").run Tryd.prog w = .ok (63, v) w := by kernel_rfl

theorem unwrap_num (v : Value) (w : World) : Calls Tryd.prog 28 #[.iface 27 v] w fun e w' => e = .returned .nilIface ∧ w' = w := by
  have h := Tryd.uN
  go_enter Tryd.func28, Tryd.ntmps28
  go_wp2
  go_ret
  exact ⟨rfl, rfl⟩
theorem unwrap_join (v : Value) (w : World) : Calls Tryd.prog 28 #[.iface 60 v] w fun e w' => e = .returned .nilIface ∧ w' = w := by
  have h := Tryd.uJ
  go_enter Tryd.func28, Tryd.ntmps28
  go_wp2
  go_ret
  exact ⟨rfl, rfl⟩
theorem unwrap_nil (w : World) : Calls Tryd.prog 28 #[.nilIface] w fun e w' => e = .returned .nilIface ∧ w' = w := by
  have h := Tryd.uNil
  go_enter Tryd.func28, Tryd.ntmps28
  go_wp2
  go_ret
  exact ⟨rfl, rfl⟩
theorem unwrap_fail (op : ByteArray) (x : Value) (w : World) : Calls Tryd.prog 28 #[failV op x] w fun e w' => e = .returned x ∧ Below w.heap.size w w' := by
  have h := Tryd.uF
  have m := Tryd.mUF
  unfold failV
  go_enter Tryd.func28, Tryd.ntmps28
  go_wp2
  go_ret
  exact ⟨rfl, (Below.refl _ _).alloc (Nat.le_refl _) _⟩

/-- (Fail).Unwrap. -/
theorem failUnwrap (op : ByteArray) (x : Value) (w : World) : Calls Tryd.prog 63 #[.agg #[.string op, x]] w fun e w' => e = .returned x ∧ Below w.heap.size w w' := by
  go_enter Tryd.func63, Tryd.ntmps63
  go_wp2
  go_ret
  exact ⟨rfl, (Below.refl _ _).alloc (Nat.le_refl _) _⟩

/-- inner's deferred function where nothing panics. -/
theorem innerIdle (p : Addr) (w : World) :
    CallsD Tryd.prog 27 #[.pointer (some p)] .returning w fun e u' w' => e = .returned (.tuple #[]) ∧ u' = .returning ∧ w' = w := by
  refine callsD_of_wpS Tryd.func27 rfl fun c₀ cs hu => ?_
  apply wpS_seq
  apply wpS_region
  simp [wpOpsS, go_sem, recoverD, hu, Tryd.ntmps27, Exit.thenS]
  refine wpS_cond (t := false) (by simp [Act.eval, Array.replicate]) ?_
  simp only [Bool.false_eq_true, if_false]
  refine wpS_of_wp (wp_skip ?_)
  cases c₀
  simp_all [bodyPostS, results, Tryd.results27]

/-- An error's value: nil or an interface with what it holds. -/
def IsErr (y : Value) : Prop := y = .nilIface ∨ ∃ t v, y = .iface t v

/-- A variable's block that lies there since w, in w'. -/
theorem kept_cell {w w' : World} {x : Value} {t : TypeId} (hb : Below (w.alloc (.cells #[x] t)).heap.size (w.alloc (.cells #[x] t)) w') :
    w'.cell? ⟨w.heap.size, 0, none⟩ = some x ∧ w'.frozen? ⟨w.heap.size, 0, none⟩ = false := by
  refine ⟨?_, ?_⟩
  · rw [hb.cell (p := ⟨w.heap.size, 0, none⟩) (by simp)]; simp
  · rw [hb.frozen (p := ⟨w.heap.size, 0, none⟩) (by simp)]; simp

theorem below_from {w w' : World} {o : Obj} (hb : Below (w.alloc o).heap.size (w.alloc o) w') : Below w.heap.size w w' :=
  ((Below.refl _ _).alloc (Nat.le_refl _) o).trans (hb.mono (by simp))

theorem inner_of (x y : Value) (hy : IsErr y) (w : World) (hu : ∀ W : World, Calls Tryd.prog 28 #[x] W fun e w' => e = .returned y ∧ Below W.heap.size W w') :
    Calls Tryd.prog 21 #[x] w fun e w' => e = .returned y ∧ Below w.heap.size w w' := by
  have hmf : ∀ (fn : Fn) (first cap : Array Value) (w : World), (Instr.makeFunc fn first cap).run Tryd.prog w = .ok (.func fn first cap) w := fun _ _ _ _ => rfl
  rcases hy with rfl | ⟨t, v, rfl⟩
  all_goals
    go_enter_defers Tryd.func21, Tryd.ntmps21
    go_wp2_with fail
    refine (hu _).mono ?_
    rintro e w' ⟨rfl, hb⟩
    obtain ⟨hc, hz⟩ := kept_cell hb
    have HB := hid' (below_from hb)
    clear hb
    go_wp2
    refine leaves_cons (f := 27) (args := #[.pointer (some ⟨w.heap.size, 0, none⟩)]) (by simp) (by simp [go_sem]) ?_
    refine (innerIdle ⟨w.heap.size, 0, none⟩ _).mono ?_
    rintro e u' w'' ⟨rfl, rfl, rfl⟩
    simp [Leaves, settle, results, Tryd.results21, go_sem, hc]
    exact HB.out.setCell (Nat.le_refl _) _

theorem inner_fail (op : ByteArray) (x : Value) (hx : IsErr x) (w : World) : Calls Tryd.prog 21 #[failV op x] w fun e w' => e = .returned x ∧ Below w.heap.size w w' :=
  inner_of _ _ hx w fun W => unwrap_fail op x W
theorem inner_num (v : Value) (w : World) : Calls Tryd.prog 21 #[.iface 27 v] w fun e w' => e = .returned .nilIface ∧ Below w.heap.size w w' :=
  inner_of _ _ (.inl rfl) w fun W => (unwrap_num v W).mono fun e w' ⟨h, h'⟩ => ⟨h, h' ▸ Below.refl _ _⟩
theorem inner_join (v : Value) (w : World) : Calls Tryd.prog 21 #[.iface 60 v] w fun e w' => e = .returned .nilIface ∧ Below w.heap.size w w' :=
  inner_of _ _ (.inl rfl) w fun W => (unwrap_join v W).mono fun e w' ⟨h, h'⟩ => ⟨h, h' ▸ Below.refl _ _⟩
theorem inner_nil (w : World) : Calls Tryd.prog 21 #[.nilIface] w fun e w' => e = .returned .nilIface ∧ Below w.heap.size w w' :=
  inner_of _ _ (.inl rfl) w fun W => (unwrap_nil W).mono fun e w' ⟨h, h'⟩ => ⟨h, h' ▸ Below.refl _ _⟩

/-- opOf. -/
theorem Tryd.aF (v : Value) (xT : TypeId) (w : World) : (Instr.typeAssert (.iface 53 v) xT 53 true).run Tryd.prog w = .ok (.tuple #[v, .bool true]) w := by kernel_rfl
theorem Tryd.aN (v : Value) (xT : TypeId) (w : World) : (Instr.typeAssert (.iface 27 v) xT 53 true).run Tryd.prog w = .ok (.tuple #[.agg #[.string ⟨#[]⟩, .nilIface], .bool false]) w := by kernel_rfl
theorem Tryd.aJ (v : Value) (xT : TypeId) (w : World) : (Instr.typeAssert (.iface 60 v) xT 53 true).run Tryd.prog w = .ok (.tuple #[.agg #[.string ⟨#[]⟩, .nilIface], .bool false]) w := by kernel_rfl
theorem opOf_num (v : Value) (w : World) : Calls Tryd.prog 20 #[.iface 27 v] w fun e w' => e = .returned (.tuple #[.string ⟨#[]⟩, .bool false]) ∧ Below w.heap.size w w' := by
  have h := Tryd.aN
  go_enter Tryd.func20, Tryd.ntmps20
  go_wp2
  go_ret2
  exact ⟨rfl, (Below.refl _ _).alloc (Nat.le_refl _) _⟩
theorem opOf_join (v : Value) (w : World) : Calls Tryd.prog 20 #[.iface 60 v] w fun e w' => e = .returned (.tuple #[.string ⟨#[]⟩, .bool false]) ∧ Below w.heap.size w w' := by
  have h := Tryd.aJ
  go_enter Tryd.func20, Tryd.ntmps20
  go_wp2
  go_ret2
  exact ⟨rfl, (Below.refl _ _).alloc (Nat.le_refl _) _⟩
theorem opOf_fail (op : ByteArray) (x : Value) (hx : IsErr x) (w : World) : Calls Tryd.prog 20 #[failV op x] w fun e w' => e = .returned (.tuple #[.string op, .bool true]) ∧ Below w.heap.size w w' := by
  have h := Tryd.aF
  unfold failV
  rcases hx with rfl | ⟨t, v, rfl⟩
  all_goals
    go_enter Tryd.func20, Tryd.ntmps20
    go_wp2
    go_ret2
    exact ⟨rfl, (Below.refl _ _).alloc (Nat.le_refl _) _⟩

theorem new_zero (w : World) : Calls Tryd.prog 18 #[.int .i64 0] w fun e w' => e = .returned .nilIface ∧ w' = w := by
  go_enter Tryd.func18, Tryd.ntmps18
  go_wp2
  go_ret
  exact ⟨rfl, rfl⟩
theorem new_some (z : Int) (hz : ¬ z = 0) (w : World) : Calls Tryd.prog 18 #[.int .i64 z] w fun e w' => e = .returned (numV z) ∧ w' = w := by
  go_enter Tryd.func18, Tryd.ntmps18
  go_wp2
  go_ret
  exact ⟨rfl, rfl⟩
theorem wrap_nil (op : ByteArray) (w : World) : Calls Tryd.prog 13 #[.string op, .nilIface] w fun e w' => e = .returned .nilIface ∧ w' = w := by
  go_enter Tryd.func13, Tryd.ntmps13
  go_wp2
  go_ret
  exact ⟨rfl, rfl⟩
theorem wrap_some (op : ByteArray) (t : TypeId) (v : Value) (w : World) : Calls Tryd.prog 13 #[.string op, .iface t v] w fun e w' => e = .returned (failV op (.iface t v)) ∧ w' = w := by
  go_enter Tryd.func13, Tryd.ntmps13
  go_wp2
  go_ret
  exact ⟨rfl, rfl⟩
end Go.Proofs.YtnpnbhgkcaefnaaDoor
