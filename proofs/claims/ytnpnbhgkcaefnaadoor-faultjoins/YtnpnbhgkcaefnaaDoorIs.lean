/-
  What is proved here: errors.Is and package fault's Is: of an error that is wrapped any number of times: is its number that number?
-/
import Derived.Test.YtnpnbhgkcaefnaaDoorChain
namespace Go.Proofs.YtnpnbhgkcaefnaaDoor
open Go.RowKit Go.Extern.Stop Go.Stop Go.Extern
set_option linter.unusedVariables false

theorem Tryd.methodComparable (v : Value) (w : World) : (Go.method 225 86 v "Comparable").run Tryd.prog w = .ok (71, v) w := by kernel_rfl
theorem Tryd.c71 (w : World) : (Extern.find Tryd.f71).map (fun e => (e #[.agg #[.pointer (some ⟨1, 27, none⟩)]]).run Tryd.prog w) = some (.ok (.bool true) w) := by kernel_rfl
theorem Tryd.h71 (w : World) : (callFunc 71 #[.agg #[.pointer (some ⟨1, 27, none⟩)]]).run Tryd.prog w = .ok (.value (.bool true)) w := by
  obtain ⟨e, he, hr⟩ := Option.map_eq_some_iff.1 (Tryd.c71 w)
  rw [run_callFunc_extern (P := Tryd.prog) (f := 71) (e := e) Tryd.func71 (by kernel_rfl) (by kernel_rfl) (by kernel_rfl) he, hr]
  rfl
theorem Tryd.noIsN (v : Value) (xT : TypeId) (w : World) : (Instr.typeAssert (.iface 27 v) xT 93 true).run Tryd.prog w = .ok (.tuple #[.nilIface, .bool false]) w := run_typeAssert_lacksB Tryd.underlying93 (by kernel_rfl) (by kernel_rfl) v xT w
theorem Tryd.noIsF (v : Value) (xT : TypeId) (w : World) : (Instr.typeAssert (.iface 53 v) xT 93 true).run Tryd.prog w = .ok (.tuple #[.nilIface, .bool false]) w := run_typeAssert_lacksB Tryd.underlying93 (by kernel_rfl) (by kernel_rfl) v xT w
theorem Tryd.noIsJ (v : Value) (xT : TypeId) (w : World) : (Instr.typeAssert (.iface 60 v) xT 93 true).run Tryd.prog w = .ok (.tuple #[.nilIface, .bool false]) w := run_typeAssert_lacksB Tryd.underlying93 (by kernel_rfl) (by kernel_rfl) v xT w
theorem Tryd.eqFN (x : Value) (y : Value) (w : World) : (binOp .eql 25 (.iface 53 x) (.iface 27 y)).run Tryd.prog w = .ok (.bool false) w := run_eql_iface_types (P := Tryd.prog) 53 27 x y Tryd.underlying25 (by decide) w
theorem Tryd.eqJN (x : Value) (y : Value) (w : World) : (binOp .eql 25 (.iface 60 x) (.iface 27 y)).run Tryd.prog w = .ok (.bool false) w := run_eql_iface_types (P := Tryd.prog) 60 27 x y Tryd.underlying25 (by decide) w
theorem Tryd.eqNN (x y : Int) (w : World) : (binOp .eql 25 (.iface 27 (.int .i64 x)) (.iface 27 (.int .i64 y))).run Tryd.prog w = .ok (.bool (x == y)) w := by kernel_rfl

set_option maxHeartbeats 4000000 in
theorem isIn_chain (ops : List ByteArray) (z y : Int) (w : World) :
    Calls Tryd.prog 41 #[wrapV ops (numV z), .iface 27 (.int .i64 y), .bool true] w fun e w' => e = .returned (.bool (z == y)) ∧ Below w.heap.size w w' := by
  have mU := Tryd.mUF
  have nF := Tryd.noIsF
  have nN := Tryd.noIsN
  have uF := Tryd.uF
  have uN := Tryd.uN
  have vN := Tryd.vN
  have eF := Tryd.eqFN
  have eN := Tryd.eqNN z y
  go_enter Tryd.func41, Tryd.ntmps41
  go_wp2
  go_loopg [0] ops.length (fun k p wr => ∃ r : List ByteArray, r.length = k ∧ p = wrapV r (numV z) ∧ Below w.heap.size w wr)
  case atStart => exact ⟨ops, rfl, rfl, Below.refl _ _⟩
  case round =>
    obtain ⟨r, hr, rfl, hb⟩ := hrel
    have HB := hid' hb
    have HR := hid' hr
    clear hb hr
    cases r with
    | nil =>
      unfold wrapV numV
      by_cases hzy : z = y
      · subst hzy
        have hq : (z == z) = true := by simp
        rw [hq] at eN
        clear hq
        go_wp2
        go_ret
        exact ⟨by simp, HB.out⟩
      · have hq : (z == y) = false := by simpa using hzy
        rw [hq] at eN
        have HQ := hid' hq
        clear hq
        go_wp2
        go_ret
        exact ⟨by rw [HQ.out]; rfl, HB.out⟩
    | cons op r =>
      obtain ⟨t', v', hv⟩ := wrapV_iface (b := numV z) ⟨_, _, rfl⟩ r
      unfold wrapV failV
      have HV := hid' hv
      rw [hv]
      clear hv
      go_wp2
      go_roundg r.length
      case measure => have := HR.out; simp only [List.length_cons] at this; omega
      case rel => exact ⟨r, rfl, HV.out.symm, HB.out.alloc HB.out.size _⟩

/-- What a caller is told of errors.Is(x, a number), where K holds. -/
def IsNumK (K : World → Prop) (x : Value) (y : Int) (b : Bool) : Prop := ∀ W : World, K W → Calls Tryd.prog 33 #[x, .iface 27 (.int .i64 y)] W fun e w' => e = .returned (.bool b) ∧ Below W.heap.size W w'

/-- .. in any world. -/
def IsNum (x : Value) (y : Int) (b : Bool) : Prop := IsNumK (fun _ => True) x y b

theorem isNum_nil (y : Int) : IsNum .nilIface y false := by
  intro w _
  have hn := run_eql_iface_nil_left (P := Tryd.prog) w 27 (.int .i64 y) Tryd.underlying25
  go_enter Tryd.func33, Tryd.ntmps33
  go_wp2
  go_ret
  exact ⟨rfl, Below.refl _ _⟩

theorem isNum_of (K : World → Prop) (x : Value) (hx : ∃ t v, x = .iface t v) (y : Int) (b : Bool) (h : ∀ W : World, K W → Calls Tryd.prog 41 #[x, .iface 27 (.int .i64 y), .bool true] W fun e w' => e = .returned (.bool b) ∧ Below W.heap.size W w') : IsNumK K x y b := by
  obtain ⟨tx, vx, rfl⟩ := hx
  intro w hK
  have h40 := Tryd.h40
  have h71 := Tryd.h71
  have tN := Tryd.typeOf27
  have mC := Tryd.methodComparable
  have H := hid' (h w hK)
  clear h hK
  go_enter Tryd.func33, Tryd.ntmps33
  go_wp2_with fail
  refine H.out.mono ?_
  rintro e w1 ⟨rfl, hb⟩
  have HB := hid' hb
  clear hb
  go_wp2
  go_ret
  exact ⟨rfl, HB.out⟩

theorem isNum_chain (ops : List ByteArray) (z y : Int) : IsNum (wrapV ops (numV z)) y (z == y) :=
  isNum_of _ _ (wrapV_iface ⟨_, _, rfl⟩ ops) y _ (fun W _ => isIn_chain ops z y W)

/-- found's deferred function where nothing panics. -/
theorem foundIdle (p q r : Addr) (w : World) :
    CallsD Tryd.prog 31 #[.pointer (some p), .pointer (some q), .pointer (some r)] .returning w fun e u' w' => e = .returned (.tuple #[]) ∧ u' = .returning ∧ w' = w := by
  refine callsD_of_wpS Tryd.func31 rfl fun c₀ cs hu => ?_
  apply wpS_seq
  apply wpS_region
  simp [wpOpsS, go_sem, recoverD, hu, Tryd.ntmps31, Exit.thenS]
  refine wpS_cond (t := false) (by simp [Act.eval, Array.replicate]) ?_
  simp only [Bool.false_eq_true, if_false]
  refine wpS_of_wp (wp_skip ?_)
  cases c₀
  simp_all [bodyPostS, results, Tryd.results31]

set_option maxHeartbeats 1000000 in
theorem found_at (K : World → Prop) (hst : Stays K) (x : Value) (hx : IsErr x) (y : Int) (b : Bool) (h : IsNumK K x y b) (w : World) (hK : K w) : Calls Tryd.prog 23 #[x, .int .i64 y] w fun e w' => e = .returned (.bool b) ∧ Below w.heap.size w w' := by
  have hmf : ∀ (fn : Fn) (first cap : Array Value) (w : World), (Instr.makeFunc fn first cap).run Tryd.prog w = .ok (.func fn first cap) w := fun _ _ _ _ => rfl
  rcases hx with rfl | ⟨t, v, rfl⟩
  all_goals
    have H := hid' h
    have HK := hid' (fun W' h' => hst w W' hK h')
    clear h hK
    go_enter_defers Tryd.func23, Tryd.ntmps23
    go_wp2_with fail
    refine (H.out _ (HK.out _ (below_from (below_from (below_from (Below.refl _ _)))))).mono ?_
    rintro e w1 ⟨rfl, hb⟩
    have hc : w1.cell? ⟨w.heap.size + 1 + 1, 0, none⟩ = some (.bool false) := by simpa using (kept_cell hb).1
    have hz : w1.frozen? ⟨w.heap.size + 1 + 1, 0, none⟩ = false := by simpa using (kept_cell hb).2
    have HB := hid' (below_from (below_from (below_from hb)))
    clear hb
    go_wp2
    refine leaves_cons (f := 31) (args := #[.pointer (some ⟨w.heap.size, 0, none⟩), .pointer (some ⟨w.heap.size + 1, 0, none⟩), .pointer (some ⟨w.heap.size + 1 + 1, 0, none⟩)]) (by simp) (by simp [go_sem]) ?_
    refine (foundIdle ⟨w.heap.size, 0, none⟩ ⟨w.heap.size + 1, 0, none⟩ ⟨w.heap.size + 1 + 1, 0, none⟩ _).mono ?_
    rintro e u' w'' ⟨rfl, rfl, rfl⟩
    simp [Leaves, settle, results, Tryd.results23, go_sem, hc]
    exact HB.out.setCell (by simp; omega) _

/-- Is. -/
theorem is_at (K : World → Prop) (hst : Stays K) (x : Value) (hx : IsErr x) (y : Int) (b : Bool) (h : IsNumK K x y b) (w : World) (hK : K w) : Calls Tryd.prog 11 #[x, .int .i64 y] w fun e w' => e = .returned (.bool b) ∧ Below w.heap.size w w' := by
  have H := hid' (found_at K hst x hx y b h w hK)
  clear h hK
  go_enter Tryd.func11, Tryd.ntmps11
  go_wp2_with fail
  refine H.out.mono ?_
  rintro e w1 ⟨rfl, hb⟩
  have HB := hid' hb
  clear hb
  go_wp2
  go_ret
  exact ⟨rfl, HB.out⟩

theorem is_of (x : Value) (hx : IsErr x) (y : Int) (b : Bool) (h : IsNum x y b) (w : World) : Calls Tryd.prog 11 #[x, .int .i64 y] w fun e w' => e = .returned (.bool b) ∧ Below w.heap.size w w' :=
  is_at (fun _ => True) (fun _ _ _ _ => trivial) x hx y b h w trivial
end Go.Proofs.YtnpnbhgkcaefnaaDoor
