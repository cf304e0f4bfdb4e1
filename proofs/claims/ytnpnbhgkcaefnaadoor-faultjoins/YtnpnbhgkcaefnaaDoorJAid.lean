/-
  What is proved here: small laws for the statement FaultJoins: its list of errors, shapes of slices, lines for its statements whose order is open.
-/
import Derived.Test.YtnpnbhgkcaefnaaDoorRef
import Derived.Test.YtnpnbhgkcaefnaaDoorPlan
namespace Go.Proofs.YtnpnbhgkcaefnaaDoor
open Go.RowKit Go.Extern.Stop Go.Stop Go.Extern
set_option linter.unusedVariables false

theorem chainV_x (z : Int) : chainV [⟨#[120]⟩] z = xV z := rfl

theorem one_err (z : Int) : ∀ u ∈ [xV z], u.oneCell' = true := by
  intro u hu
  simp at hu
  subst hu
  unfold xV
  split <;> rfl

/-- A slice of numbers that a call owns. -/
theorem shape_of {B : Nat} {w : World} {e : TypeId} {v : Value} {xs : List Int} (h : w.ownsRow B e 1 v xs.length (N27 xs)) : ∃ a c, v = .slice a xs.length c ∧ xs.length ≤ c ∧ Its w a xs := by
  have hh := h
  obtain ⟨h1, ⟨rfl, h0⟩ | ⟨g, cap, cur, rfl, hg, hcur, hle, hm, hs, ht⟩⟩ := h
  · exact ⟨none, 0, by rw [h0], by omega, fun hl => absurd (List.length_eq_zero_iff.1 h0) hl⟩
  · refine ⟨_, _, rfl, hle, fun hl => ⟨g, 0, rfl, fun i hi => ?_⟩⟩
    rw [Nat.zero_add, hh.cellAt i (by omega)]
    simp [N27, List.getElem?_eq_getElem hi, List.getD]

/-- A slice of errors that a call owns. -/
theorem ers_of {B : Nat} {w : World} {v : Value} {l : List Int} (h : w.ownsRow B 25 1 v l.length (l.map xV)) : ∃ a c, v = .slice a l.length c ∧ l.length ≤ c ∧ Ers w a l := by
  have hh := h
  obtain ⟨h1, ⟨rfl, h0⟩ | ⟨g, cap, cur, rfl, hg, hcur, hle, hm, hs, ht⟩⟩ := h
  · exact ⟨none, 0, by rw [h0], by omega, fun hl => absurd (List.length_eq_zero_iff.1 h0) hl⟩
  · refine ⟨_, _, rfl, hle, fun hl => ⟨g, 0, rfl, fun i hi => ?_⟩⟩
    rw [Nat.zero_add, hh.cellAt i (by omega)]
    simp [List.getElem?_eq_getElem hi, List.getD]

theorem fjoin_any (w : World) (a : Option Addr) (cap : Nat) (l : List Int) (hs : Ers w a l) (hc : l.length ≤ cap) (hl : l.length ≤ 200) :
    Calls Tryd.prog 14 #[.slice a l.length cap] w fun e w' => ((nz l = [] ∧ e = .returned .nilIface) ∨ ∃ p, nz l ≠ [] ∧ e = .returned (.iface 60 (.pointer (some ⟨p, 0, none⟩))) ∧ JoinAt p (nz l) w') ∧ Below w.heap.size w w' := by
  have H := hid' (join_any w a cap l hs hc hl)
  clear hs
  go_enter Tryd.func14, Tryd.ntmps14
  go_wp2_with fail
  refine H.out.mono ?_
  rintro e w1 ⟨h, hb⟩
  have HB := hid' hb
  clear hb
  rcases h with ⟨h1, rfl⟩ | ⟨p, h1, rfl, h2⟩
  · have H1 := hid' h1
    clear h1
    go_wp2
    go_ret
    exact ⟨.inl ⟨H1.out, rfl⟩, HB.out⟩
  · have H1 := hid' (And.intro h1 h2)
    clear h1 h2
    go_wp2
    go_ret
    exact ⟨.inr ⟨p, H1.out.1, rfl, H1.out.2⟩, HB.out⟩

/-! Lines for statements whose order is open. -/
section
variable {P : Program} {ops : Array Oper} {Q : Exit → Act → World → Prop} {o : Oper} {a : Act} {w : World}

theorem does_pick_no {p : Value → World → Prop} {c y : Nat} {x : Operand} (hw : Region.wanted o (yielded ops a.tmps) = true) (ho : o.op = .pick (.tmp c) x (.tmp y)) (hc : slot a c = .bool false) (hp : p (slot a y) w) : Does P ops Q p o a w := by
  refine does_run hw ?_ hp
  have hc' : a.eval (.tmp c) = .bool false := hc
  simp only [execOp, ho, hc']
  rfl
end

theorem run_not {a : Act} {t : Nat} {b : Bool} {dst : Option Tmp} {ty : TypeId} {pos : String} {aft : Array Edge} {guard : Option (Nat × Bool)} (w : World) (h : slot a t = .bool b) :
    (execOp a.eval { dst := dst, op := .unOp .not 4 (.tmp t), type := ty, pos := pos, after := aft, guard := guard }).run Tryd.prog w = .ok (.value (.bool (!b))) w := by
  have h1 : a.tmps[t]?.getD undef = .bool b := by rw [← Array.getD_eq_getD_getElem?]; exact h
  go_simp

theorem run_len22 {a : Act} {t : Nat} {ad : Option Addr} {n c : Nat} {dst : Option Tmp} {ty : TypeId} {pos : String} {aft : Array Edge} {guard : Option (Nat × Bool)} (w : World) (h : slot a t = .slice ad n c) :
    (execOp a.eval { dst := dst, op := .call { callee := .builtin .len, args := #[.tmp t], argTypes := #[22] }, type := ty, pos := pos, after := aft, guard := guard }).run Tryd.prog w = .ok (.value (.int .i64 (n : Int))) w := by
  have h1 : a.tmps[t]?.getD undef = .slice ad n c := by rw [← Array.getD_eq_getD_getElem?]; exact h
  go_simp

theorem run_index {a : Act} {s i : Nat} {b off n c j : Nat} {st : TypeId} {dst : Option Tmp} {ty : TypeId} {pos : String} {aft : Array Edge} {guard : Option (Nat × Bool)} (w : World) (hs : slot a s = .slice (some ⟨b, off, none⟩) n c) (hi : slot a i = .int .i64 (j : Int)) (hj : j < n)
    (hst : st = 30 ∨ st = 35) :
    (execOp a.eval { dst := dst, op := .indexAddr st (.tmp s) (.tmp i), type := ty, pos := pos, after := aft, guard := guard }).run Tryd.prog w = .ok (.value (.pointer (some ⟨b, off + j, none⟩))) w := by
  have h1 : a.tmps[s]?.getD undef = .slice (some ⟨b, off, none⟩) n c := by rw [← Array.getD_eq_getD_getElem?]; exact hs
  have h2 : a.tmps[i]?.getD undef = .int .i64 (j : Int) := by rw [← Array.getD_eq_getD_getElem?]; exact hi
  rcases hst with rfl | rfl
  · go_simp
  · go_simp

theorem run_load {a : Act} {t : Nat} {b off : Nat} {z : Int} {lt : TypeId} {dst : Option Tmp} {ty : TypeId} {pos : String} {aft : Array Edge} {guard : Option (Nat × Bool)} (w : World) (h : slot a t = .pointer (some ⟨b, off, none⟩)) (hc : w.cell? ⟨b, off, none⟩ = some (.int .i64 z)) (hlt : lt = 27 ∨ lt = 3) :
    (execOp a.eval { dst := dst, op := .load lt (.tmp t), type := ty, pos := pos, after := aft, guard := guard }).run Tryd.prog w = .ok (.value (.int .i64 z)) w := by
  have h1 : a.tmps[t]?.getD undef = .pointer (some ⟨b, off, none⟩) := by rw [← Array.getD_eq_getD_getElem?]; exact h
  rcases hlt with rfl | rfl
  · go_simp
  · go_simp

theorem run_neq_same (w : World) (z : Int) (x y : Operand) : ((do eqGuard .neq 3 x y (.int .i64 z) (.int .i64 z); binOp .neq 3 (.int .i64 z) (.int .i64 z) : Sem Value)).run Tryd.prog w = .ok (.bool false) w := by
  go_simp

theorem run_eq_int0 (w : World) (n : Int) (x y : Operand) : ((do eqGuard .eql 3 x y (.int .i64 n) (.int .i64 0); binOp .eql 3 (.int .i64 n) (.int .i64 0) : Sem Value)).run Tryd.prog w = .ok (.bool (n == 0)) w := by
  go_simp

theorem run_eq_bool (w : World) (b : Bool) (x y : Operand) : ((do eqGuard .eql 4 x y (.bool b) (.bool b); binOp .eql 4 (.bool b) (.bool b) : Sem Value)).run Tryd.prog w = .ok (.bool true) w := by
  cases b <;> go_simp

theorem run_eq_nil (w : World) (x : Operand) : ((do eqGuard .eql 25 x (.const .nilIface) .nilIface .nilIface; binOp .eql 25 .nilIface .nilIface : Sem Value)).run Tryd.prog w = .ok (.bool true) w := by
  go_simp

theorem run_eq_fail (w : World) (v : Value) (x : Operand) : ((do eqGuard .eql 25 x (.const .nilIface) (.iface 53 v) .nilIface; binOp .eql 25 (.iface 53 v) .nilIface : Sem Value)).run Tryd.prog w = .ok (.bool false) w := by
  go_simp

/-- A slice of so many. -/
def LenIs (n : Nat) : Value → World → Prop := fun v _ => ∃ a c, v = .slice a n c
theorem lenIs_lasts (n : Nat) : Lasts (LenIs n) := fun _ _ _ h _ => h
end Go.Proofs.YtnpnbhgkcaefnaaDoor
