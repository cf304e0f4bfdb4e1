/-
  What is proved here: single operations, lists of one command, what Put and Get tell of a command: aids for the law WirePuts.
-/
import Derived.Test.YtgalmkhgbokidaaMgV
import Derived.Test.YtgalmkhgbokidaaMgS
import Derived.Test.YtgalmkhgbokidaaMgGA
import Derived.Test.YtgalmkhgbokidaaMgP

namespace Go.Proofs.Ytgalmkhgbokidaa
open Go.RowKit Go.Proofs
set_option maxRecDepth 20000
set_option linter.unusedVariables false
set_option linter.unusedSimpArgs false

theorem new_lasts (l : List Int) : PB.Lasts (NewIs l) := by
  rintro v w w' ⟨g, c, rfl, hb⟩ hbel
  exact ⟨g, c, rfl, (hb.keep hbel).mono hbel.size⟩

theorem new_conv {l : List Int} {v : Value} {w : World} (h : NewIs l v w) : (convert 22 9 v).run Try.prog w = .ok (.string (strOfNums l)) w := by
  obtain ⟨g, c, rfl, hb⟩ := h
  exact hb.conv _ _ rfl

theorem new_own {base : Nat} {w : World} {v : Value} {l : List Int} (h : Own base w v l) (hr : Byt l) (hne : l ≠ []) : NewIs l v w := by
  obtain ⟨a, c, rfl, _, hb, hg⟩ := h.bts hr
  obtain ⟨g, rfl⟩ := hg hne
  exact ⟨g, c, rfl, hb⟩

theorem run_addStr (w : World) (A B : ByteArray) (x y : Operand) (h : A.size + B.size ≤ 9223372036854775807) : ((do eqGuard .add 9 x y (.string A) (.string B); binOp .add 9 (.string A) (.string B) : Sem Value)).run Try.prog w = .ok (.string (A ++ B)) w := by
  go_simp

theorem run_eqlStr (w : World) (A : ByteArray) (x y : Operand) : ((do eqGuard .eql 9 x y (.string A) (.string A); binOp .eql 9 (.string A) (.string A) : Sem Value)).run Try.prog w = .ok (.bool true) w := by
  go_simp

theorem run_neqI (w : World) (z : Int) (x y : Operand) : ((do eqGuard .neq 3 x y (.int .i64 z) (.int .i64 z); binOp .neq 3 (.int .i64 z) (.int .i64 z) : Sem Value)).run Try.prog w = .ok (.bool false) w := by
  go_simp

theorem run_eqlI (w : World) (z : Int) (x y : Operand) : ((do eqGuard .eql 3 x y (.int .i64 z) (.int .i64 z); binOp .eql 3 (.int .i64 z) (.int .i64 z) : Sem Value)).run Try.prog w = .ok (.bool true) w := by
  go_simp

section
variable {a : Act} {t u c : Nat} {dst : Option Tmp} {ty : TypeId} {pos : String} {aft : Array Edge} {guard : Option (Nat × Bool)}

theorem run_pickE {v : Value} {x : Operand} (w : World) (h : PB.slot a c = .bool false) (h' : PB.slot a t = v) :
    (execOp a.eval { dst := dst, op := .pick (.tmp c) x (.tmp t), type := ty, pos := pos, after := aft, guard := guard }).run Try.prog w = .ok (.value v) w := by
  have h1 : a.eval (.tmp c) = .bool false := h
  have h2 : a.eval (.tmp t) = v := h'
  simp only [execOp, h1, h2]
  rfl

theorem run_pickT {v : Value} {y : Operand} (w : World) (h : PB.slot a c = .bool true) (h' : PB.slot a t = v) :
    (execOp a.eval { dst := dst, op := .pick (.tmp c) (.tmp t) y, type := ty, pos := pos, after := aft, guard := guard }).run Try.prog w = .ok (.value v) w := by
  have h1 : a.eval (.tmp c) = .bool true := h
  have h2 : a.eval (.tmp t) = v := h'
  simp only [execOp, h1, h2]
  rfl

theorem run_notT (w : World) (h : PB.slot a t = .bool true) :
    (execOp a.eval { dst := dst, op := .unOp .not 4 (.tmp t), type := ty, pos := pos, after := aft, guard := guard }).run Try.prog w = .ok (.value (.bool false)) w := by
  have h1 : a.tmps[t]?.getD undef = .bool true := by rw [← Array.getD_eq_getD_getElem?]; exact h
  go_simp

theorem run_lenB {b : Option Addr} {n cap : Nat} (w : World) (h : PB.slot a t = .slice b n cap) :
    (execOp a.eval { dst := dst, op := .call { callee := .builtin .len, args := #[.tmp t], argTypes := #[22] }, type := ty, pos := pos, after := aft, guard := guard }).run Try.prog w = .ok (.value (.int .i64 (n : Int))) w := by
  have h1 : a.tmps[t]?.getD undef = .slice b n cap := by rw [← Array.getD_eq_getD_getElem?]; exact h
  go_simp

theorem run_oneC {x : Cm} {s : CmS} (w : World) (h : PB.slot a t = cmV x s) :
    (execOp a.eval { dst := dst, op := .buildSlice 33 1 #[(0, .tmp t)], type := ty, pos := pos, after := aft, guard := guard }).run Try.prog w = .ok (.value (.slice (some ⟨w.heap.size, 0, none⟩) 1 1)) (w.alloc (.cells (cmA x s) 31)) := by
  have h1 : a.tmps[t]?.getD undef = cmV x s := by rw [← Array.getD_eq_getD_getElem?]; exact h
  unfold cmV cmA at h1
  unfold cmA
  clear h
  go_simp
end

/-- A command as a value. -/
def IsC (x : Cm) : Value → World → Prop := fun v W => ∃ s, v = cmV x s ∧ CmR (fun _ => True) W x s
/-- A list of one command. -/
def OneC (x : Cm) : Value → World → Prop := fun v W => ∃ g s, v = .slice (some ⟨g, 0, none⟩) 1 1 ∧ Cms (fun _ => True) W (some ⟨g, 0, none⟩) [(x, s)]

theorem isC_lasts (x : Cm) : PB.Lasts (IsC x) := by
  rintro v w w' ⟨s, rfl, h⟩ hbel
  exact ⟨s, rfl, h.on hbel⟩

theorem oneC_lasts (x : Cm) : PB.Lasts (OneC x) := by
  rintro v w w' ⟨g, s, rfl, h⟩ hbel
  exact ⟨g, s, rfl, h.on hbel⟩

theorem does_oneC {ops : Array Oper} {Q : Exit → Act → World → Prop} {o : Oper} {a : Act} {w : World} {t : Nat} {x : Cm} (hw : Region.wanted o (yielded ops a.tmps) = true) (ho : o.op = .buildSlice 33 1 #[(0, .tmp t)]) (hx : IsC x (PB.slot a t) w) : PB.Does Try.prog ops Q (OneC x) o a w := by
  obtain ⟨s, hv, hc⟩ := hx
  obtain ⟨dst, op, ty, pos, aft, guard⟩ := o
  simp only at ho
  subst ho
  have hb := (Below.refl w.heap.size w).alloc (Nat.le_refl _) (.cells (cmA x s) 31)
  exact PT.does_grown hw (run_oneC w hv) hb ⟨w.heap.size, s, rfl, Cms.one (Bx.new w (cmA x s) 31) trivial (hc.on hb)⟩

theorem same_one {x y : Cm} (hal : AlC x y) (hsm : Sm x) {W : World} {u v : Value} (hu : OneC x u W) (hv : OneC y v W) :
    Calls Try.prog 14 #[u, v, .bool false] W fun e w' => ∃ z, e = .returned z ∧ Below W.heap.size W w' ∧ PB.E (.bool true) z w' := by
  obtain ⟨g, s, rfl, h1⟩ := hu
  obtain ⟨g', s', rfl, h2⟩ := hv
  have h := rSame_false _ _ W _ _ 1 1 [(x, s)] [(y, s')] h1 h2 rfl (by simp) (fun i hi => by
    have : i = 0 := by simpa using hi
    subst this
    exact hal) (fun q hq => by simp at hq; subst hq; exact hsm)
  refine Calls.mono (show Calls Try.prog 14 #[.slice (some ⟨g, 0, none⟩) 1 1, .slice (some ⟨g', 0, none⟩) 1 1, .bool false] W _ from h) ?_
  rintro e w' ⟨rfl, hb⟩
  exact ⟨_, rfl, hb, rfl⟩

theorem cmdB_ne {c : Cm} : cmdB c ≠ [] := by
  unfold cmdB
  simp

/-- What Put tells: a slice and an error. -/
theorem put_back {l : List Int} {c : Cm} {w w' : World} {e : Ending} (hl : Byt l) (hs : Byt c.sheet) (h : PAns l c w e w') :
    ∃ xa xn xc, e = .returned (.tuple #[.slice xa xn xc, .int .i64 (chk c)]) ∧ Below w.heap.size w w' ∧ ((chk c = 0 ∧ xn = (l ++ cmdB c).length ∧ (l ++ cmdB c).length ≤ xc ∧ Bts w'.heap.size w' xa (l ++ cmdB c)) ∨ (chk c ≠ 0 ∧ xn = 0)) := by
  rcases h with ⟨h0, v, rfl, ho, hb⟩ | ⟨h0, rfl, hb⟩
  · obtain ⟨xa, xc, rfl, h1, h2, _⟩ := ho.bts (Byt.app hl (byt_cmd h0 hs))
    exact ⟨xa, _, xc, by rw [h0], hb, .inl ⟨h0, rfl, h1, h2⟩⟩
  · exact ⟨none, 0, 0, rfl, hb, .inr ⟨h0, rfl⟩⟩

/-- What Get tells of a command's bytes. -/
theorem cmd_back {l : List Int} {c : Cm} (h0 : chk c = 0) (hn : CmN c) (hb : Byt c.sheet) {w w' : World} {e : Ending} (h : GAns cmdB Nice RepC c0 (l ++ cmdB c) (l.length : Int) w e w') :
    ∃ s', e = .returned (.tuple #[cmV (normC c) s', .int .i64 ((l ++ cmdB c).length : Int), .int .i64 0]) ∧ CmR (Since w.heap.size) w' (normC c) s' ∧ Below w.heap.size w w' := by
  obtain ⟨x, v, next, er, rfl, ⟨s', rfl, h1⟩, h2, h3⟩ := h
  have hd : (l ++ cmdB c).drop ((l.length : Int).toNat) = cmdB (normC c) := by rw [cmdB_norm h0]; simp
  have hnice := normC_nice h0 hn hb
  rcases h3 with ⟨h4, _⟩ | ⟨_, _, rfl, h5, h6, h7, h8⟩ | ⟨_, _, rfl, rfl, rfl, h5⟩
  · rw [List.length_append] at h4; omega
  · rw [hd] at h6
    obtain ⟨e1, e2⟩ := pf_cmd (normC c) x [] _ hnice h5 (by rw [List.append_nil]; exact h6)
    subst e1
    have := congrArg List.length e2
    rw [List.length_nil, List.length_drop] at this
    have hx : next = ((l ++ cmdB c).length : Int) := by omega
    subst hx
    exact ⟨s', rfl, h1, h2⟩
  · rw [hd] at h5
    exact absurd (by rw [List.append_nil]) (h5 (normC c) [] hnice)

end Go.Proofs.Ytgalmkhgbokidaa
