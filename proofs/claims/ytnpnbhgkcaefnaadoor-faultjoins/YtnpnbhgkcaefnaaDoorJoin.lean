/-
  What is proved here: errors.As and errors.Is of several wrapped numbers that are joined and wrapped once: the first number; is a number one of them?
-/
import Derived.Test.YtnpnbhgkcaefnaaDoorIs
namespace Go.Proofs.YtnpnbhgkcaefnaaDoor
open Go.RowKit Go.Extern.Stop Go.Stop Go.Extern
set_option linter.unusedVariables false

/-- A number in the op x. -/
def elV (z : Int) : Value := .iface 53 (.agg #[.string ⟨#[120]⟩, .iface 27 (.int .i64 z)])

theorem elV_wrap (z : Int) : elV z = wrapV [⟨#[120]⟩] (numV z) := rfl

/-- At block pb lies what joins the numbers zs. -/
def JoinAt (pb : Nat) (zs : List Int) (w : World) : Prop :=
  ∃ g c, w.cell? ⟨pb, 0, none⟩ = some (.slice (some ⟨g, 0, none⟩) zs.length c) ∧ zs.length ≤ c ∧ ∀ i, i < zs.length → w.cell? ⟨g, i, none⟩ = some (elV (zs.getD i 0))

theorem joinAt_stays (pb : Nat) (zs : List Int) : Stays (JoinAt pb zs) := by
  rintro W W' ⟨g, c, h1, h2, h3⟩ hb
  exact ⟨g, c, (hb.cell (lt_of_cell h1)).trans h1, h2, fun i hi => (hb.cell (lt_of_cell (h3 i hi))).trans (h3 i hi)⟩

/-- An error that wraps what joins some. -/
def failJ (op : ByteArray) (pb : Nat) : Value := .iface 53 (.agg #[.string op, .iface 60 (.pointer (some ⟨pb, 0, none⟩))])

theorem failJ_wrap (op : ByteArray) (pb : Nat) : failJ op pb = wrapV [op] (.iface 60 (.pointer (some ⟨pb, 0, none⟩))) := rfl

set_option maxHeartbeats 4000000 in
theorem asIn_join (op : ByteArray) (pb : Nat) (z : Int) (zs : List Int) (t a : Addr) (old : Value) (w : World) (hj : JoinAt pb (z :: zs) w) (ha : w.cell? a = some (.pointer (some t))) (ht : w.cell? t = some old) (hf : w.frozen? t = false) :
    Calls Tryd.prog 37 #[failJ op pb, .iface 55 (.pointer (some t)), .agg #[.pointer (some ⟨1, 55, none⟩), .pointer (some a), .int .u64 150], .iface 86 (.agg #[.pointer (some ⟨1, 27, none⟩)])] w
      fun e w' => e = .returned (.bool true) ∧ ∃ w1, Below w.heap.size w w1 ∧ w' = w1.setCell t (.int .i64 z) := by
  have hb1 : Hid (Below w.heap.size w ((w.alloc (.cells #[.pointer (some ⟨1, 55, none⟩), .pointer (some a), .int .u64 150] 66)).alloc (.cells #[.string op, .iface 60 (.pointer (some ⟨pb, 0, none⟩))] 53))) :=
    ((Below.refl _ _).alloc (Nat.le_refl _) _).alloc (by simp) _
  obtain ⟨g, c, j1, j2, j3⟩ := joinAt_stays pb (z :: zs) _ _ hj hb1.out
  have j4 := j3 0 (by simp)
  clear j3 hj
  have j5 : 0 < (z :: zs).length := by simp
  have j6 : (z :: zs).getD 0 0 = z := rfl
  rw [j6] at j4
  generalize (z :: zs).length = n at j1 j2 j5
  have HC := hid' (asIn_chain [⟨#[120]⟩] z t a old ((w.alloc (.cells #[.pointer (some ⟨1, 55, none⟩), .pointer (some a), .int .u64 150] 66)).alloc (.cells #[.string op, .iface 60 (.pointer (some ⟨pb, 0, none⟩))] 53))
    (by rw [hb1.out.cell (lt_of_cell ha)]; exact ha) (by rw [hb1.out.cell (lt_of_cell ht)]; exact ht) (by rw [hb1.out.frozen (lt_of_cell ht)]; exact hf))
  rw [← elV_wrap] at HC
  clear j6 ha ht hf
  have h40 := Tryd.h40
  have h70 := Tryd.h70
  have mA := Tryd.methodAssignableTo
  have mU := Tryd.mUF
  have mJ := Tryd.mUJ
  have tF := Tryd.typeOf53
  have tJ := Tryd.typeOf60
  have aF := Tryd.assignable53
  have aJ := Tryd.assignable60
  have nF := Tryd.noAsF
  have nJ := Tryd.noAsJ
  have uF := Tryd.uF
  have uJ := Tryd.uJ
  have vJ := Tryd.vJ
  unfold failJ
  unfold elV at j4 HC
  go_enter Tryd.func37, Tryd.ntmps37
  go_wp2
  refine wp_loop_rounds 2 ?_
  rw [rounds_succ]
  go_wp2
  rw [rounds_succ]
  go_wp2
  refine wp_loop_rounds 1 ?_
  rw [rounds_succ]
  go_wp2_with fail
  refine HC.out.mono ?_
  rintro e w' ⟨rfl, w1, hb, rfl⟩
  have HB := hid' hb
  clear hb
  go_wp2
  go_ret
  exact ⟨rfl, w1, hb1.out.trans (HB.out.mono hb1.out.size), rfl⟩

theorem asNum_join (op : ByteArray) (pb : Nat) (z : Int) (zs : List Int) : AsNumK (JoinAt pb (z :: zs)) (failJ op pb) true z :=
  asNum_of _ (joinAt_stays pb _) 53 _ z fun t a W hj ha ht hf => asIn_join op pb z zs t a (.int .i64 0) W hj ha ht hf

theorem any_getD {zs : List Int} {y : Int} {j : Nat} (hj : j < zs.length) (h : zs.getD j 0 = y) : zs.any (· == y) = true := by
  rw [List.any_eq_true]
  refine ⟨zs[j], List.getElem_mem hj, ?_⟩
  rw [List.getD, List.getElem?_eq_getElem hj] at h
  simpa using h

theorem any_none {zs : List Int} {y : Int} (h : ∀ i, i < zs.length → zs.getD i 0 ≠ y) : zs.any (· == y) = false := by
  rw [List.any_eq_false]
  intro x hx
  obtain ⟨i, hi, rfl⟩ := List.getElem_of_mem hx
  have := h i hi
  rw [List.getD, List.getElem?_eq_getElem hi] at this
  simpa using this

set_option maxHeartbeats 4000000 in
theorem isIn_join (op : ByteArray) (pb : Nat) (y : Int) (zs : List Int) (hl : zs.length ≤ 100000) (w : World) (hj : JoinAt pb zs w) :
    Calls Tryd.prog 41 #[failJ op pb, .iface 27 (.int .i64 y), .bool true] w fun e w' => e = .returned (.bool (zs.any (· == y))) ∧ Below w.heap.size w w' := by
  have hb1 : Hid (Below w.heap.size w (w.alloc (.cells #[.string op, .iface 60 (.pointer (some ⟨pb, 0, none⟩))] 53))) := (Below.refl _ _).alloc (Nat.le_refl _) _
  have hj1 := joinAt_stays pb zs _ _ hj hb1.out
  obtain ⟨g, c, j1, j2, j3⟩ := hj1
  clear hj
  have HC := hid' (fun z W => isIn_chain [⟨#[120]⟩] z y W)
  have mU := Tryd.mUF
  have mJ := Tryd.mUJ
  have nF := Tryd.noIsF
  have nJ := Tryd.noIsJ
  have uF := Tryd.uF
  have uJ := Tryd.uJ
  have vJ := Tryd.vJ
  have eF := Tryd.eqFN
  have eJ := Tryd.eqJN
  have J3 := hid' j3
  have HW : Hid ((w.alloc (.cells #[.string op, .iface 60 (.pointer (some ⟨pb, 0, none⟩))] 53)).heap.size = w.heap.size + 1) := (by simp : (w.alloc (.cells #[.string op, .iface 60 (.pointer (some ⟨pb, 0, none⟩))] 53)).heap.size = w.heap.size + 1)
  clear j3
  unfold failJ
  go_enter Tryd.func41, Tryd.ntmps41
  go_wp2
  refine wp_loop_rounds 2 ?_
  rw [rounds_succ]
  go_wp2
  rw [rounds_succ]
  go_wp2
  go_loopg [45] zs.length (fun k i wr => ∃ j : Nat, j + k = zs.length ∧ i = .int .i64 (j : Int) ∧ Below (w.heap.size + 1) (w.alloc (.cells #[.string op, .iface 60 (.pointer (some ⟨pb, 0, none⟩))] 53)) wr ∧ ∀ i, i < j → zs.getD i 0 ≠ y)
  case atStart => exact ⟨0, by omega, rfl, Below.refl _ _, fun i hi => by omega⟩
  case round =>
    obtain ⟨j, hj, rfl, hb, hno⟩ := hrel
    have HB := hid' hb
    have HN := hid' hno
    have HJ := hid' hj
    cases gk with
    | zero =>
      have hjl : ¬ j < zs.length := by omega
      clear hb hno hj
      go_wp2
      go_ret
      refine ⟨?_, hb1.out.trans (HB.out.mono (by omega))⟩
      rw [any_none (fun i hi => HN.out i (by omega))]
      rfl
    | succ k =>
      have hjl : j < zs.length := by omega
      have hjc : j < c := by omega
      have hlt := lt_of_cell (J3.out j hjl)
      rw [HW.out] at hlt
      have jc : wr.cell? ⟨g, j, none⟩ = some (elV (zs.getD j 0)) := (hb.cell (p := ⟨g, j, none⟩) hlt).trans (J3.out j hjl)
      obtain ⟨z, hz⟩ : ∃ z, z = zs.getD j 0 := ⟨_, rfl⟩
      rw [← hz] at jc
      have HZ := hid' hz
      have HCz := hid' (HC.out z wr)
      rw [← elV_wrap] at HCz
      unfold elV at jc HCz
      clear hb hno hj hz hlt
      go_wp2_with fail
      refine HCz.out.mono ?_
      rintro e w2 ⟨rfl, hb2⟩
      have hsz := HB.out.size
      have HB2 := hid' (HB.out.trans (hb2.mono (by have := HW.out; omega)))
      clear hb2 hsz
      by_cases hq : z = y
      · have hq' : (z == y) = true := by simpa using hq
        have HQ := hid' hq
        clear hq
        go_wp2
        go_ret
        refine ⟨?_, hb1.out.trans (HB2.out.mono (by omega))⟩
        rw [any_getD hjl (by rw [← HZ.out]; exact HQ.out)]
        rfl
      · have hq' : (z == y) = false := by simpa using hq
        have HQ := hid' hq
        clear hq
        go_wp2
        go_roundg k
        case measure => omega
        case rel =>
          refine ⟨j + 1, by have := HJ.out; omega, by go_num, HB2.out, fun i hi => ?_⟩
          rcases Nat.lt_or_ge i j with h | h
          · exact HN.out i h
          · have e : i = j := by omega
            subst e
            rw [← HZ.out]
            exact HQ.out

theorem isNum_join (op : ByteArray) (pb : Nat) (zs : List Int) (hl : zs.length ≤ 100000) (y : Int) : IsNumK (JoinAt pb zs) (failJ op pb) y (zs.any (· == y)) :=
  isNum_of _ _ ⟨_, _, rfl⟩ y _ fun W hj => isIn_join op pb y zs hl W hj
end Go.Proofs.YtnpnbhgkcaefnaaDoor
