/-
  What is proved here: All of several wrapped numbers that are joined and wrapped once: all numbers in their order; Code of it: the first; Ops of it: the one op.
-/
import Derived.Test.YtnpnbhgkcaefnaaDoorAll
import Derived.Test.YtnpnbhgkcaefnaaDoorJoins
namespace Go.Proofs.YtnpnbhgkcaefnaaDoor
open Go.RowKit Go.Extern.Stop Go.Stop Go.Extern
set_option linter.unusedVariables false

theorem take_succ_getD (zs : List Int) (j : Nat) (hj : j < zs.length) : zs.take (j + 1) = zs.take j ++ [zs.getD j 0] := by
  rw [List.take_add_one]
  simp [List.getD, List.getElem?_eq_getElem hj]

set_option maxRecDepth 10000 in
set_option maxHeartbeats 4000000 in
theorem numbers_join (op : ByteArray) (pb : Nat) (zs : List Int) (hne : 0 < zs.length) (hl : zs.length ≤ 100000) (w : World) (hg : Laid w) (hj : JoinAt pb zs w) :
    Calls Tryd.prog 22 #[.slice none 0 0, failJ op pb] w fun e w' => ∃ v, e = .returned v ∧ Owns w.heap.size w' v zs ∧ Below w.heap.size w w' := by
  obtain ⟨g, c, j1, j2, j3⟩ := hj
  have HM := hid' (most_of 60 (.pointer (some ⟨pb, 0, none⟩)) (fun W => inner_join _ W) [op] w)
  rw [← failJ_wrap] at HM
  have HP := hid' (fun W h => parts_join pb (some ⟨g, 0, none⟩) zs.length c W h)
  have HN := hid' (fun B v xs z W h1 h2 h3 h4 => numbers_chain B v xs [⟨#[120]⟩] z W h1 h2 h3 h4)
  have J1 := hid' j1
  have J3 := hid' j3
  clear j1 j3
  unfold failJ at HM ⊢
  go_enter Tryd.func22, Tryd.ntmps22
  go_wp2_with fail
  refine HM.out.mono ?_
  rintro e w1 ⟨rfl, hb1⟩
  have HB1 := hid' hb1
  clear hb1 HM
  go_wp2_with fail
  refine (HP.out w1 ((HB1.out.cell (lt_of_cell J1.out)).trans J1.out)).mono ?_
  rintro e w2 ⟨rfl, hb2⟩
  have HB2 := hid' (below_all HB1.out (Nat.le_refl _) hb2)
  clear hb2 HP
  go_wp2
  go_loopg [0, 17] zs.length (fun k v i wr => ∃ j : Nat, j + k = zs.length ∧ i = .int .i64 (j : Int) ∧ Owns w.heap.size wr v (zs.take j) ∧ Below w.heap.size w wr)
  case atStart => exact ⟨0, by omega, rfl, World.ownsRow_nil _ _ _ _, HB2.out⟩
  case round =>
    obtain ⟨j, hj, rfl, ho, hb⟩ := hrel
    have HO := hid' (And.intro ho hb)
    cases gk with
    | zero =>
      have e : j = zs.length := by omega
      subst e
      rw [List.take_length] at HO
      clear ho hb hj
      go_wp2
      go_ret
      exact ⟨_, rfl, HO.out⟩
    | succ k =>
      have hjl : j < zs.length := by omega
      have hjc : j < c := by omega
      have jc : wr.cell? ⟨g, j, none⟩ = some (elV (zs.getD j 0)) := (hb.cell (lt_of_cell (J3.out j hjl))).trans (J3.out j hjl)
      have HC := hid' (HN.out w.heap.size _ (zs.take j) (zs.getD j 0) wr hb.size (by rw [List.length_take]; omega) (hg.keep hb hg.pos) ho)
      rw [← elV_wrap, ← take_succ_getD zs j hjl] at HC
      have HJ := hid' hj
      unfold elV at jc HC
      generalize zs.getD j 0 = z at jc HC
      clear ho hb hj
      go_wp2_with fail
      refine HC.out.mono ?_
      rintro e w3 ⟨v3, rfl, ho3, hb3⟩
      have HO3 := hid' (And.intro ho3 (HO.out.2.trans hb3))
      clear ho3 hb3
      go_wp2
      go_roundg k
      case measure => omega
      case rel => exact ⟨j + 1, by have := HJ.out; omega, by go_num, HO3.out.1, HO3.out.2⟩

theorem all_join (op : ByteArray) (pb : Nat) (zs : List Int) (hne : 0 < zs.length) (hl : zs.length ≤ 100000) (w : World) (hg : Laid w) (hj : JoinAt pb zs w) :
    Calls Tryd.prog 10 #[failJ op pb] w fun e w' => ∃ v, e = .returned v ∧ Owns w.heap.size w' v zs ∧ Below w.heap.size w w' := by
  have H := hid' (numbers_join op pb zs hne hl w hg hj)
  generalize failJ op pb = x at H ⊢
  clear hj
  go_enter Tryd.func10, Tryd.ntmps10
  go_wp2_with fail
  refine H.out.mono ?_
  rintro e w1 ⟨v, rfl, ho, hb⟩
  have HB := hid' (And.intro ho hb)
  clear hb ho
  go_wp2
  go_ret
  exact ⟨_, rfl, HB.out⟩

theorem code_join (op : ByteArray) (pb : Nat) (z : Int) (zs : List Int) (w : World) (hg : Laid w) (hj : JoinAt pb (z :: zs) w) : Calls Tryd.prog 8 #[failJ op pb] w fun e w' => e = .returned (.int .i64 z) ∧ Below w.heap.size w w' :=
  code_at _ (joinAt_stays pb _) _ z (asNum_join op pb z zs) w hj hg

theorem ops_join (op : ByteArray) (pb : Nat) (w : World) : Calls Tryd.prog 9 #[failJ op pb] w fun e w' => ∃ a c, e = .returned (.slice a 1 c) ∧ Below w.heap.size w w' := by
  refine (ops_of [op] 60 (.pointer (some ⟨pb, 0, none⟩)) (by simp) (fun W => opOf_join _ W) (fun W => inner_join _ W) w).mono ?_
  rintro e w' ⟨v, rfl, hown, hb⟩
  obtain ⟨a, c, rfl, hs⟩ := Sts.of_owns hown
  exact ⟨a, c, rfl, hb⟩

theorem is_join (op : ByteArray) (pb : Nat) (zs : List Int) (hl : zs.length ≤ 100000) (y : Int) (w : World) (hj : JoinAt pb zs w) : Calls Tryd.prog 11 #[failJ op pb, .int .i64 y] w fun e w' => e = .returned (.bool (zs.any (· == y))) ∧ Below w.heap.size w w' :=
  is_at _ (joinAt_stays pb _) _ (.inr ⟨_, _, rfl⟩) y _ (isNum_join op pb zs hl y) w hj
end Go.Proofs.YtnpnbhgkcaefnaaDoor
