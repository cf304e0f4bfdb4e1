/-
  What is proved here: All tells the one number of a wrapped number, none of nil, and of what is joined all numbers in its order; Code of nil is OK.
-/
import Derived.Test.YtnpnbhgkcaefnaaDoorParts2
namespace Go.Proofs.YtnpnbhgkcaefnaaDoor
open Go.RowKit Go.Extern.Stop Go.Stop Go.Extern
set_option linter.unusedVariables false

theorem Tryd.info27 : (Tryd.prog.info? 27).map (fun i => (i.zero, i.size, i.bytes)) = some (some (.int .i64 0), 1, 8) := by kernel_rfl

/-- Numbers as cells. -/
def N27 (l : List Int) : List Value := l.map (Value.int .i64)

theorem one_int (z : Int) : ∀ u ∈ [Value.int .i64 z], u.oneCell' = true := by
  intro u hu
  simp at hu
  subst hu
  rfl

/-- What a call owns: numbers. -/
def Owns (B : Nat) (w : World) (v : Value) (xs : List Int) : Prop := w.ownsRow B 27 1 v xs.length (N27 xs)

theorem Owns.keep {B : Nat} {w w' : World} {v : Value} {xs : List Int} (h : Owns B w v xs) (hb : Below w.heap.size w w') : Owns B w' v xs := owns_keep h hb

theorem below_all {B : Nat} {w w1 w2 : World} (h : Below B w w1) (hB : B ≤ w.heap.size) (k : Below w1.heap.size w1 w2) : Below B w w2 := h.trans (k.mono (by have := h.size; omega))

set_option maxHeartbeats 1000000 in
theorem numbers_chain (B : Nat) (v : Value) (xs : List Int) (ops : List ByteArray) (z : Int) (w : World) (hB : B ≤ w.heap.size) (hxs : xs.length ≤ 100000) (hg : Laid w) (hown : Owns B w v xs) :
    Calls Tryd.prog 22 #[v, wrapV ops (numV z)] w fun e w' => ∃ v', e = .returned v' ∧ Owns B w' v' (xs ++ [z]) ∧ Below B w w' := by
  obtain ⟨i0, hi, hz0, hz1, hz2⟩ := info_parts Tryd.info27
  have HM := hid' (most_of 27 (.int .i64 z) (fun W => inner_num _ W) ops w)
  have HP := hid' (parts_none (.iface 27 (.int .i64 z)) (asJoin_num _))
  have HN := hid' (number_of (numV z) true z (asNum_chain [] z))
  unfold numV at HN ⊢
  have HO := hid' hown
  clear hown
  go_enter Tryd.func22, Tryd.ntmps22
  go_wp2_with fail
  refine HM.out.mono ?_
  rintro e w1 ⟨rfl, hb1⟩
  have HB1 := hid' (below_all (Below.refl B w) hB hb1)
  have HO1 := hid' (HO.out.keep hb1)
  have hs1 := hb1.size
  have hg1 : Laid w1 := hg.keep hb1 hg.pos
  clear hb1 HM
  go_wp2_with fail
  refine (HP.out w1).mono ?_
  rintro e w2 ⟨rfl, hb2⟩
  have HB2 := hid' (below_all HB1.out hB hb2)
  have HO2 := hid' (HO1.out.keep hb2)
  have hs2 := hb2.size
  have hg2 : Laid w2 := hg1.keep hb2 hg1.pos
  clear hb2 HP
  go_wp2
  refine wp_loop_rounds 1 ?_
  rw [rounds_succ]
  go_wp2_with fail
  refine (HN.out w2 hg2).mono ?_
  rintro e w3 ⟨rfl, hb3⟩
  have HB3 := hid' (below_all HB2.out hB hb3)
  have HO3 := hid' (HO2.out.keep hb3)
  have hs3 := hb3.size
  clear hb3 HN
  go_wp2_with (at_builtin; refine wpList_append_own _ rfl (.tmp 35) (.tmp 37) 30 rfl B 27 i0 (.int .i64 0) 1 8 Tryd.underlying30 hi hz0 hz1 hz2 rfl (by decide) _ _ _ rfl (World.ownsRow.alloc HO3.out _) ⟨w3.heap.size, 0, none⟩ 1 1 [.int .i64 z] rfl rfl (one_cell _ _ _) (one_int _) (by unfold maxLen; omega) (by omega) (by simp; omega) ?_; intro v' w4 hown4 hgrow4 hnil4)
  have ho4 : Owns B w4 v' (xs ++ [z]) := by unfold Owns N27; unfold N27 at hown4; simpa using hown4
  have HO4 := hid' ho4
  clear ho4
  have HB4 := hid' (grown_below HB3.out hB HO3.out hgrow4)
  clear hown4 hgrow4 hnil4
  go_wp2
  go_ret
  exact ⟨_, rfl, HO4.out, HB4.out⟩

set_option maxHeartbeats 1000000 in
theorem numbers_nil (v : Value) (w : World) (hg : Laid w) : Calls Tryd.prog 22 #[v, .nilIface] w fun e w' => e = .returned v ∧ Below w.heap.size w w' := by
  have HM := hid' (most_nil w)
  have HP := hid' (parts_none .nilIface asJoin_nil)
  have HN := hid' (number_of .nilIface false 0 asNum_nil)
  go_enter Tryd.func22, Tryd.ntmps22
  go_wp2_with fail
  refine HM.out.mono ?_
  rintro e w1 ⟨rfl, hb1⟩
  have HB1 := hid' hb1
  have hg1 : Laid w1 := hg.keep hb1 hg.pos
  clear hb1 HM
  go_wp2_with fail
  refine (HP.out w1).mono ?_
  rintro e w2 ⟨rfl, hb2⟩
  have HB2 := hid' (below_all HB1.out (Nat.le_refl _) hb2)
  have hg2 : Laid w2 := hg1.keep hb2 hg1.pos
  clear hb2 HP
  go_wp2
  refine wp_loop_rounds 1 ?_
  rw [rounds_succ]
  go_wp2_with fail
  refine (HN.out w2 hg2).mono ?_
  rintro e w3 ⟨rfl, hb3⟩
  have HB3 := hid' (below_all HB2.out (Nat.le_refl _) hb3)
  clear hb3 HN
  go_wp2
  go_ret
  exact ⟨rfl, HB3.out⟩

theorem all_nil (w : World) (hg : Laid w) : Calls Tryd.prog 10 #[.nilIface] w fun e w' => e = .returned (.slice none 0 0) ∧ Below w.heap.size w w' := by
  have H := hid' (numbers_nil (.slice none 0 0) w hg)
  go_enter Tryd.func10, Tryd.ntmps10
  go_wp2_with fail
  refine H.out.mono ?_
  rintro e w1 ⟨rfl, hb⟩
  have HB := hid' hb
  clear hb
  go_wp2
  go_ret
  exact ⟨rfl, HB.out⟩

theorem all_chain (ops : List ByteArray) (z : Int) (w : World) (hg : Laid w) : Calls Tryd.prog 10 #[wrapV ops (numV z)] w fun e w' => ∃ v, e = .returned v ∧ Owns w.heap.size w' v [z] ∧ Below w.heap.size w w' := by
  have H := hid' (numbers_chain w.heap.size (.slice none 0 0) [] ops z w (Nat.le_refl _) (by simp) hg (World.ownsRow_nil _ _ _ _))
  generalize wrapV ops (numV z) = x at H ⊢
  go_enter Tryd.func10, Tryd.ntmps10
  go_wp2_with fail
  refine H.out.mono ?_
  rintro e w1 ⟨v, rfl, ho, hb⟩
  have HB := hid' (And.intro ho hb)
  clear hb ho
  go_wp2
  go_ret
  exact ⟨_, rfl, HB.out⟩

theorem code_nil (w : World) (hg : Laid w) : Calls Tryd.prog 8 #[.nilIface] w fun e w' => e = .returned (.int .i64 0) ∧ Below w.heap.size w w' := by
  have H := hid' (number_of .nilIface false 0 asNum_nil w hg)
  go_enter Tryd.func8, Tryd.ntmps8
  go_wp2_with fail
  refine H.out.mono ?_
  rintro e w1 ⟨rfl, hb⟩
  have HA := hid' (all_nil w1 (hg.keep hb hg.pos))
  have HB := hid' hb
  clear hb
  go_wp2_with fail
  refine HA.out.mono ?_
  rintro e w2 ⟨rfl, hb2⟩
  have HB2 := hid' (below_all HB.out (Nat.le_refl _) hb2)
  clear hb2
  go_wp2
  go_ret
  exact ⟨rfl, HB2.out⟩

theorem ops_nil (w : World) : Calls Tryd.prog 9 #[.nilIface] w fun e w' => e = .returned (.slice none 0 0) ∧ w' = w := by
  go_enter Tryd.func9, Tryd.ntmps9
  go_wp2
  refine wp_loop_rounds 1 ?_
  rw [rounds_succ]
  go_wp2
  go_ret
  exact ⟨rfl, rfl⟩
end Go.Proofs.YtnpnbhgkcaefnaaDoor
