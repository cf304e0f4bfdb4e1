/-
  What is proved here: live: the page's examples; the law WindowBuckets answers true, whatever it is handed.
-/
import Derived.Test.YtioldkilfeemfaaRBuckets
namespace Go.Proofs.Ytioldkilfeemfaa
open Go.RowKit
set_option linter.unusedVariables false
set_option linter.unusedSimpArgs false

theorem alloc_new (w : World) (o : Obj) : (w.alloc o).heap[w.heap.size]? = some o := by
  show (w.heap.push o)[w.heap.size]? = some o
  simp

theorem ns_new (w : World) (l : List Int) (t : TypeId) : Ns (w.alloc (.cells (B64 l).toArray t)).heap.size (w.alloc (.cells (B64 l).toArray t)) (some ⟨w.heap.size, 0, none⟩) l := by
  refine ⟨fun _ => ⟨w.heap.size, 0, rfl, by simp, fun i hi => ?_⟩⟩
  rw [cell_of_row _ _ _ _ _ _ (alloc_new w _)]
  simp [B64, List.getD, List.getElem?_eq_getElem hi]

/-- Buckets, with what it answers as a slice of numbers. -/
theorem Buckets_B (v size s : Int) (l : List Int) (c : Int) (w : World) (h : bkT v size s = (l, c)) : Calls Try.prog 6 #[.int .i64 v, .int .i64 size, .int .i64 s] w fun e w' => ∃ a cap, e = .returned (.tuple #[.slice a l.length cap, .int .i64 c]) ∧ Ns w'.heap.size w' a l ∧ Below w.heap.size w w' := by
  refine (Buckets_any v size s w).mono ?_
  rintro e w' ⟨x, rfl, ho, hb⟩
  rw [h] at ho ⊢
  obtain ⟨a, cap, rfl, _, hn⟩ := Ns.of_owns ho
  exact ⟨a, cap, rfl, hn, hb⟩

theorem rBuckets_B (v size s : Int) (l : List Int) (c : Int) (w : World) (h : bkT v size s = (l, c)) : Calls Try.prog 7 #[.int .i64 v, .int .i64 size, .int .i64 s] w fun e w' => ∃ a cap, e = .returned (.tuple #[.slice a l.length cap, .int .i64 c]) ∧ Ns w'.heap.size w' a l ∧ Below w.heap.size w w' := by
  refine (rBuckets_any v size s w).mono ?_
  rintro e w' ⟨x, rfl, ho, hb⟩
  rw [h] at ho ⊢
  obtain ⟨a, cap, rfl, _, hn⟩ := Ns.of_owns ho
  exact ⟨a, cap, rfl, hn, hb⟩

theorem on_B {w w1 w2 : World} (h : Hid (Below w.heap.size w w1)) (g : Below w1.heap.size w1 w2) : Hid (Below w.heap.size w w2) := hid' (h.out.trans (g.mono h.out.size))

theorem same_B (w : World) (a b : Option Addr) (ca cb : Nat) (l : List Int) (n : Nat) (hn : l.length = n) (ha : Ns w.heap.size w a l) (hb : Ns w.heap.size w b l) (hl : n < 1000) :
    Calls Try.prog 10 #[.slice a n ca, .slice b n cb] w fun e w' => e = .returned (.bool true) ∧ Below w.heap.size w w' := by
  subst hn
  refine (same_any w a b ca cb l l ha hb (by omega) (by omega)).mono ?_
  rintro e w' ⟨rfl, g⟩
  exact ⟨by simp, g.below⟩

set_option maxRecDepth 10000 in
set_option maxHeartbeats 2000000 in
theorem live_any (w : World) : Calls Try.prog 14 #[] w fun e w' => e = .returned (.bool true) ∧ Below w.heap.size w w' := by
  have H1 := hid' (fun w => Buckets_B 7 10 5 [0, 5] 0 w (by decide))
  have H2 := hid' (fun w => Buckets_B (-1) 5 5 [-5] 0 w (by decide))
  have HC := hid' code_any
  have HB := hid' (Below.refl w.heap.size w)
  simp only [List.length_cons, List.length_nil, Nat.zero_add, Nat.reduceAdd] at H1 H2
  go_enter Try.func14, Try.ntmps14
  go_wp2_with fail
  refine (H1.out _).mono ?_
  rintro e w1 ⟨a1, c1, rfl, n1, g1⟩
  replace HB := on_B HB g1
  have N1 := hid' n1
  clear g1 H1 n1
  go_wp2_with fail
  refine (H2.out _).mono ?_
  rintro e w2 ⟨a2, c2, rfl, n2, g2⟩
  replace HB := on_B HB g2
  have N1 := hid' (N1.out.on g2)
  have N2 := hid' n2
  clear g2 H2 n2
  go_wp2_with fail
  refine (HC.out _ _).mono ?_
  rintro e w3 ⟨rfl, rfl⟩
  go_wp2_with fail
  refine (HC.out _ _).mono ?_
  rintro e w4 ⟨rfl, rfl⟩
  go_wp2_with fail
  have b1 := (Below.refl w4.heap.size w4).alloc (Nat.le_refl _) (.cells #[.int .i64 0, .int .i64 5] 3)
  refine (same_B _ _ _ _ _ [0, 5] 2 rfl (N1.out.on b1) (ns_new w4 [0, 5] 3) (by decide)).mono ?_
  rintro e w5 ⟨rfl, g5⟩
  have N2 := hid' ((N2.out.on b1).on g5)
  replace HB := on_B (on_B HB b1) g5
  clear b1 g5 N1
  go_wp2_with fail
  have b1 := (Below.refl w5.heap.size w5).alloc (Nat.le_refl _) (.cells #[.int .i64 (-5)] 3)
  refine (same_B _ _ _ _ _ [-5] 1 rfl (N2.out.on b1) (ns_new w5 [-5] 3) (by decide)).mono ?_
  rintro e w6 ⟨rfl, g6⟩
  replace HB := on_B (on_B HB b1) g6
  clear b1 g6 N2
  go_wp2
  go_ret
  exact ⟨rfl, HB.out⟩

theorem bkT_length (v size s : Int) : (bkT v size s).1.length ≤ 64 := by
  unfold bkT
  by_cases hc : chkT size s = 0
  · rw [if_pos hc]
    by_cases hv : Point v
    · rw [if_pos hv]
      obtain ⟨hz, hs, hm⟩ := chk_ok hc
      simp only [wins_length]
      exact (ways hz hs hm hv).many
    · rw [if_neg hv]; simp
  · rw [if_neg hc]; simp

set_option maxRecDepth 10000 in
set_option maxHeartbeats 2000000 in
theorem buckets_walk (w : World) (v size s : Int) (hv : R64 v) (_ : R64 size) (_ : R64 s) :
    Calls Try.prog 3 #[.int .i64 v, .int .i64 size, .int .i64 s] w fun e w' => e = .returned (.bool true) ∧ Below w.heap.size w w' := by
  have hl := bkT_length v size s
  obtain ⟨⟨l, c⟩, hR⟩ : ∃ x, bkT v size s = x := ⟨_, rfl⟩
  have H1 := hid' (fun w => Buckets_B v size s l c w hR)
  have H2 := hid' (fun w => rBuckets_B v size s l c w hR)
  rw [hR] at hl
  clear hR
  simp only at hl
  have H3 := hid' (fun w => Floor_any v s w)
  have H4 := hid' (fun w => rFloor_any v s w)
  have H5 := hid' (fun w => Check_any size s w)
  have H6 := hid' (fun w => rCheck_any size s w)
  have HC := hid' code_any
  have HL := hid' live_any
  have HB := hid' (Below.refl w.heap.size w)
  generalize hn : l.length = n at H1 H2 hl
  have HN := hid' hn
  generalize floT v s = f at H3 H4
  obtain ⟨f1, f2⟩ := f
  unfold pr at H3 H4
  simp only at H3 H4
  generalize chkT size s = d at H5 H6
  clear hv hn
  go_enter Try.func3, Try.ntmps3
  go_wp2_with fail
  refine (H1.out _).mono ?_
  rintro e w1 ⟨a1, c1, rfl, n1, g1⟩
  replace HB := on_B HB g1
  have N1 := hid' n1
  clear g1 H1 n1
  go_wp2_with fail
  refine (H2.out _).mono ?_
  rintro e w2 ⟨a2, c2, rfl, n2, g2⟩
  replace HB := on_B HB g2
  have N1 := hid' (N1.out.on g2)
  have N2 := hid' n2
  clear g2 H2 n2
  go_wp2_with fail
  refine (H3.out _).mono ?_
  rintro e w3 ⟨rfl, rfl⟩
  go_wp2_with fail
  refine (H4.out _).mono ?_
  rintro e w4 ⟨rfl, rfl⟩
  go_wp2_with fail
  refine (same_B _ _ _ _ _ l n HN.out N1.out N2.out (by omega)).mono ?_
  rintro e w5 ⟨rfl, g5⟩
  replace HB := on_B HB g5
  clear g5 N1 N2
  go_wp2_with fail
  refine (HC.out _ _).mono ?_
  rintro e w6 ⟨rfl, rfl⟩
  go_wp2_with fail
  refine (HC.out _ _).mono ?_
  rintro e w7 ⟨rfl, rfl⟩
  go_wp2_with fail
  refine (H5.out _).mono ?_
  rintro e w8 ⟨rfl, rfl⟩
  go_wp2_with fail
  refine (HC.out _ _).mono ?_
  rintro e w9 ⟨rfl, rfl⟩
  go_wp2_with fail
  refine (H6.out _).mono ?_
  rintro e w10 ⟨rfl, rfl⟩
  go_wp2_with fail
  refine (HL.out _).mono ?_
  rintro e w11 ⟨rfl, g⟩
  replace HB := on_B HB g
  go_wp2
  go_ret
  exact ⟨rfl, HB.out⟩

end Go.Proofs.Ytioldkilfeemfaa
