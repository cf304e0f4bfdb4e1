/-
  What is proved here: the document's Bytes of a plan.
-/
import Derived.Test.YtjpjeledbjpaeaaRNB
namespace Go.Proofs.Ytjpjeledbjpaeaa
open Go.RowKit Go.Proofs
set_option maxRecDepth 20000
set_option linter.unusedVariables false
set_option linter.unusedSimpArgs false

def pb1 (p : Pl) : List Int := ([80] ++ oneB p.room) ++ listB oneB p.outs

def pbI (w : World) (p : Pl) (m k : Nat) (b i : Value) (wr : World) : Prop := ∃ j : Nat, j + k = m ∧ i = .int .i64 (j : Int) ∧ Own w.heap.size wr b (pb1 p ++ (bytesOf p.nodes.length ++ (p.nodes.take j).flatMap nodeB)) ∧ Kb w.heap.size w wr

theorem pbI.out {w : World} {p : Pl} {m k : Nat} {b i : Value} {wr : World} (h : pbI w p m k b i wr) : ∃ (j : Nat) (g c : Nat), j + k = m ∧ i = .int .i64 (j : Int) ∧ b = .slice (some ⟨g, 0, none⟩) (pb1 p ++ (bytesOf p.nodes.length ++ (p.nodes.take j).flatMap nodeB)).length c ∧ Own w.heap.size wr b (pb1 p ++ (bytesOf p.nodes.length ++ (p.nodes.take j).flatMap nodeB)) ∧ Kb w.heap.size w wr := by
  obtain ⟨j, h1, h2, h3, h4⟩ := h
  obtain ⟨g, c, hv⟩ := h3.someOf (by simp [bytesOf_ne])
  exact ⟨j, g, c, h1, h2, hv, h3, h4⟩

set_option maxHeartbeats 8000000 in
theorem rPlanBytes_any (w : World) (p : Pl) (s : PlS) (hp : PlR w.heap.size w p s) (hok : PlOK p) :
    Calls Try.prog 13 #[plV p s] w (NewAns (planB p) w) := by
  obtain ⟨i0, hi, hz0, hz1, hz2⟩ := info_parts Try.info5
  have hlen := len_plan hok
  have HX := hid' hp
  have HOK := hid' hok
  have BX0 := hid' ((Bx.new w #[.slice s.a1 p.nodes.length s.c1, .slice s.a2 p.outs.length s.c2, .int .i64 p.room] 25).keep ((Below.refl _ _).alloc (Nat.le_refl _) (Obj.cells #[.int .u8 80] 5)))
  have KB0 := hid' (((Kb.refl w.heap.size w).alloc (plObj p s)).alloc (Obj.cells #[.int .u8 80] 5))
  have O80 := hid' (owns_lit_one (w.alloc (plObj p s)) w.heap.size (by simp) 80)
  have H1 := hid' (rone_any ((w.alloc (plObj p s)).alloc (Obj.cells #[.int .u8 80] 5)) p.room hok.room)
  have HL1 : Hid (1 + (oneB p.room).length ≤ 1000000000) := (by
    simp only [planB, numsB, nodesB, List.length_append, List.length_cons, List.length_nil] at hlen
    omega : _ ≤ _)
  have HL2 : Hid (([80] ++ oneB p.room).length + (listB oneB p.outs).length ≤ 1000000000) := (by
    simp only [planB, numsB, nodesB, List.length_append, List.length_cons, List.length_nil] at hlen ⊢
    omega : _ ≤ _)
  have HL3 : Hid ((pb1 p ++ listB nodeB p.nodes).length ≤ 1000000000) := (by
    simp only [planB, numsB, nodesB, pb1, List.length_append, List.length_cons, List.length_nil] at hlen ⊢
    omega : _ ≤ _)
  have HEQ : Hid (pb1 p ++ listB nodeB p.nodes = planB p) := (by
    unfold planB numsB nodesB pb1
    simp only [List.append_assoc] : _ = _)
  rw [sz1] at O80
  obtain ⟨m, hm⟩ : ∃ m, p.nodes.length = m := ⟨_, rfl⟩
  have HM := hid' hm
  have hmle : m ≤ 64 := by rw [← hm]; exact HOK.out.m1
  unfold plV
  unfold plObj at KB0 H1 O80
  rw [hm] at BX0 KB0 H1 O80 ⊢
  clear hp hok hlen hm
  go_enter Try.func13, Try.ntmps13
  go_wp2_with fail
  refine H1.out.mono ?_
  rintro e w1 ⟨v1, rfl, hown, hbel⟩
  obtain ⟨g1, c1, hu⟩ := hown.someOf (oneB_ne _)
  subst hu
  have K1 := hid' (KB0.out.trans (Kb.of_below hbel))
  have HW := hid' (owns_below O80.out hbel)
  have HN2 := hid' (hown.cells rfl)
  have hs1 : w.heap.size ≤ w1.heap.size := K1.out.size
  have HLL := HL1
  have BX1 := hid' (BX0.out.keep hbel)
  clear hown hbel H1 KB0 BX0 O80
  go_wp2_with (first
    | (at_builtin; refine wpList_append_own _ rfl (.tmp 5) (.tmp 8) 28 rfl w.heap.size 5 i0 (.int .u8 0) 1 1 Try.underlying28 hi hz0 hz1 hz2 rfl (by decide) (.slice (some ⟨w.heap.size + 1, 0, none⟩) 1 1) 1 (B8 ([80])) rfl HW.out ⟨g1, 0, none⟩ (oneB p.room).length c1 (B8 (oneB p.room)) rfl (by rw [length_B8]; omega) HN2.out (B8_one _) (by have := HLL.out; unfold maxLen; omega) (by have := HLL.out; omega) hs1 ?_; intro v' w2 hown1 hgrow1 hnil1; have d1 : w2.cell? ⟨w.heap.size, 1, none⟩ = some (.slice s.a2 p.outs.length s.c2) := (BX1.out.kb (Kb.grown hgrow1 HW.out) (by decide)).cell 1))
  have K2g := hid' (Kb.grown hgrow1 HW.out)
  have K2 := hid' (K1.out.trans K2g.out)
  have hown2 : Own w.heap.size w2 v' ([80] ++ oneB p.room) := app_own (l := [80]) (r := oneB p.room) hown1
  obtain ⟨g2, c2, hv2⟩ := hown2.someOf (by simp)
  subst hv2
  have BX2 := hid' (BX1.out.kb K2g.out (by decide))
  have HO := hid' hown2
  have HP := hid' (rlist_any w2 s.a2 s.c2 p.outs ((HX.out.outs.keep (K2.out.below (Nat.le_refl _))).mono K2.out.size) HOK.out.outs (by have := HOK.out.m2; omega))
  have hs2 : w.heap.size ≤ w2.heap.size := K2.out.size
  generalize hcu : [80] ++ oneB p.room = cu at *
  have HCU := hid' hcu
  clear hown1 hgrow1 hnil1 HW HN2 hown2 K1 K2g BX1 hs1 HLL hcu
  go_wp2_with fail
  refine HP.out.mono ?_
  rintro e w3 ⟨v3, rfl, hown, hbel⟩
  obtain ⟨g3, c3, hu⟩ := hown.someOf (listB_ne _ _)
  subst hu
  have HW := hid' (owns_below HO.out hbel)
  have HN2 := hid' (hown.cells rfl)
  have hs3 : w.heap.size ≤ w3.heap.size := Nat.le_trans hs2 hbel.size
  have HLL := HL2
  have K3 := hid' (Kb.of_below (base := w.heap.size) hbel)
  clear hown hbel HP HO d1
  go_wp2_with (first
    | (at_builtin; refine wpList_append_own _ rfl (.tmp 10) (.tmp 13) 28 rfl w.heap.size 5 i0 (.int .u8 0) 1 1 Try.underlying28 hi hz0 hz1 hz2 rfl (by decide) (.slice (some ⟨g2, 0, none⟩) cu.length c2) cu.length (B8 (cu)) rfl HW.out ⟨g3, 0, none⟩ (listB oneB p.outs).length c3 (B8 (listB oneB p.outs)) rfl (by rw [length_B8]; omega) HN2.out (B8_one _) (by have := HLL.out; unfold maxLen; omega) (by have := HLL.out; omega) hs3 ?_; intro v' w4 hown1 hgrow1 hnil1; have d0' : w4.cell? ⟨w.heap.size, 0, none⟩ = some (.slice s.a1 m s.c1) := (BX2.out.kb (K3.out.trans (Kb.grown hgrow1 HW.out)) (by decide)).cell 0))
  have K4g := hid' (K3.out.trans (Kb.grown hgrow1 HW.out))
  have K4 := hid' (K2.out.trans K4g.out)
  have hown4 : Own w.heap.size w4 v' (pb1 p) := by
    have h : Own w.heap.size w4 v' (cu ++ listB oneB p.outs) := app_own hown1
    rw [← HCU.out] at h
    exact h
  obtain ⟨g4, c4, hv4⟩ := hown4.someOf (by unfold pb1; simp)
  subst hv4
  have BX4 := hid' (BX2.out.kb K4g.out (by decide))
  have HO := hid' hown4
  have HP := hid' (bytes_any w4 m (by omega))
  have hs4 : w.heap.size ≤ w4.heap.size := K4.out.size
  clear hown1 hgrow1 hnil1 HW HN2 hown4 K2 K4g BX2 hs3 hs2 HLL K3 HCU
  go_wp2_with fail
  refine HP.out.mono ?_
  rintro e w5 ⟨g5, c5, rfl, hown, hbel⟩
  have HW := hid' (owns_below HO.out hbel)
  have HN2 := hid' (hown.cells rfl)
  have hs5 : w.heap.size ≤ w5.heap.size := Nat.le_trans hs4 hbel.size
  have HLL : Hid ((pb1 p).length + sz m ≤ 1000000000) := (by
    have h := HL3.out
    simp only [listB, List.length_append, length_bytesOf, HM.out] at h ⊢
    omega : _ ≤ _)
  have K5 := hid' (Kb.of_below (base := w.heap.size) hbel)
  clear hown hbel HP HO d0'
  go_wp2_with (first
    | (at_builtin; refine wpList_append_own _ rfl (.tmp 15) (.tmp 20) 28 rfl w.heap.size 5 i0 (.int .u8 0) 1 1 Try.underlying28 hi hz0 hz1 hz2 rfl (by decide) (.slice (some ⟨g4, 0, none⟩) (pb1 p).length c4) (pb1 p).length (B8 (pb1 p)) rfl HW.out ⟨g5, 0, none⟩ (sz m) c5 (B8 (bytesOf m)) rfl (by rw [length_B8, length_bytesOf]; omega) HN2.out (B8_one _) (by have := HLL.out; unfold maxLen; omega) (by have := HLL.out; omega) hs5 ?_; intro v' w6 hown1 hgrow1 hnil1))
  have K6g := hid' (K5.out.trans (Kb.grown hgrow1 HW.out))
  have I0 : Hid (pbI w p m m v' (.int .i64 ((0 : Nat) : Int)) w6) := ⟨0, by omega, rfl, (by
    simp only [List.take_zero, List.flatMap_nil, List.append_nil, HM.out]
    exact app_own (l := pb1 p) (r := bytesOf m) (by rw [length_bytesOf]; exact hown1)), K4.out.trans K6g.out⟩
  have BX6 := hid' (BX4.out.kb K6g.out (by decide))
  have CE : Hid (∀ Z, Kb w.heap.size w6 Z → Z.cell? ⟨w.heap.size, 0, none⟩ = some (.slice s.a1 m s.c1)) := fun Z hk => (by
    exact (BX6.out.kb hk (by decide)).cell 0)
  have HXN := hid' HX.out.nodes
  obtain ⟨sa, sc, sb, sd⟩ := s
  simp only at CE HXN ⊢
  clear hown1 hgrow1 hnil1 HW HN2 HLL K5 K6g BX4 BX6 K4 hs5 hs4
  go_wp2
  go_loopg [3, 4] m (fun k b i wr => pbI w p m k b i wr ∧ Kb w.heap.size w6 wr)
  case atStart => exact ⟨I0.out, Kb.refl _ _⟩
  case round =>
    clear I0
    obtain ⟨hrel, hk6⟩ := hrel
    obtain ⟨j, gb, cb, hj, rfl, rfl, hown, hkw⟩ := hrel.out
    clear hrel
    have d3 := CE.out wr hk6
    have hsr : w.heap.size ≤ wr.heap.size := hkw.size
    cases gk with
    | zero =>
      obtain rfl : j = m := by omega
      have HF : Hid (NewAns (planB p) w (.returned (.slice (some ⟨gb, 0, none⟩) (pb1 p ++ (bytesOf p.nodes.length ++ (p.nodes.take j).flatMap nodeB)).length cb)) wr) := ⟨_, rfl, (by
        have h := hown
        rw [← HEQ.out]
        rw [List.take_of_length_le (Nat.le_of_eq HM.out)] at h ⊢
        exact h), hkw.below (Nat.le_refl _)⟩
      generalize (pb1 p ++ (bytesOf p.nodes.length ++ (p.nodes.take j).flatMap nodeB)).length = ln at *
      clear hown hkw hk6
      go_wp2
      go_ret
      exact HF.out
    | succ k =>
      have hjl : j < p.nodes.length := by rw [HM.out]; omega
      obtain ⟨b1, o1, rfl, hB1, hc1⟩ := HXN.out.cells (by intro h; rw [h] at hjl; simp at hjl)
      obtain ⟨t, C1, R1⟩ := hc1 j hjl
      have C1 := C1.keep (hkw.below (Nat.le_refl _)) hB1
      have HLj := hid' (len_take nodeB p.nodes (pb1 p) j n0 hjl HL3.out)
      have HSj := hid' (flat_step nodeB p.nodes (pb1 p) j n0 hjl)
      have HP := hid' (rnodeBytes_any wr (p.nodes.getD j n0) t ((R1.keep (hkw.below (Nat.le_refl _))).mono hkw.size) (HOK.out.nodes _ (getD_mem (d := n0) hjl)))
      generalize hxx : p.nodes.getD j n0 = x at *
      generalize hcur : pb1 p ++ (bytesOf p.nodes.length ++ (p.nodes.take j).flatMap nodeB) = cur at *
      obtain ⟨p0, p1, p2, p3, p4, p5, p6, p7, p8⟩ := C1
      unfold ndV at HP
      have HO := hid' hown
      have HKW := hid' hkw
      have HK6 := hid' hk6
      clear hc1 hjl R1 hxx hcur hown hkw hk6
      go_wp2_with fail
      refine HP.out.mono ?_
      rintro e w7 ⟨v7, rfl, hown, hbel⟩
      obtain ⟨g7, c7, hu⟩ := hown.someOf (by unfold nodeB; simp [oneB_ne])
      subst hu
      have HW := hid' (owns_below HO.out hbel)
      have HN2 := hid' (hown.cells rfl)
      have hs7 : w.heap.size ≤ w7.heap.size := Nat.le_trans hsr hbel.size
      have HLL : Hid (cur.length + (nodeB x).length ≤ 1000000000) := (by have h := HLj.out; rwa [List.length_append] at h : _ ≤ _)
      have K7 := hid' (Kb.of_below (base := w.heap.size) hbel)
      clear hown hbel HP HO p0 p1 p2 p3 p4 p5 p6 p7 p8 d3
      go_wp2_with (first
        | (at_builtin; refine wpList_append_own _ rfl (.tmp 29) (.tmp 35) 28 rfl w.heap.size 5 i0 (.int .u8 0) 1 1 Try.underlying28 hi hz0 hz1 hz2 rfl (by decide) (.slice (some ⟨gb, 0, none⟩) cur.length cb) cur.length (B8 (cur)) rfl HW.out ⟨g7, 0, none⟩ (nodeB x).length c7 (B8 (nodeB x)) rfl (by rw [length_B8]; omega) HN2.out (B8_one _) (by have := HLL.out; unfold maxLen; omega) (by have := HLL.out; omega) hs7 ?_; intro v' w8 hown1 hgrow1 hnil1))
      have K8 := hid' (K7.out.trans (Kb.grown hgrow1 HW.out))
      have R : Hid (pbI w p m k v' (.int .i64 ((j : Int) + 1)) w8 ∧ Kb w.heap.size w6 w8) := ⟨⟨j + 1, by omega, by simp, (by rw [← HSj.out]; exact app_own hown1), HKW.out.trans K8.out⟩, HK6.out.trans K8.out⟩
      have hown8 : Own w.heap.size w8 v' (cur ++ nodeB x) := app_own hown1
      obtain ⟨g8, c8, hv8⟩ := hown8.someOf (by unfold nodeB; simp [oneB_ne])
      subst hv8
      generalize (cur ++ nodeB x).length = ln at *
      clear hown1 hgrow1 hnil1 HW HN2 hown8 K7 K8 HKW HK6
      go_wp2
      go_roundg k
      case measure => omega
      case rel => exact R.out

end Go.Proofs.Ytjpjeledbjpaeaa
