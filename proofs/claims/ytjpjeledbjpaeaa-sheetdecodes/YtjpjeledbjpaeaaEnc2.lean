/-
  What is proved here: Check and Encode of the program.
-/
import Derived.Test.YtjpjeledbjpaeaaEnc
namespace Go.Proofs.Ytjpjeledbjpaeaa
open Go.RowKit Go.Proofs
set_option maxRecDepth 20000
set_option linter.unusedVariables false
set_option linter.unusedSimpArgs false

theorem many_false {x : Nd} (h : ndMany x = false) : x.ins.length ≤ 8 ∧ x.kinds.length ≤ 16 ∧ x.exprs.length ≤ 16 ∧ x.cols.length ≤ 16 ∧ ∀ e ∈ x.exprs, e.length ≤ 64 := by
  unfold ndMany at h
  simp only [Bool.or_eq_false_iff, decide_eq_false_iff_not, List.any_eq_false] at h
  obtain ⟨h1, h2, h3, h4, h5⟩ := h
  refine ⟨by omega, by omega, by omega, by omega, fun e he => ?_⟩
  have := h5 e he
  unfold manyT at this
  simp at this
  omega

theorem ndChk_many {x : Nd} (h : ndMany x = true) : ndChk x = 3 := by unfold ndChk; rw [if_pos h]
theorem ndChk_long {x : Nd} (h : ndMany x = false) (h' : ndLong x = true) : ndChk x = 2 := by unfold ndChk; rw [if_neg (by simp [h]), if_pos h']
theorem ndChk_ok {x : Nd} (h : ndMany x = false) (h' : ndLong x = false) : ndChk x = 0 := by unfold ndChk; rw [if_neg (by simp [h]), if_neg (by simp [h'])]

set_option maxHeartbeats 4000000 in
theorem Check_any (w : World) (p : Pl) (s : PlS) (hp : PlR w.heap.size w p s) :
    Calls Try.prog 11 #[plV p s] w fun e w' => e = .returned (.int .i64 (plChk p)) ∧ Gr w w' := by
  have G0 := hid' ((Gr.refl w).alloc (plObj p s))
  have HX := hid' hp
  clear hp
  unfold plV
  by_cases h64 : 64 < p.nodes.length
  · have A : Hid (plChk p = 3) := (by unfold plChk; rw [if_pos (.inl h64)] : plChk p = 3)
    rw [A.out]
    unfold plObj at G0
    clear HX A
    go_enter Try.func11, Try.ntmps11
    go_wp2
    go_ret
    exact ⟨rfl, G0.out⟩
  by_cases h8 : 8 < p.outs.length
  · have A : Hid (plChk p = 3) := (by unfold plChk; rw [if_pos (.inr h8)] : plChk p = 3)
    rw [A.out]
    unfold plObj at G0
    clear HX A
    go_enter Try.func11, Try.ntmps11
    go_wp2
    go_ret
    exact ⟨rfl, G0.out⟩
  have A : Hid (plChk p = nodesChk p.nodes) := (by unfold plChk; rw [if_neg (by omega)] : plChk p = nodesChk p.nodes)
  rw [A.out]
  unfold plObj at G0
  have HL := hid' HX.out.nodes
  generalize p.nodes = l at *
  clear HX A
  obtain ⟨sa, sc, sb, sd⟩ := s
  simp only at HL G0 ⊢
  generalize p.outs.length = no at *
  generalize p.room = pr at *
  obtain ⟨n, hn⟩ : ∃ n, l.length = n := ⟨_, rfl⟩
  rw [hn] at h64 G0 ⊢
  have HN := hid' hn
  clear hn
  go_enter Try.func11, Try.ntmps11
  go_wp2
  generalize hW0 : w.alloc (Obj.cells #[.slice sa n sc, .slice sb no sd, .int .i64 pr] 25) = W0 at *
  clear hW0
  go_loopg [18] n (fun k i wr => ∃ j : Nat, j + k = n ∧ i = .int .i64 (j : Int) ∧ nodesChk (l.take j) = 0 ∧ Gr W0 wr)
  case atStart => exact ⟨0, by omega, rfl, rfl, Gr.refl _⟩
  case round =>
    obtain ⟨j, hj, rfl, ht, hg⟩ := hrel
    have HT := hid' ht
    clear ht
    cases gk with
    | zero =>
      obtain rfl : j = n := by omega
      have A : Hid (nodesChk l = 0) := (by
        have := HT.out
        rwa [List.take_of_length_le (Nat.le_of_eq HN.out)] at this : nodesChk l = 0)
      go_wp2
      go_ret
      exact ⟨by rw [A.out]; rfl, G0.out.trans hg⟩
    | succ k =>
      have hjl : j < l.length := by rw [HN.out]; omega
      have hg' := G0.out.trans hg
      obtain ⟨b1, o1, hs1, hB1, hc1⟩ := HL.out.cells (by rintro rfl; simp at hjl)
      obtain ⟨t, C1, R1⟩ := hc1 j hjl
      have C1 := C1.keep hg'.below hB1
      have R1 := R1.gr hg'
      have HS := hid' (nodesChk_take hjl HT.out)
      have HF := hid' (nodesChk_found hjl HT.out)
      generalize l.getD j n0 = x at *
      clear hc1 HT hjl
      obtain ⟨p0, p1, p2, p3, p4, p5, p6, p7, p8⟩ := C1
      have GN := hid' ((Gr.refl wr).alloc (ndObj x t))
      have BN := hid' (NdB.new wr x t)
      have HR := hid' (R1.gr GN.out)
      have GA := hid' hg'
      have H1 := hid' (hasTooMany_any _ x t HR.out)
      have H2 := hid' (fun W (g : Gr (wr.alloc (ndObj x t)) W) (h : ndMany x = false) => hasTooLong_any W x t (HR.out.gr g) (by have := many_false h; omega) (fun e he => by have := (many_false h).2.2.2.2 e he; omega))
      unfold ndV ndObj at H1 H2
      unfold ndObj at GN BN
      clear R1 hg' HR
      subst hs1
      by_cases m1 : ndMany x = true
      · rw [m1] at H1
        have A : Hid (nodesChk l = 3) := (by rw [HF.out (by rw [ndChk_many m1]; omega), ndChk_many m1] : nodesChk l = 3)
        clear H2 HF HS m1
        go_wp2_with fail
        refine H1.out.mono ?_
        rintro e w2 ⟨rfl, hg2⟩
        go_wp2
        go_ret
        exact ⟨by rw [A.out]; rfl, GA.out.trans (GN.out.trans hg2)⟩
      · have m1 : ndMany x = false := by simpa using m1
        rw [m1] at H1
        go_wp2_with fail
        refine H1.out.mono ?_
        rintro e w2 ⟨rfl, hg2⟩
        have H3 := hid' (H2.out w2 hg2 m1)
        obtain ⟨q0, q1, q2, q3, q4, q5, q6, q7, q8, q9⟩ := BN.out.gr hg2
        by_cases m2 : ndLong x = true
        · rw [m2] at H3
          have A : Hid (nodesChk l = 2) := (by rw [HF.out (by rw [ndChk_long m1 m2]; omega), ndChk_long m1 m2] : nodesChk l = 2)
          clear H2 HF HS m1 m2 H1
          go_wp2_with fail
          refine H3.out.mono ?_
          rintro e w3 ⟨rfl, hg3⟩
          go_wp2
          go_ret
          exact ⟨by rw [A.out]; rfl, GA.out.trans (GN.out.trans (hg2.trans hg3))⟩
        · have m2 : ndLong x = false := by simpa using m2
          rw [m2] at H3
          have A : Hid (nodesChk (l.take (j + 1)) = 0) := (by rw [HS.out, ndChk_ok m1 m2] : _ = _)
          clear H2 HF HS m1 m2 H1
          go_wp2_with fail
          refine H3.out.mono ?_
          rintro e w3 ⟨rfl, hg3⟩
          go_wp2
          go_roundg k
          case measure => omega
          case rel => exact ⟨j + 1, by omega, by simp, A.out, hg.trans (GN.out.trans (hg2.trans hg3))⟩

end Go.Proofs.Ytjpjeledbjpaeaa
