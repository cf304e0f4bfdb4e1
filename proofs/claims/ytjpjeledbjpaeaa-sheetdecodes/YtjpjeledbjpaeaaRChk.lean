/-
  What is proved here: the document's Check answers as plChk says.
-/
import Derived.Test.YtjpjeledbjpaeaaEnc3
namespace Go.Proofs.Ytjpjeledbjpaeaa
open Go.RowKit Go.Proofs
set_option maxRecDepth 20000
set_option linter.unusedVariables false
set_option linter.unusedSimpArgs false

theorem many_of {x : Nd} (h : 8 < x.ins.length ∨ 16 < x.kinds.length ∨ 16 < x.exprs.length ∨ 16 < x.cols.length ∨ x.exprs.any manyT = true) : ndChk x = 3 := by
  apply ndChk_many
  unfold ndMany
  simp only [Bool.or_eq_true, decide_eq_true_eq]
  exact h

theorem not_many {x : Nd} (h1 : ¬ 8 < x.ins.length) (h2 : ¬ 16 < x.kinds.length) (h3 : ¬ 16 < x.exprs.length) (h4 : ¬ 16 < x.cols.length) (h5 : x.exprs.any manyT = false) : ndMany x = false := by
  unfold ndMany
  simp [h1, h2, h3, h4, h5]

set_option maxHeartbeats 4000000 in
theorem rnode_any (w : World) (x : Nd) (s : NdS) (hx : NdR w.heap.size w x s) :
    Calls Try.prog 22 #[ndV x s] w fun e w' => e = .returned (.int .i64 (ndChk x)) ∧ Gr w w' := by
  have G := hid' ((Gr.refl w).alloc (ndObj x s))
  have BX := hid' (NdB.new w x s)
  have HX := hid' (hx.gr G.out)
  have M := hid' (fun h => many_of (x := x) h)
  have HNM := hid' (fun h1 h2 h3 h4 h5 => not_many (x := x) h1 h2 h3 h4 h5)
  have HOK := hid' (fun h1 h2 => ndChk_ok (x := x) h1 h2)
  have HLG := hid' (fun h1 h2 => ndChk_long (x := x) h1 h2)
  have HLD : Hid (∀ e ∈ x.exprs, True) := fun _ _ => trivial
  have HLN : Hid (ndLong x = x.exprs.any longT) := (rfl : ndLong x = x.exprs.any longT)
  generalize ndChk x = K at M HOK HLG ⊢
  generalize ndMany x = bm at HNM HOK HLG
  generalize ndLong x = bl at HLN HOK HLG
  obtain ⟨x0, x1, x2, x3, x4, x5, x6, x7, x8⟩ := x
  unfold ndV
  unfold ndObj at G BX HX
  simp only at G BX HX M HNM HLN ⊢
  clear hx HLD
  by_cases a1 : 8 < x1.length
  · have A := hid' (M.out (.inl a1))
    clear BX HX HNM HOK HLG M
    go_enter Try.func22, Try.ntmps22
    go_wp2
    go_ret
    exact ⟨by rw [A.out]; rfl, G.out⟩
  by_cases a2 : 16 < x2.length
  · have A := hid' (M.out (.inr (.inl a2)))
    clear BX HX HNM HOK HLG M
    go_enter Try.func22, Try.ntmps22
    go_wp2
    go_ret
    exact ⟨by rw [A.out]; rfl, G.out⟩
  by_cases a3 : 16 < x3.length
  · have A := hid' (M.out (.inr (.inr (.inl a3))))
    clear BX HX HNM HOK HLG M
    go_enter Try.func22, Try.ntmps22
    go_wp2
    go_ret
    exact ⟨by rw [A.out]; rfl, G.out⟩
  by_cases a4 : 16 < x4.length
  · have A := hid' (M.out (.inr (.inr (.inr (.inl a4)))))
    clear BX HX HNM HOK HLG M
    go_enter Try.func22, Try.ntmps22
    go_wp2
    go_ret
    exact ⟨by rw [A.out]; rfl, G.out⟩
  have HM5 := hid' (fun h5 => M.out (.inr (.inr (.inr (.inr h5)))))
  replace HNM := hid' (HNM.out a1 a2 a3 a4)
  obtain ⟨m, hm⟩ : ∃ m, x3.length = m := ⟨_, rfl⟩
  have HM3 := hid' hm
  obtain ⟨sa1, sc1, sa2, sc2, sa3, sc3, sa4, sc4⟩ := s
  have XE := hid' HX.out.exprs
  have CE : Hid (∀ Z, Gr (w.alloc (Obj.cells #[.int .i64 x0, .slice sa1 x1.length sc1, .slice sa2 x2.length sc2, .slice sa3 m sc3, .slice sa4 x4.length sc4, .int .i64 x5, .int .i64 x6, .int .i64 x7, .int .i64 x8] 44)) Z → Z.cell? ⟨w.heap.size, 3, none⟩ = some (.slice sa3 m sc3)) := fun Z hg => (by
    have := BX.out
    simp only [HM3.out] at this
    have := (this.gr hg).k3
    simp only [HM3.out] at this
    exact this)
  simp only [hm] at XE G ⊢
  rw [hm] at a3
  clear hm M BX HX
  go_enter Try.func22, Try.ntmps22
  go_wp2
  generalize hW0 : w.alloc (Obj.cells #[.int .i64 x0, .slice sa1 x1.length sc1, .slice sa2 x2.length sc2, .slice sa3 m sc3, .slice sa4 x4.length sc4, .int .i64 x5, .int .i64 x6, .int .i64 x7, .int .i64 x8] 44) = W0 at *
  clear hW0
  go_loopg [3] m (fun k i wr => ∃ j : Nat, j + k = m ∧ i = .int .i64 (j : Int) ∧ (x3.take j).any manyT = false ∧ Gr W0 wr)
  case atStart => exact ⟨0, by omega, rfl, by simp, Gr.refl _⟩
  case round =>
    obtain ⟨j, hj, rfl, ht, hg⟩ := hrel
    have HT := hid' ht
    clear ht
    have c3 := CE.out wr hg
    cases gk with
    | succ k =>
      have hjx : j < x3.length := by rw [HM3.out]; omega
      obtain ⟨b3, o3, rfl, hB3, hc3⟩ := XE.out.cells (by rintro rfl; simp at hjx)
      obtain ⟨a1', c1', q1, v1⟩ := hc3 j hjx
      have q1 := (hg.below.cell (p := ⟨b3, o3 + j, none⟩) hB3).trans q1
      have HS := hid' (any_step (q := manyT) (d := []) hjx HT.out)
      have HU := hid' (any_found (q := manyT) (d := []) hjx)
      generalize x3.getD j [] = e1 at *
      clear hc3 hjx HT v1
      by_cases h64 : 64 < e1.length
      · have A := hid' (HM5.out (HU.out (by unfold manyT; simpa using h64)))
        clear HS HU HM5 HNM HOK HLG
        go_wp2
        go_ret
        exact ⟨by rw [A.out]; rfl, G.out.trans hg⟩
      · have A := hid' (HS.out (by unfold manyT; simpa using h64))
        clear HS HU
        go_wp2
        go_roundg k
        case measure => omega
        case rel => exact ⟨j + 1, by omega, by simp, A.out, hg⟩
    | zero =>
      obtain rfl : j = m := by omega
      have NMT : Hid (x3.any manyT = false) := (by
        have := HT.out
        rwa [List.take_of_length_le (Nat.le_of_eq HM3.out)] at this : x3.any manyT = false)
      have NM := hid' (HNM.out NMT.out)
      replace HOK := hid' (HOK.out NM.out)
      replace HLG := hid' (HLG.out NM.out)
      clear HNM NM HM5 HT
      go_wp2
      obtain ⟨wO, hO⟩ : ∃ z, z = wr := ⟨_, rfl⟩
      subst hO
      clear c3
      go_loopg [4] j (fun k i wr => ∃ j1 : Nat, j1 + k = j ∧ i = .int .i64 (j1 : Int) ∧ (x3.take j1).any longT = false ∧ Gr W0 wr)
      case atStart => exact ⟨0, by omega, rfl, by simp, hg⟩
      case round =>
        obtain ⟨j1, hj1, rfl, ht1, hg1⟩ := hrel
        have HT1 := hid' ht1
        clear ht1
        have c3 := CE.out wr hg1
        cases gk with
        | zero =>
          obtain rfl : j1 = j := by omega
          have A := hid' (HOK.out (by
            have := HT1.out
            rw [List.take_of_length_le (Nat.le_of_eq HM3.out)] at this
            rw [HLN.out, this]))
          go_wp2
          go_ret
          exact ⟨by rw [A.out]; rfl, G.out.trans hg1⟩
        | succ k1 =>
          have hjx : j1 < x3.length := by rw [HM3.out]; omega
          obtain ⟨b3, o3, rfl, hB3, hc3⟩ := XE.out.cells (by rintro rfl; simp at hjx)
          obtain ⟨a1', c1', q1, v1⟩ := hc3 j1 hjx
          have CQ : Hid (∀ Z, Gr W0 Z → Z.cell? ⟨b3, o3 + j1, none⟩ = some (.slice a1' (x3.getD j1 []).length c1')) := fun Z g => (g.below.cell (p := ⟨b3, o3 + j1, none⟩) hB3).trans q1
          have HS := hid' (any_step (q := longT) (d := []) hjx HT1.out)
          have HU := hid' (any_found (q := longT) (d := []) hjx)
          have CL : (x3.getD j1 []).length ≤ 64 := by
            have := (List.any_eq_false.1 NMT.out) _ (getD_mem (d := []) hjx)
            unfold manyT at this
            rw [decide_eq_true_eq] at this
            omega
          generalize x3.getD j1 [] = e1 at *
          obtain ⟨n1, hn1⟩ : ∃ n1, e1.length = n1 := ⟨_, rfl⟩
          have HN1 := hid' hn1
          rw [hn1] at CQ CL
          have q1 := CQ.out wr hg1
          have V1 := hid' v1
          clear hc3 hjx HT1 v1 hn1
          go_wp2
          obtain ⟨wP, hP⟩ : ∃ z, z = wr := ⟨_, rfl⟩
          subst hP
          clear c3 q1
          go_loopg [5] n1 (fun k i wr => ∃ j2 : Nat, j2 + k = n1 ∧ i = .int .i64 (j2 : Int) ∧ (e1.take j2).any longS = false ∧ Gr W0 wr)
          case atStart => exact ⟨0, by omega, rfl, by simp, hg1⟩
          case round =>
            obtain ⟨j2, hj2, rfl, ht2, hg2⟩ := hrel
            have HT2 := hid' ht2
            clear ht2
            have c3 := CE.out wr hg2
            have q1 := CQ.out wr hg2
            cases gk with
            | zero =>
              obtain rfl : j2 = n1 := by omega
              have A := hid' (HS.out (by
                have := HT2.out
                rw [List.take_of_length_le (Nat.le_of_eq HN1.out)] at this
                exact this))
              go_wp2
              go_roundg k1
              case measure => omega
              case rel => exact ⟨j1 + 1, by omega, by simp, A.out, hg2⟩
            | succ k2 =>
              have hje : j2 < e1.length := by rw [HN1.out]; omega
              obtain ⟨b5, o5, rfl, hB5, hc5⟩ := V1.out.cells (by rintro rfl; simp at hje)
              have p3 := (hg2.below.cell (p := ⟨b5, o5 + j2 * 3 + 2, none⟩) hB5).trans (hc5 j2 hje).2.2
              have HS2 := hid' (any_step (q := longS) (d := d0) hje HT2.out)
              have HU2 := hid' (any_found (q := longS) (d := d0) hje)
              generalize e1.getD j2 d0 = tt at *
              clear hc5 hje HT2
              by_cases h4 : 4096 < tt.2.2.size
              · have A := hid' (HLG.out (by rw [HLN.out]; exact HU.out (HU2.out (by unfold longS; simpa using h4))))
                clear HS HU HS2 HU2
                go_wp2
                go_ret
                exact ⟨by rw [A.out]; rfl, G.out.trans hg2⟩
              · have A := hid' (HS2.out (by unfold longS; simpa using h4))
                clear HS2 HU2
                go_wp2
                go_roundg k2
                case measure => omega
                case rel => exact ⟨j2 + 1, by omega, by simp, A.out, hg2⟩

end Go.Proofs.Ytjpjeledbjpaeaa
