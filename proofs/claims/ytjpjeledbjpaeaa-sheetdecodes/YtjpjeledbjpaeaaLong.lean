/-
  What is proved here: Long: where it tells false, the plan's lists are short.
-/
import Derived.Test.YtjpjeledbjpaeaaSameQ
namespace Go.Proofs.Ytjpjeledbjpaeaa
open Go.RowKit Go.Proofs
set_option maxRecDepth 20000
set_option linter.unusedVariables false
set_option linter.unusedSimpArgs false

theorem take_mem {α : Type} {l : List α} {j : Nat} {d : α} {Q : α → Prop} (hjl : j < l.length) (h : ∀ x ∈ l.take j, Q x) (hq : Q (l.getD j d)) : ∀ x ∈ l.take (j + 1), Q x := by
  intro t ht
  rw [List.take_add_one, List.getElem?_eq_getElem hjl] at ht
  rcases List.mem_append.1 ht with ht | ht
  · exact h t ht
  · simp at ht; subst ht
    simpa [List.getD, List.getElem?_eq_getElem hjl] using hq

/-- What Long answers. -/
def LongAns (p : Pl) (w : World) (e : Ending) (w' : World) : Prop := ∃ b, e = .returned (.bool b) ∧ (b = false → Small p) ∧ Gr w w'

set_option maxHeartbeats 4000000 in
theorem Long_any (w : World) (p : Pl) (s : PlS) (hp : PlR w.heap.size w p s) :
    Calls Try.prog 6 #[plV p s] w (LongAns p w) := by
  have G0 := hid' ((Gr.refl w).alloc (plObj p s))
  have BX0 := hid' (PlB.new w p s)
  have HX := hid' hp
  clear hp
  unfold plV
  by_cases h70 : 70 < p.nodes.length
  · unfold plObj at G0
    clear HX BX0
    go_enter Try.func6, Try.ntmps6
    go_wp2
    go_ret
    exact ⟨true, rfl, fun h => by simp at h, G0.out⟩
  by_cases h20 : 20 < p.outs.length
  · unfold plObj at G0
    clear HX BX0
    go_enter Try.func6, Try.ntmps6
    go_wp2
    go_ret
    exact ⟨true, rfl, fun h => by simp at h, G0.out⟩
  obtain ⟨l, hl⟩ : ∃ l, p.nodes = l := ⟨_, rfl⟩
  have HP : Hid ((∀ x ∈ l, NdSmall x) → Small p) := fun h => ⟨by omega, by omega, by rw [hl]; exact h⟩
  have HL := hid' HX.out.nodes
  rw [hl] at HL h70
  unfold plObj at G0 BX0
  rw [hl] at G0 BX0 ⊢
  have CX : Hid (∀ W, Gr (w.alloc (Obj.cells #[.slice s.a1 l.length s.c1, .slice s.a2 p.outs.length s.c2, .int .i64 p.room] 25)) W → W.cell? ⟨w.heap.size, 0, none⟩ = some (.slice s.a1 l.length s.c1)) := fun W g => (by
    have := (BX0.out.gr g).k0
    rw [hl] at this
    exact this)
  clear hl HX BX0
  generalize p.outs.length = no at *
  generalize p.room = pr at *
  obtain ⟨n, hn⟩ : ∃ n, l.length = n := ⟨_, rfl⟩
  rw [hn] at h70 G0 CX ⊢
  have HN := hid' hn
  clear hn
  go_enter Try.func6, Try.ntmps6
  go_wp2
  generalize hW0 : w.alloc (Obj.cells #[.slice s.a1 n s.c1, .slice s.a2 no s.c2, .int .i64 pr] 25) = W0 at *
  clear hW0
  go_loopg [3] n (fun k i wr => ∃ j : Nat, j + k = n ∧ i = .int .i64 (j : Int) ∧ (∀ x ∈ l.take j, NdSmall x) ∧ Gr W0 wr)
  case atStart => exact ⟨0, by omega, rfl, by simp, Gr.refl _⟩
  case round =>
    obtain ⟨j, hj, rfl, ht, hg⟩ := hrel
    have HT := hid' ht
    clear ht
    have c0 := CX.out wr hg
    cases gk with
    | zero =>
      obtain rfl : j = n := by omega
      go_wp2
      go_ret
      refine ⟨false, rfl, fun _ => HP.out ?_, G0.out.trans hg⟩
      have := HT.out
      rwa [List.take_of_length_le (Nat.le_of_eq HN.out)] at this
    | succ k =>
      have hjl : j < l.length := by rw [HN.out]; omega
      have hg' := G0.out.trans hg
      obtain ⟨b1, o1, hs1, hB1, hc1⟩ := HL.out.cells (by rintro rfl; simp at hjl)
      rw [hs1] at c0
      clear hs1
      obtain ⟨t, C1, R1⟩ := hc1 j hjl
      have C1 := C1.keep hg'.below hB1
      have R1 := R1.gr hg'
      have HS := hid' (take_mem (d := n0) (Q := NdSmall) hjl HT.out)
      generalize l.getD j n0 = x at *
      clear hc1 HT
      obtain ⟨p0, p1, p2, p3, p4, p5, p6, p7, p8⟩ := C1
      have GN := hid' ((Gr.refl wr).alloc (ndObj x t))
      have BN := hid' (NdB.new wr x t)
      have HR := hid' (R1.gr GN.out)
      unfold ndObj at GN BN HR
      have GA := hid' hg'
      clear R1 hjl hg'
      by_cases a1 : 20 < x.ins.length
      · clear BN HR
        go_wp2
        go_ret
        exact ⟨true, rfl, fun h => by simp at h, GA.out.trans GN.out⟩
      by_cases a2 : 30 < x.kinds.length
      · clear BN HR
        go_wp2
        go_ret
        exact ⟨true, rfl, fun h => by simp at h, GA.out.trans GN.out⟩
      by_cases a3 : 30 < x.exprs.length
      · clear BN HR
        go_wp2
        go_ret
        exact ⟨true, rfl, fun h => by simp at h, GA.out.trans GN.out⟩
      by_cases a4 : 30 < x.cols.length
      · clear BN HR
        go_wp2
        go_ret
        exact ⟨true, rfl, fun h => by simp at h, GA.out.trans GN.out⟩
      have HQ : Hid ((∀ e ∈ x.exprs, e.length ≤ 80 ∧ ∀ t ∈ e, t.2.2.size ≤ 5000) → NdSmall x) := fun h => ⟨by omega, by omega, by omega, by omega, h⟩
      obtain ⟨m, hm⟩ : ∃ m, x.exprs.length = m := ⟨_, rfl⟩
      have HE := hid' HR.out.exprs
      have CE := hid' BN.out.k3
      rw [hm] at a3 p3 GN HE CE
      have HM := hid' hm
      clear hm BN HR
      go_wp2
      generalize hW1 : wr.alloc (Obj.cells #[.int .i64 x.kind, .slice t.a1 x.ins.length t.c1, .slice t.a2 x.kinds.length t.c2, .slice t.a3 m t.c3, .slice t.a4 x.cols.length t.c4, .int .i64 x.key, .int .i64 x.n, .int .i64 x.size, .int .i64 x.slide] 44) = W1 at *
      have HB : Hid (wr.heap.size < W1.heap.size) := (by rw [← hW1]; simp : wr.heap.size < W1.heap.size)
      clear hW1 p0 p1 p2 p3 p4 p5 p6 p7 p8 c0
      obtain ⟨wO, hO⟩ : ∃ x, x = wr := ⟨_, rfl⟩
      subst hO
      go_loopg [5] m (fun k' i wr => ∃ j' : Nat, j' + k' = m ∧ i = .int .i64 (j' : Int) ∧ (∀ e ∈ x.exprs.take j', e.length ≤ 80 ∧ ∀ t ∈ e, t.2.2.size ≤ 5000) ∧ Gr W1 wr)
      case atStart => exact ⟨0, by omega, rfl, by simp, Gr.refl _⟩
      case round =>
        obtain ⟨j', hj', rfl, ht', hg1⟩ := hrel
        have HT' := hid' ht'
        clear ht'
        have d3 := (hg1.below.cell (p := ⟨wO.heap.size, 3, none⟩) HB.out).trans CE.out
        cases gk with
        | zero =>
          obtain rfl : j' = m := by omega
          have HF : Hid (∀ x ∈ l.take (j + 1), NdSmall x) := HS.out (HQ.out (by
            have := HT'.out
            rwa [List.take_of_length_le (Nat.le_of_eq HM.out)] at this))
          go_wp2
          go_roundg k
          case measure => omega
          case rel => exact ⟨j + 1, by omega, by simp, HF.out, hg.trans (GN.out.trans hg1)⟩
        | succ k' =>
          have hjl' : j' < x.exprs.length := by rw [HM.out]; omega
          obtain ⟨b2, o2, hs2, hB2, hc2⟩ := HE.out.cells (by intro h; rw [h] at hjl'; simp at hjl')
          rw [hs2] at d3
          clear hs2
          obtain ⟨x2, c2, q1, v2⟩ := hc2 j' hjl'
          have q1 := (hg1.below.cell (p := ⟨b2, o2 + j', none⟩) hB2).trans q1
          have H := hid' (xLong_any wr x2 c2 _ (v2.gr hg1))
          have HS' := hid' (take_mem (d := []) (Q := fun e => e.length ≤ 80 ∧ ∀ t ∈ e, t.2.2.size ≤ 5000) hjl' HT'.out)
          generalize x.exprs.getD j' [] = y at q1 H HS'
          clear hc2 hjl' v2 HT'
          go_wp2_with fail
          refine H.out.mono ?_
          rintro e w3 ⟨bb, rfl, hb, rfl⟩
          cases bb with
          | true =>
            go_wp2
            go_ret
            exact ⟨true, rfl, fun h => by simp at h, GA.out.trans (GN.out.trans hg1)⟩
          | false =>
            have HY := hid' (HS'.out (hb rfl))
            clear hb HS' H
            go_wp2
            go_roundg k'
            case measure => omega
            case rel => exact ⟨j' + 1, by omega, by simp, HY.out, hg1⟩

end Go.Proofs.Ytjpjeledbjpaeaa
