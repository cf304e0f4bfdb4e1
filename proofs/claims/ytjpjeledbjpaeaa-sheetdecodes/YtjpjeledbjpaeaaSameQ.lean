/-
  What is proved here: the program's Same answers whether two plans are the same; Long: where it tells false, the plan's lists are short.
-/
import Derived.Test.YtjpjeledbjpaeaaSameP
namespace Go.Proofs.Ytjpjeledbjpaeaa
open Go.RowKit Go.Proofs
set_option maxRecDepth 20000
set_option linter.unusedVariables false
set_option linter.unusedSimpArgs false

structure PlCnt (p : Pl) : Prop where
  nodes : p.nodes.length < 4611686018427387904
  outs : p.outs.length < 4611686018427387904
  each : ∀ x ∈ p.nodes, NdCnt x

theorem Small.cnt {p : Pl} (h : Small p) : PlCnt p := ⟨by have := h.nodes; omega, by have := h.outs; omega, fun x hx => (h.each x hx).cnt⟩

/-- A plan that lies in a block of its own. -/
def plObj (p : Pl) (s : PlS) : Obj := .cells #[.slice s.a1 p.nodes.length s.c1, .slice s.a2 p.outs.length s.c2, .int .i64 p.room] 25

structure PlB (w : World) (b : Nat) (p : Pl) (s : PlS) : Prop where
  k0 : w.cell? ⟨b, 0, none⟩ = some (.slice s.a1 p.nodes.length s.c1)
  k1 : w.cell? ⟨b, 1, none⟩ = some (.slice s.a2 p.outs.length s.c2)
  k2 : w.cell? ⟨b, 2, none⟩ = some (.int .i64 p.room)
  lt : b < w.heap.size

theorem PlB.below {w w' : World} {b : Nat} {p : Pl} {s : PlS} (h : PlB w b p s) (B : Below w.heap.size w w') : PlB w' b p s :=
  ⟨(B.cell (p := ⟨b, 0, none⟩) h.lt).trans h.k0, (B.cell (p := ⟨b, 1, none⟩) h.lt).trans h.k1, (B.cell (p := ⟨b, 2, none⟩) h.lt).trans h.k2, Nat.lt_of_lt_of_le h.lt B.size⟩

theorem PlB.gr {w w' : World} {b : Nat} {p : Pl} {s : PlS} (h : PlB w b p s) (hb : Gr w w') : PlB w' b p s := h.below hb.below

theorem PlB.new (w : World) (p : Pl) (s : PlS) : PlB (w.alloc (plObj p s)) w.heap.size p s := by
  constructor <;> simp [plObj]

set_option maxHeartbeats 4000000 in
theorem Same_any (w : World) (p q : Pl) (s t : PlS) (hp : PlR w.heap.size w p s) (hq : PlR w.heap.size w q t) (cp : PlCnt p) (cq : PlCnt q) :
    Calls Try.prog 16 #[plV p s, plV q t] w fun e w' => e = .returned (.bool (decide (p = q))) ∧ Gr w w' := by
  generalize hd : decide (p = q) = d
  have HD := hid' hd
  clear hd
  have HX := hid' hp
  have HY := hid' hq
  have CX := hid' cp
  have CY := hid' cq
  clear hp hq cp cq
  have G := hid' ((((Gr.refl w).alloc (plObj p s)).alloc (plObj q t)))
  have BX := hid' ((PlB.new w p s).gr ((Gr.refl _).alloc (plObj q t)))
  have BY := hid' (PlB.new (w.alloc (plObj p s)) q t)
  obtain ⟨x0, x1, x2⟩ := p
  obtain ⟨y0, y1, y2⟩ := q
  unfold plV
  simp only [plObj, sz1] at G BX BY ⊢
  by_cases e2 : x2 = y2
  · subst e2
    have H1 := hid' (fun W (g : Gr w W) => EqInts_any W s.a2 t.a2 s.c2 t.c2 x1 y1 (HX.out.outs.gr g) (HY.out.outs.gr g) CX.out.outs CY.out.outs)
    have H0 := hid' (fun W (g : Gr w W) => EqNodes_any W s.a1 t.a1 s.c1 t.c1 x0 y0 (HX.out.nodes.gr g) (HY.out.nodes.gr g) CX.out.nodes CY.out.nodes CX.out.each CY.out.each)
    by_cases E1 : x1 = y1
    · rw [decide_eq_true E1] at H1
      replace E1 := hid' E1
      by_cases E0 : x0 = y0
      · rw [decide_eq_true E0] at H0
        replace E0 := hid' E0
        go_enter Try.func16, Try.ntmps16
        go_wp2_with fail
        refine (H1.out _ G.out).mono ?_
        rintro e w1 ⟨rfl, hg⟩
        replace G := hid' (G.out.trans hg)
        have p0 := (BX.out.gr hg).k0
        have q0 := (BY.out.gr hg).k0
        simp only at p0 q0
        clear hg
        go_wp2_with fail
        refine (H0.out _ G.out).mono ?_
        rintro e w2 ⟨rfl, hg⟩
        replace G := hid' (G.out.trans hg)
        clear hg p0 q0
        go_wp2
        go_ret
        refine ⟨congrArg (fun z => Ending.returned (Value.bool z)) ?_, G.out⟩
        rw [← HD.out]; simp [E0.out, E1.out]
      · rw [decide_eq_false E0] at H0
        replace E0 := hid' E0
        go_enter Try.func16, Try.ntmps16
        go_wp2_with fail
        refine (H1.out _ G.out).mono ?_
        rintro e w1 ⟨rfl, hg⟩
        replace G := hid' (G.out.trans hg)
        have p0 := (BX.out.gr hg).k0
        have q0 := (BY.out.gr hg).k0
        simp only at p0 q0
        clear hg
        go_wp2_with fail
        refine (H0.out _ G.out).mono ?_
        rintro e w2 ⟨rfl, hg⟩
        replace G := hid' (G.out.trans hg)
        clear hg p0 q0
        go_wp2
        go_ret
        refine ⟨congrArg (fun z => Ending.returned (Value.bool z)) ?_, G.out⟩
        rw [← HD.out]; simp [E0.out]
    · rw [decide_eq_false E1] at H1
      replace E1 := hid' E1
      go_enter Try.func16, Try.ntmps16
      go_wp2_with fail
      refine (H1.out _ G.out).mono ?_
      rintro e w1 ⟨rfl, hg⟩
      replace G := hid' (G.out.trans hg)
      clear hg
      go_wp2
      go_ret
      refine ⟨congrArg (fun z => Ending.returned (Value.bool z)) ?_, G.out⟩
      rw [← HD.out]; simp [E1.out]
  · have HN := hid' e2
    have eb : (x2 == y2) = false := by simpa using e2
    clear e2
    go_enter Try.func16, Try.ntmps16
    go_wp2
    go_ret
    refine ⟨congrArg (fun z => Ending.returned (Value.bool z)) ?_, G.out⟩
    rw [← HD.out]; simp [HN.out]

/-- Long of steps: where it tells false, they are few and short. -/
theorem xLong_any (w : World) (a : Option Addr) (cap : Nat) (l : List V) (h : Vs w.heap.size w a l) :
    Calls Try.prog 17 #[.slice a l.length cap] w fun e w' => ∃ b, e = .returned (.bool b) ∧ (b = false → l.length ≤ 80 ∧ ∀ t ∈ l, t.2.2.size ≤ 5000) ∧ w' = w := by
  by_cases h80 : 80 < l.length
  · clear h
    go_enter Try.func17, Try.ntmps17
    go_wp2
    go_ret
    exact ⟨true, rfl, fun h => by simp at h, rfl⟩
  · have HV := hid' h
    clear h
    obtain ⟨n, hn⟩ : ∃ n, l.length = n := ⟨_, rfl⟩
    rw [hn] at h80 ⊢
    have HN := hid' hn
    clear hn
    go_enter Try.func17, Try.ntmps17
    go_wp2
    go_loopg [3] n (fun k i wr => ∃ j : Nat, j + k = n ∧ i = .int .i64 (j : Int) ∧ (∀ t ∈ l.take j, t.2.2.size ≤ 5000) ∧ wr = w)
    case atStart => exact ⟨0, by omega, rfl, by simp, rfl⟩
    case round =>
      obtain ⟨j, hj, rfl, ht, rfl⟩ := hrel
      have HT := hid' ht
      clear ht
      cases gk with
      | zero =>
        obtain rfl : j = n := by omega
        go_wp2
        go_ret
        refine ⟨false, rfl, fun _ => ⟨by omega, ?_⟩, rfl⟩
        have := HT.out
        rwa [List.take_of_length_le (Nat.le_of_eq HN.out)] at this
      | succ k =>
        have hjl : j < l.length := by rw [HN.out]; omega
        obtain ⟨b1, o1, rfl, hB1, hc1⟩ := HV.out.cells (by rintro rfl; simp at hjl)
        have p1 := (hc1 j hjl).2.2
        have HS : Hid ((l.getD j d0).2.2.size ≤ 5000 → ∀ t ∈ l.take (j + 1), t.2.2.size ≤ 5000) := by
          intro h5 t ht
          rw [List.take_add_one, List.getElem?_eq_getElem hjl] at ht
          rcases List.mem_append.1 ht with ht | ht
          · exact HT.out t ht
          · simp at ht; subst ht
            simpa [List.getD, List.getElem?_eq_getElem hjl] using h5
        generalize (l.getD j d0).2.2 = s at p1 HS
        clear hc1 hjl
        by_cases h5 : 5000 < s.size
        · go_wp2
          go_ret
          exact ⟨true, rfl, fun h => by simp at h, rfl⟩
        · go_wp2
          go_roundg k
          case measure => omega
          case rel => exact ⟨j + 1, by omega, by simp, HS.out (by omega), rfl⟩

end Go.Proofs.Ytjpjeledbjpaeaa
