/-
  What is proved here: hasTooMany, hasTooLong, Check and Encode of the program; the page's example.
-/
import Derived.Test.YtjpjeledbjpaeaaChk
import Derived.Laws.EntriesVeiled
namespace Go.Proofs.Ytjpjeledbjpaeaa
open Go.RowKit Go.Proofs
set_option maxRecDepth 20000
set_option linter.unusedVariables false
set_option linter.unusedSimpArgs false

set_option maxHeartbeats 4000000 in
theorem hasTooMany_any (w : World) (x : Nd) (s : NdS) (hx : NdR w.heap.size w x s) :
    Calls Try.prog 23 #[ndV x s] w fun e w' => e = .returned (.bool (ndMany x)) ∧ Gr w w' := by
  have HX := hid' hx
  have G := hid' ((Gr.refl w).alloc (ndObj x s))
  obtain ⟨x0, x1, x2, x3, x4, x5, x6, x7, x8⟩ := x
  unfold ndV ndMany
  unfold ndObj at G
  simp only at G ⊢
  clear hx
  by_cases a1 : 8 < x1.length
  · have b1 : decide ((8 : Int) < (x1.length : Int)) = true := by simp; omega
    go_enter Try.func23, Try.ntmps23
    go_wp2
    go_ret
    exact ⟨by simp [a1, b1], G.out⟩
  have b1 : decide ((8 : Int) < (x1.length : Int)) = false := by simp; omega
  by_cases a2 : 16 < x2.length
  · have b2 : decide ((16 : Int) < (x2.length : Int)) = true := by simp; omega
    go_enter Try.func23, Try.ntmps23
    go_wp2
    go_ret
    exact ⟨by simp [a1, a2, b1, b2], G.out⟩
  have b2 : decide ((16 : Int) < (x2.length : Int)) = false := by simp; omega
  by_cases a3 : 16 < x3.length
  · have b3 : decide ((16 : Int) < (x3.length : Int)) = true := by simp; omega
    go_enter Try.func23, Try.ntmps23
    go_wp2
    go_ret
    exact ⟨by simp [a1, a2, a3, b1, b2, b3], G.out⟩
  have b3 : decide ((16 : Int) < (x3.length : Int)) = false := by simp; omega
  by_cases a4 : 16 < x4.length
  · have b4 : decide ((16 : Int) < (x4.length : Int)) = true := by simp; omega
    go_enter Try.func23, Try.ntmps23
    go_wp2
    go_ret
    exact ⟨by simp [a1, a2, a3, a4, b1, b2, b3, b4], G.out⟩
  have b4 : decide ((16 : Int) < (x4.length : Int)) = false := by simp; omega
  have H := hid' (ContM_any _ s.a3 s.c3 x3 (HX.out.exprs.gr G.out) (by omega))
  have A : Hid ((decide (8 < x1.length) || (decide (16 < x2.length) || (decide (16 < x3.length) || (decide (16 < x4.length) || x3.any manyT)))) = x3.any manyT) := (by simp [a1, a2, a3, a4] : _ = _)
  rw [A.out]
  generalize x3.any manyT = b at H
  clear A
  go_enter Try.func23, Try.ntmps23
  go_wp2_with fail
  refine H.out.mono ?_
  rintro e w2 ⟨rfl, hg⟩
  go_wp2
  go_ret
  exact ⟨by simp [b1, b2, b3, b4], G.out.trans hg⟩

theorem run_makeFunc (fn : Fn) (first cap : Array Value) (w : World) : (Instr.makeFunc fn first cap).run Try.prog w = .ok (.func fn first cap) w := rfl

set_option maxHeartbeats 4000000 in
theorem hasTooLong_any (w : World) (x : Nd) (s : NdS) (hx : NdR w.heap.size w x s) (hl : x.exprs.length ≤ 1000000000) (hs : ∀ e ∈ x.exprs, e.length ≤ 1000000000) :
    Calls Try.prog 24 #[ndV x s] w fun e w' => e = .returned (.bool (ndLong x)) ∧ Gr w w' := by
  have G := hid' (((Gr.refl w).alloc (ndObj x s)).alloc (Obj.cells #[.func (.func 45) #[] #[]] 79))
  have H := hid' (ContL_any _ s.a3 s.c3 x.exprs (hx.exprs.gr G.out) hl hs (w.alloc (ndObj x s)).heap.size (Bx.new _ _ _))
  rw [show x.exprs.any longT = ndLong x from rfl, sz1] at H
  unfold ndObj at G H
  unfold ndV
  generalize ndLong x = b at H
  clear hx hl hs
  have hmf := run_makeFunc
  go_enter Try.func24, Try.ntmps24
  go_wp2_with fail
  refine H.out.mono ?_
  rintro e w2 ⟨rfl, hg⟩
  go_wp2
  go_ret
  exact ⟨rfl, G.out.trans hg⟩

end Go.Proofs.Ytjpjeledbjpaeaa
