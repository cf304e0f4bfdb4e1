/-
  What is proved here: a trace's Open where there are as many readers as may be; Advance of its spine.
-/
import Derived.Test.YtlamcgeboclkjaaOpen
namespace Go.Proofs.Ytlamcgeboclkjaa
open Go.RowKit Go.Maps
set_option linter.unusedVariables false
set_option linter.unusedSimpArgs false

set_option maxRecDepth 10000 in
set_option maxHeartbeats 2000000 in
theorem open_many {w : World} {G S M nn : Nat} {ks : Int → Prop} {cnt : Nat} {f : Int → T} {nx : Nat} {sx : T} (h : St w G S M nn ks cnt f nx sx) (x : T) (v : Value) (hx : One x v w) (hck : checkT x = 0) (hle : le2 sx x = true) (hcnt : 64 ≤ cnt) :
    Calls Try.prog 7 #[.pointer (some ⟨G, 0, none⟩), v] w fun e w' => e = .returned (.tuple #[.int .i64 0, .int .i64 3]) ∧ Below w.heap.size w w' := by
  have HH := hid' h
  have HX := hid' hx
  have HCK := hid' (check_one x v w hx hck)
  have c0 := h.cellsG.1
  obtain ⟨g, c, rfl⟩ : ∃ g c, v = .slice (some ⟨g, 0, none⟩) 1 c := by obtain ⟨_, g, c, _, e, _⟩ := hx; exact ⟨g, c, e⟩
  clear h hx hck
  go_enter Try.func7, Try.ntmps7
  go_wp2_with fail
  refine (own_any G w).mono ?_
  rintro e w' ⟨rfl, rfl⟩
  go_wp2_with fail
  refine HCK.out.mono ?_
  rintro e w1 ⟨rfl, hb1⟩
  clear HCK
  have H1 := hid' (HH.out.on hb1)
  have X1 := hid' (HX.out.on hb1)
  have c1 := H1.out.cellsG.1
  have HSI := hid' H1.out.since
  clear c0
  go_wp2_with fail
  refine HSI.out.mono ?_
  rintro e w2 ⟨u, rfl, hu, hb2⟩
  clear HSI c1
  have HLE := hid' (le_one sx x u _ w2 hu (X1.out.on hb2) hle)
  have H2 := hid' (H1.out.on hb2)
  clear hu
  go_wp2_with fail
  refine HLE.out.mono ?_
  rintro e w3 ⟨rfl, hb3⟩
  clear HLE
  have H3 := hid' (H2.out.on hb3)
  have c3 := H3.out.cellsG.2.1
  obtain ⟨D, hown, hc, hk, hv⟩ := H3.out.mp
  have HOWN := hid' hown
  have hlt : ((Maps.size D : Nat) : Int) ≥ 64 := by rw [hc]; omega
  clear hown hc hk hv
  have HB := hid' ((hb1.trans (hb2.mono hb1.size)).trans (hb3.mono (hb1.trans (hb2.mono hb1.size)).size))
  clear hb1 hb2 hb3 H1 H2 X1 HH HX
  go_wp2_with (at_len; refine wpList_len_own _ rfl _ 40 rfl 3 32 Try.underlying40 heldR M nn D rfl HOWN.out ?_)
  go_ret2
  exact ⟨rfl, HB.out⟩

set_option maxRecDepth 10000 in
set_option maxHeartbeats 2000000 in
/-- Advance of the spine to one time. -/
theorem advance_any {w : World} {G S M nn : Nat} {ks : Int → Prop} {cnt : Nat} {f : Int → T} {nx : Nat} {sx : T} (h : St w G S M nn ks cnt f nx sx) (y : T) (v : Value) (hy : One y v w) (hck : checkT y = 0) (hle : le2 sx y = true) :
    Calls Try.prog 28 #[.pointer (some ⟨S, 0, none⟩), v] w fun e w' => e = .returned (.int .i64 0) ∧ St w' G S M nn ks cnt f nx y ∧ Kp G S M w w' := by
  have HH := hid' h
  have HY := hid' hy
  have HCK := hid' (check_one y v w hy hck)
  clear h hy hck
  go_enter Try.func28, Try.ntmps28
  go_wp2_with fail
  refine HCK.out.mono ?_
  rintro e w1 ⟨rfl, hb1⟩
  clear HCK
  have H1 := hid' (HH.out.on hb1)
  have Y1 := hid' (HY.out.on hb1)
  obtain ⟨sv, hS, hone⟩ := H1.out.sp
  have c1 : w1.cell? ⟨S, 2, none⟩ = some sv := by rw [cell_of_row _ _ _ _ _ _ hS]; rfl
  have HLE := hid' (le_one sx y sv v w1 hone Y1.out hle)
  clear hS hone
  go_wp2_with fail
  refine HLE.out.mono ?_
  rintro e w2 ⟨rfl, hb2⟩
  clear HLE c1
  have H2 := hid' (H1.out.on hb2)
  have HCL := hid' (clone_one y v w2 (Y1.out.on hb2))
  go_wp2_with fail
  refine HCL.out.mono ?_
  rintro e w3 ⟨u, rfl, hu, hb3⟩
  clear HCL
  have H3 := hid' (H2.out.on hb3)
  obtain ⟨sv3, hS3, hone3⟩ := H3.out.sp
  have f3 : w3.frozen? ⟨S, 2, none⟩ = false := by simp [World.frozen?, hS3]
  have c3 : w3.cell? ⟨S, 2, none⟩ = some sv3 := by rw [cell_of_row _ _ _ _ _ _ hS3]; rfl
  have HU := hid' hu
  have HB := hid' ((hb1.trans (hb2.mono hb1.size)).trans (hb3.mono (hb1.trans (hb2.mono hb1.size)).size))
  obtain ⟨gu, cu, eu⟩ : ∃ g c, u = .slice (some ⟨g, 0, none⟩) 1 c := by obtain ⟨_, g, c, _, e, _⟩ := hu; exact ⟨g, c, e⟩
  subst eu
  clear hb1 hb2 hb3 hu hone3 hS3 H1 H2 HH HY Y1
  go_wp2
  go_ret
  exact ⟨rfl, H3.out.move HU.out, (Kp.of_below HB.out).trans (Kp.set (.inr rfl) _)⟩

end Go.Proofs.Ytlamcgeboclkjaa
