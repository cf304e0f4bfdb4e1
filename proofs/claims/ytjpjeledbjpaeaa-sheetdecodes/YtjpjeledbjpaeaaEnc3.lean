/-
  What is proved here: Encode of the program; the page's example.
-/
import Derived.Test.YtjpjeledbjpaeaaEnc2
namespace Go.Proofs.Ytjpjeledbjpaeaa
open Go.RowKit Go.Proofs
set_option maxRecDepth 20000
set_option linter.unusedVariables false
set_option linter.unusedSimpArgs false

/-- The numbers of a node are such of 64 bits. -/
structure NdRng (x : Nd) : Prop where
  kind : R64 x.kind
  ins : ∀ z ∈ x.ins, R64 z
  kinds : ∀ z ∈ x.kinds, R64 z
  exprs : ∀ e ∈ x.exprs, ∀ t ∈ e, R64 t.1 ∧ R64 t.2.1
  cols : ∀ z ∈ x.cols, R64 z
  key : R64 x.key
  n : R64 x.n
  size : R64 x.size
  slide : R64 x.slide

structure PlRng (p : Pl) : Prop where
  nodes : ∀ x ∈ p.nodes, NdRng x
  outs : ∀ z ∈ p.outs, R64 z
  room : R64 p.room

theorem ndChk_zero {x : Nd} (h : ndChk x = 0) : ndMany x = false ∧ ndLong x = false := by
  unfold ndChk at h
  by_cases h1 : ndMany x = true
  · rw [if_pos h1] at h; omega
  · rw [if_neg h1] at h
    by_cases h2 : ndLong x = true
    · rw [if_pos h2] at h; omega
    · exact ⟨by simpa using h1, by simpa using h2⟩

theorem long_false {x : Nd} (h : ndLong x = false) : ∀ e ∈ x.exprs, ∀ t ∈ e, t.2.2.size ≤ 4096 := by
  intro e he t ht
  unfold ndLong at h
  rw [List.any_eq_false] at h
  have h1 := h e he
  unfold longT at h1
  rw [List.any_eq_true] at h1
  rcases Nat.lt_or_ge 4096 t.2.2.size with hh | hh
  · exact absurd ⟨t, ht, by unfold longS; simpa using hh⟩ h1
  · exact hh

theorem nodesChk_zero : ∀ {l : List Nd}, nodesChk l = 0 → ∀ x ∈ l, ndChk x = 0
  | [], _, x, hx => by simp at hx
  | y :: l, h, x, hx => by
    simp only [nodesChk] at h
    by_cases h0 : ndChk y = 0
    · rw [if_pos h0] at h
      rcases List.mem_cons.1 hx with rfl | hx
      · exact h0
      · exact nodesChk_zero h x hx
    · rw [if_neg h0] at h
      exact absurd h h0

theorem NdRng.ok {x : Nd} (h : NdRng x) (hc : ndChk x = 0) : NdOK x := by
  obtain ⟨h1, h2⟩ := ndChk_zero hc
  obtain ⟨a1, a2, a3, a4, a5⟩ := many_false h1
  exact ⟨h.kind, h.ins, h.kinds, fun e he => ⟨a5 e he, fun t ht => ⟨(h.exprs e he t ht).1, (h.exprs e he t ht).2, long_false h2 e he t ht⟩⟩, h.cols, h.key, h.n, h.size, h.slide, a1, a2, a3, a4⟩

theorem plChk_zero {p : Pl} (h : plChk p = 0) : p.nodes.length ≤ 64 ∧ p.outs.length ≤ 8 ∧ nodesChk p.nodes = 0 := by
  unfold plChk at h
  by_cases h1 : 64 < p.nodes.length ∨ 8 < p.outs.length
  · rw [if_pos h1] at h; omega
  · rw [if_neg h1] at h
    exact ⟨by omega, by omega, h⟩

theorem PlRng.ok {p : Pl} (h : PlRng p) (hc : plChk p = 0) : PlOK p := by
  obtain ⟨h1, h2, h3⟩ := plChk_zero hc
  exact ⟨fun x hx => (h.nodes x hx).ok (nodesChk_zero h3 x hx), h1, h2, h.outs, h.room⟩

theorem Own.base {base base' : Nat} {w : World} {v : Value} {l : List Int} (h : Own base w v l) (hb : base' ≤ base) : Own base' w v l := by
  refine ⟨h.1, ?_⟩
  rcases h.2 with h | ⟨g, cap, cur, h1, h2, h3⟩
  · exact .inl h
  · exact .inr ⟨g, cap, cur, h1, by omega, h3⟩

/-- What Encode answers. -/
def EncAns (p : Pl) (w : World) (e : Ending) (w' : World) : Prop :=
  (plChk p ≠ 0 ∧ e = .returned (.tuple #[.slice none 0 0, .int .i64 (plChk p)]) ∧ Below w.heap.size w w') ∨
  (plChk p = 0 ∧ ∃ v, e = .returned (.tuple #[v, .int .i64 0]) ∧ Own w.heap.size w' v (planB p) ∧ Below w.heap.size w w')

set_option maxHeartbeats 4000000 in
theorem Encode_any (w : World) (p : Pl) (s : PlS) (hp : PlR w.heap.size w p s) (hr : PlRng p) :
    Calls Try.prog 8 #[plV p s] w (EncAns p w) := by
  have G0 := hid' ((Gr.refl w).alloc (plObj p s))
  have BX := hid' (PlB.new w p s)
  have HX := hid' hp
  have HC := hid' (Check_any _ p s (hp.gr G0.out))
  have HR := hid' hr
  clear hp hr
  unfold plObj at G0 BX HC
  unfold plV at HC ⊢
  by_cases hc : plChk p = 0
  · have OK := hid' (HR.out.ok hc)
    rw [hc] at HC
    have HA : Hid (∀ (base : Nat) v w1 w', Own base w' v (([80] ++ oneB p.room) ++ listB oneB p.outs ++ listB nodeB p.nodes) → w.heap.size ≤ base → Below w.heap.size w w1 → Below w.heap.size w1 w' → EncAns p w (.returned (.tuple #[v, .int .i64 0])) w') := fun base v w1 w' h hb h1 h2 => .inr ⟨hc, v, rfl, (by
      simp only [List.append_assoc] at h
      exact h.base hb), h1.trans h2⟩
    have hl := len_plan OK.out
    unfold planB numsB nodesB at hl
    have hl : _ ≤ 1000000000 := Nat.le_trans hl (by omega)
    have HL1 := hid' (len_left hl)
    rw [← List.append_assoc] at hl
    have HL2 := hid' (len_left hl)
    rw [← List.append_assoc] at hl
    have HL3 := hid' hl
    clear hl hc
    go_enter Try.func8, Try.ntmps8
    go_wp2_with fail
    refine HC.out.mono ?_
    rintro e w1 ⟨rfl, hg⟩
    have BX1 := hid' (BX.out.gr hg)
    have G1 := hid' (G0.out.trans hg)
    have HX1 := hid' (HX.out.gr G1.out)
    have O := hid' (owns_lit_one w1 w1.heap.size (Nat.le_refl _) 80)
    have K := hid' ((Kb.refl w1.heap.size w1).alloc (Obj.cells #[.int .u8 80] 5))
    have c2 := (BX1.out.below ((Below.refl _ _).alloc (Nat.le_refl _) (Obj.cells #[.int .u8 80] 5))).k2
    clear hg BX G0 HX HC
    go_wp2_with fail
    refine (putNumber_any w1.heap.size _ _ [80] p.room K.out.size O.out OK.out.room HL1.out).mono ?_
    rintro e w2 ⟨v2, rfl, o2, k2⟩
    replace K := hid' (K.out.trans k2)
    replace O := hid' o2
    have c1 := (BX1.out.below (K.out.below (Nat.le_refl _))).k1
    clear k2 o2 c2
    go_wp2_with fail
    refine (putNumbers_any w1.heap.size _ _ _ s.a2 s.c2 p.outs K.out.size O.out (HX1.out.outs.keep (K.out.below (Nat.le_refl _))) ⟨(by have := OK.out.m2; omega), OK.out.outs⟩ HL2.out).mono ?_
    rintro e w3 ⟨v3, rfl, o3, k3⟩
    replace K := hid' (K.out.trans k3)
    replace O := hid' o3
    have c0 := (BX1.out.below (K.out.below (Nat.le_refl _))).k0
    clear k3 o3 c1
    go_wp2_with fail
    refine (putNodes_any w1.heap.size _ _ _ s.a1 s.c1 p.nodes K.out.size O.out (HX1.out.nodes.keep (K.out.below (Nat.le_refl _))) OK.out.nodes HL3.out (by have := OK.out.m1; omega)).mono ?_
    rintro e w4 ⟨v4, rfl, o4, k4⟩
    replace K := hid' (K.out.trans k4)
    have HF := hid' (HA.out _ v4 w1 w4 o4 G1.out.below.size G1.out.below ((K.out.below (Nat.le_refl _)).mono G1.out.below.size))
    clear k4 o4 c0
    go_wp2
    go_ret2
    exact HF.out
  · have HA : Hid (∀ w', Below w.heap.size w w' → EncAns p w (.returned (.tuple #[.slice none 0 0, .int .i64 (plChk p)])) w') := fun w' h => .inl ⟨hc, rfl, h⟩
    have hne : (plChk p != 0) = true := by simpa using hc
    generalize plChk p = c at HC HA hne
    clear hc
    go_enter Try.func8, Try.ntmps8
    go_wp2_with fail
    refine HC.out.mono ?_
    rintro e w1 ⟨rfl, hg⟩
    have HF := hid' (HA.out w1 (G0.out.trans hg).below)
    go_wp2
    go_ret2
    exact HF.out

/-- The page's plan. -/
def lit : Pl := ⟨[n0], [0], 1⟩

theorem lit_bytes : planB lit = [80, 2, 1, 0, 1, 0, 0, 0, 0, 0, 0, 0, 0, 0] := by decide +kernel

theorem lit_rng : PlRng lit := by
  refine ⟨fun x hx => ?_, fun z hz => ?_, by unfold R64 lit; simp⟩
  · simp [lit] at hx
    subst hx
    constructor <;> simp [n0, R64]
  · simp [lit] at hz
    subst hz
    simp [R64]

theorem code_any' (n : Int) (w : World) : Calls Try.prog 10 #[.int .i64 n] w fun e w' => e = .returned (.int .i64 n) ∧ w' = w := code_any n w

theorem Own.bts {base : Nat} {w : World} {v : Value} {l : List Int} (h : Own base w v l) (hr : Byt l) (hne : l ≠ []) : ∃ g c, v = .slice (some ⟨g, 0, none⟩) l.length c ∧ l.length ≤ c ∧ Bts w.heap.size w (some ⟨g, 0, none⟩) l := by
  rcases h.2 with ⟨_, h0⟩ | ⟨g, cap, cur, rfl, _, _, hc, _⟩
  · exact absurd (List.eq_nil_of_length_eq_zero h0) hne
  · exact ⟨g, cap, rfl, hc, Bts.of_owns h hr⟩

set_option maxHeartbeats 4000000 in
theorem live_any (w : World) : Calls Try.prog 7 #[] w fun e w' => e = .returned (.bool true) ∧ Below w.heap.size w w' := by
  have G := hid' (((Gr.refl w).alloc (Obj.cells #[.int .i64 0] 3)).alloc (ndObj n0 ⟨none, 0, none, 0, none, 0, none, 0⟩))
  have R : Hid (PlR ((w.alloc (Obj.cells #[.int .i64 0] 3)).alloc (ndObj n0 ⟨none, 0, none, 0, none, 0, none, 0⟩)).heap.size ((w.alloc (Obj.cells #[.int .i64 0] 3)).alloc (ndObj n0 ⟨none, 0, none, 0, none, 0, none, 0⟩)) lit ⟨some ⟨w.heap.size + 1, 0, none⟩, 1, some ⟨w.heap.size, 0, none⟩, 1⟩) := by
    refine ⟨⟨fun _ => ⟨w.heap.size + 1, 0, rfl, by simp, fun i hi => ?_⟩⟩, ⟨fun _ => ⟨w.heap.size, 0, rfl, by simp; omega, fun i hi => ?_⟩⟩⟩
    · obtain rfl : i = 0 := by simp [lit] at hi; omega
      refine ⟨⟨none, 0, none, 0, none, 0, none, 0⟩, ?_, ⟨Ns.nil _ _ _, Ns.nil _ _ _, Es.nil _ _ _, Ns.nil _ _ _⟩⟩
      have hh := NdB.new (w.alloc (Obj.cells #[.int .i64 0] 3)) n0 ⟨none, 0, none, 0, none, 0, none, 0⟩
      rw [sz1] at hh
      obtain ⟨p0, p1, p2, p3, p4, p5, p6, p7, p8, _⟩ := hh
      simp only [lit, List.getD_cons_zero]
      constructor <;> simp only [Nat.zero_add, Nat.zero_mul] <;> assumption
    · obtain rfl : i = 0 := by simp [lit] at hi; omega
      rw [World.cell?_alloc_old _ _ _ (by simp)]
      simp [lit]
  have H := hid' (Encode_any _ lit _ R.out lit_rng)
  unfold plV ndObj at H
  unfold ndObj at G
  simp only [lit, n0, List.length_nil, List.length_cons, Nat.zero_add] at H G
  have E0 : plChk lit = 0 := by decide +kernel
  rw [show ({ nodes := [{ kind := 0, ins := [], kinds := [], exprs := [], cols := [], key := 0, n := 0, size := 0, slide := 0 }], outs := [0], room := 1 } : Pl) = lit from rfl] at H
  clear R
  go_enter Try.func7, Try.ntmps7
  go_wp2_with fail
  refine H.out.mono ?_
  rintro e w1 (⟨h, _⟩ | ⟨_, v, rfl, ho, hb⟩)
  · exact absurd E0 h
  · rw [lit_bytes] at ho
    obtain ⟨g, c, rfl, _, hbt⟩ := ho.bts (by rw [← lit_bytes]; exact byt_plan _) (by simp)
    have hcv := hbt.conv 14 c (by rfl)
    have hst : strOfNums [80, 2, 1, 0, 1, 0, 0, 0, 0, 0, 0, 0, 0, 0] = ⟨#[80, 2, 1, 0, 1, 0, 0, 0, 0, 0, 0, 0, 0, 0]⟩ := by decide +kernel
    rw [hst] at hcv
    have HB := hid' (G.out.below.trans (hb.mono G.out.below.size))
    simp only [List.length_cons, List.length_nil, Nat.zero_add, Nat.reduceAdd]
    clear hbt ho hb H E0
    go_wp2_with fail
    refine (code_any 0 w1).mono ?_
    rintro e w3 ⟨rfl, rfl⟩
    go_wp2
    go_ret
    exact ⟨rfl, HB.out⟩

end Go.Proofs.Ytjpjeledbjpaeaa
