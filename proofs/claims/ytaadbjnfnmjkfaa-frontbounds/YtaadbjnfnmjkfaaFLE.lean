/-
  What is proved here: LessEq of two lists of times, of the program and of the document.
-/
import Derived.Test.YtaadbjnfnmjkfaaRNew
namespace Go.Proofs.Ytaadbjnfnmjkfaa
open Go.RowKit Go.Proofs
set_option linter.unusedVariables false
set_option linter.unusedSimpArgs false

set_option maxHeartbeats 1000000 in
theorem all_any (w : World) (a : Option Addr) (cap p : Nat) (l : List T) (q : T → Bool) (h : Ts w.heap.size w a l) (hl : l.length < 4611686018427387904)
    (hp : ∀ W (x : T), Gr w W → Calls Try.prog 29 #[.pointer (some ⟨p, 0, none⟩), .agg #[.int .i64 x.1, .int .i64 x.2]] W fun e W' => e = .returned (.bool (q x)) ∧ Gr W W') :
    Calls Try.prog 36 #[.slice a l.length cap, .func (.func 29) #[.pointer (some ⟨p, 0, none⟩)] #[]] w fun e w' => ∃ b : Bool, e = .returned (.bool b) ∧ (b = true ↔ ∀ x ∈ l, q x = true) ∧ Gr w w' := by
  obtain ⟨n, hn⟩ : ∃ n, l.length = n := ⟨_, rfl⟩
  have HN := hid' hn
  have HTS := hid' h
  have HP := hid' hp
  rw [hn] at hl ⊢
  clear hn h hp
  go_enter Try.func36, Try.ntmps36
  go_wp2
  go_loopg [9] n (fun k i wr => ∃ j : Nat, j + k = n ∧ i = .int .i64 (j : Int) ∧ Hid (∀ x ∈ l.take j, q x = true) ∧ Gr w wr)
  case atStart => exact ⟨0, by omega, rfl, fun x hx => by simp at hx, Gr.refl _⟩
  case round =>
    obtain ⟨j, hj, rfl, hyes, hg⟩ := hrel
    cases gk with
    | zero =>
      obtain rfl : j = n := by omega
      go_wp2
      go_ret
      exact ⟨true, rfl, ⟨fun _ x hx => hyes.out x (by rw [List.take_of_length_le (Nat.le_of_eq HN.out)]; exact hx), fun _ => rfl⟩, hg⟩
    | succ k =>
      have hjl : j < l.length := by rw [HN.out]; omega
      have HTR := hid' (HTS.out.gr hg)
      obtain ⟨b, off, rfl, hB, hc⟩ := HTR.out.cells (by rintro rfl; simp at hjl)
      have p1 := (hc j hjl).1
      have p2 := (hc j hjl).2
      have HX : Hid (l.take (j + 1) = l.take j ++ [l.getD j (0, 0)] ∧ l.getD j (0, 0) ∈ l) := ⟨by rw [List.take_add_one]; simp [List.getD, List.getElem?_eq_getElem hjl], getD_mem hjl⟩
      have HC := hid' (fun W hW => HP.out W (l.getD j (0, 0)) hW)
      generalize l.getD j (0, 0) = x at p1 p2 HX HC
      obtain ⟨x1, x2⟩ := x
      obtain ⟨qb, hqb⟩ : ∃ qb, q (x1, x2) = qb := ⟨_, rfl⟩
      rw [hqb] at HC
      have HQ := hid' hqb
      simp only at HC
      clear hc hqb hjl
      have hga : Gr w (wr.alloc (.cells #[.int .i64 x1, .int .i64 x2] 32)) := hg.alloc _
      go_wp2_with fail
      refine (HC.out _ hga).mono ?_
      clear HC
      rintro e w2 ⟨rfl, hg2⟩
      cases qb with
      | false =>
        go_wp2
        go_ret
        exact ⟨false, rfl, ⟨fun h => (by cases h), fun h => by have := h _ HX.out.2; rw [HQ.out] at this; cases this⟩, hga.trans hg2⟩
      | true =>
        have HN2 : Hid (∀ x ∈ l.take (j + 1), q x = true) := fun x hx => by
          rw [HX.out.1] at hx
          rcases List.mem_append.1 hx with hx | hx
          · exact hyes.out x hx
          · simp at hx; subst hx; exact HQ.out
        go_wp2
        go_roundg k
        case measure => omega
        case rel => exact ⟨j + 1, by omega, by simp, HN2, hga.trans hg2⟩

/-- Each of g is in advance of f. -/
def leT (f g : List T) : Prop := ∀ y ∈ g, Adv f y

set_option maxHeartbeats 1000000 in
theorem FLE_any (w : World) (f g : List T) (u v : Value) (hu : IsL f u w) (hv : IsL g v w) (hf : f.length ≤ 1000000000) (hg : g.length ≤ 1000000000) :
    Calls Try.prog 17 #[u, v] w fun e w' => ∃ b : Bool, e = .returned (.bool b) ∧ (b = true ↔ leT f g) ∧ Below w.heap.size w w' := by
  have H1 := hid' (new_L w f u hu hf)
  have HV := hid' hv
  clear hu hv
  go_enter Try.func17, Try.ntmps17
  go_wp2_with fail
  refine H1.out.mono ?_
  rintro e w1 ⟨u1, s, rfl, hst, hsl, hs, hb1⟩
  have hb2 : Below w1.heap.size w1 (w1.alloc (.cells #[u1] 41)) := (Below.refl _ w1).alloc (Nat.le_refl _) _
  have HIF : Hid ((∀ y ∈ g, stepAhead s y = true) ↔ leT f g) := by
    unfold Hid leT
    constructor
    · intro h y hy; exact (hst.adv y).1 ((stepAhead_iff hst.st y).1 (h y hy))
    · intro h y hy; exact (stepAhead_iff hst.st y).2 ((hst.adv y).2 (h y hy))
  have HALL : Hid (Calls Try.prog 36 #[v, .func (.func 29) #[.pointer (some ⟨w1.heap.size, 0, none⟩)] #[]] (w1.alloc (.cells #[u1] 41)) fun e w' => ∃ b : Bool, e = .returned (.bool b) ∧ (b = true ↔ ∀ x ∈ g, stepAhead s x = true) ∧ Gr (w1.alloc (.cells #[u1] 41)) w') := by
    obtain ⟨av, cv, rfl, _, _, htv⟩ := (HV.out.on hb1).on hb2
    obtain ⟨as1, cs, rfl, _, _, hts⟩ := hs
    refine all_any _ av cv w1.heap.size g (stepAhead s) htv (by omega) (fun W x hW => ?_)
    have hW1 : Below w1.heap.size w1 W := hb2.trans (hW.below.mono hb2.size)
    refine ahead_any W w1.heap.size as1 cs s x ?_ (hts.on hW1) ?_ hst.st.rise (by omega)
    · refine (hW.below.cell (p := ⟨w1.heap.size, 0, none⟩) (by simp)).trans ?_
      rw [cell_of_row _ _ _ _ _ _ (World.alloc_heap_new w1 _)]; rfl
    · have := hW.below.size; simp at this; omega
  obtain ⟨as1, cs, rfl, _, _, hts⟩ := hs
  clear hts hst H1 HV
  go_wp2_with fail
  refine HALL.out.mono ?_
  clear HALL
  rintro e w2 ⟨b, rfl, hb, hg2⟩
  have HB := hid' (hb.trans HIF.out)
  clear hb HIF
  go_wp2
  go_ret
  exact ⟨b, rfl, HB.out, (hb1.trans (hb2.mono hb1.size)).trans (hg2.below.mono (hb1.trans (hb2.mono hb1.size)).size)⟩

set_option maxHeartbeats 1000000 in
theorem rFLE_any (w : World) (f g : List T) (a b : Option Addr) (ca cb : Nat) (hu : IsL f (.slice a f.length ca) w) (hv : IsL g (.slice b g.length cb) w) (hf : f.length ≤ 1000000000) (hgl : g.length ≤ 1000000000) :
    Calls Try.prog 18 #[.slice a f.length ca, .slice b g.length cb] w fun e w' => ∃ b : Bool, e = .returned (.bool b) ∧ (b = true ↔ leT f g) ∧ Below w.heap.size w w' := by
  obtain ⟨n, hn⟩ : ∃ n, g.length = n := ⟨_, rfl⟩
  have HN := hid' hn
  rw [hn] at hgl hv ⊢
  have HV := hid' hv
  have HU := hid' hu
  clear hn hv hu
  go_enter Try.func18, Try.ntmps18
  go_wp2
  go_loopg [5] n (fun k i wr => ∃ j : Nat, j + k = n ∧ i = .int .i64 (j : Int) ∧ Hid (∀ y ∈ g.take j, Adv f y) ∧ Hid (Below w.heap.size w wr))
  case atStart => exact ⟨0, by omega, rfl, fun x hx => by simp at hx, Below.refl _ _⟩
  case round =>
    obtain ⟨j, hj, rfl, hyes, hbel⟩ := hrel
    cases gk with
    | zero =>
      obtain rfl : j = n := by omega
      go_wp2
      go_ret
      exact ⟨true, rfl, ⟨fun _ x hx => hyes.out x (by rw [List.take_of_length_le (Nat.le_of_eq HN.out)]; exact hx), fun _ => rfl⟩, hbel.out⟩
    | succ k =>
      have hjl : j < g.length := by rw [HN.out]; omega
      have hU1 : IsL f (.slice a f.length ca) wr := by obtain ⟨a', c', e, h1, h2, h3⟩ := HU.out; exact ⟨a', c', e, h1, h2, (h3.keep hbel.out).mono hbel.out.size⟩
      obtain ⟨a', cap', e1, hcap, hsl, hts⟩ := HV.out
      simp at e1
      obtain ⟨rfl, -, rfl⟩ := e1
      obtain ⟨bb, off, rfl, hBb, hc⟩ := hts.cells (by rintro rfl; simp at hjl)
      have p1 := (hbel.out.cell (p := ⟨bb, off + j * 2, none⟩) hBb).trans (hc j hjl).1
      have p2 := (hbel.out.cell (p := ⟨bb, off + j * 2 + 1, none⟩) hBb).trans (hc j hjl).2
      have HX : Hid (g.take (j + 1) = g.take j ++ [g.getD j (0, 0)] ∧ g.getD j (0, 0) ∈ g) := ⟨by rw [List.take_add_one]; simp [List.getD, List.getElem?_eq_getElem hjl], getD_mem hjl⟩
      have HC := hid' (rAhead_newB f (g.getD j (0, 0)) _ wr hU1 (by omega))
      have HAV := hid' (advB_iff f (g.getD j (0, 0)))
      generalize g.getD j (0, 0) = x at p1 p2 HX HC HAV
      obtain ⟨x1, x2⟩ := x
      generalize advB f (x1, x2) = ab at HC HAV
      simp only at p1 p2 HC
      clear hc hts hsl hcap hjl hU1
      go_wp2_with fail
      refine HC.out.mono ?_
      rintro e w2 ⟨v2, rfl, hb2, hv2⟩
      obtain rfl : v2 = .bool ab := hv2
      have HB2 : Hid (Below w.heap.size w w2) := hbel.out.trans (hb2.mono hbel.out.size)
      clear HC hb2 p1 p2
      cases ab with
      | false =>
        go_wp2
        go_ret
        exact ⟨false, rfl, ⟨fun h => (by cases h), fun h => HAV.out.2 (h _ HX.out.2)⟩, HB2.out⟩
      | true =>
        have HN2 : Hid (∀ y ∈ g.take (j + 1), Adv f y) := fun y hy => by
          rw [HX.out.1] at hy
          rcases List.mem_append.1 hy with hy | hy
          · exact hyes.out y hy
          · simp at hy; subst hy; exact HAV.out.1 rfl
        go_wp2
        go_roundg k
        case measure => omega
        case rel => exact ⟨j + 1, by omega, by simp, HN2, HB2⟩

theorem rFLE_L (w : World) (f g : List T) (u v : Value) (hu : IsL f u w) (hv : IsL g v w) (hf : f.length ≤ 1000000000) (hg : g.length ≤ 1000000000) :
    Calls Try.prog 18 #[u, v] w fun e w' => ∃ b : Bool, e = .returned (.bool b) ∧ (b = true ↔ leT f g) ∧ Below w.heap.size w w' := by
  have h1 := hu
  have h2 := hv
  obtain ⟨a, c, rfl, _⟩ := hu
  obtain ⟨a', c', rfl, _⟩ := hv
  exact rFLE_any w f g a a' c c' h1 h2 hf hg

end Go.Proofs.Ytaadbjnfnmjkfaa
