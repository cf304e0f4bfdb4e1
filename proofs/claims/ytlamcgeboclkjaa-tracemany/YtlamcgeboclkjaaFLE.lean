/-
  What is proved here: LessEq of two lists of times, of the program and of the document.
-/
import Derived.Test.YtlamcgeboclkjaaEq
namespace Go.Proofs.Ytlamcgeboclkjaa
open Go.RowKit Go.Proofs
set_option linter.unusedVariables false
set_option linter.unusedSimpArgs false

set_option maxRecDepth 100000 in
set_option maxHeartbeats 1000000 in
theorem all_any (w : World) (a : Option Addr) (cap p : Nat) (l : List T) (q : T → Bool) (h : Ts w.heap.size w a l) (hl : l.length < 4611686018427387904)
    (hp : ∀ W (x : T), Gr w W → Calls Try.prog 27 #[.pointer (some ⟨p, 0, none⟩), .agg #[.int .i64 x.1, .int .i64 x.2]] W fun e W' => e = .returned (.bool (q x)) ∧ Gr W W') :
    Calls Try.prog 26 #[.slice a l.length cap, .func (.func 27) #[.pointer (some ⟨p, 0, none⟩)] #[]] w fun e w' => ∃ b : Bool, e = .returned (.bool b) ∧ (b = true ↔ ∀ x ∈ l, q x = true) ∧ Gr w w' := by
  obtain ⟨n, hn⟩ : ∃ n, l.length = n := ⟨_, rfl⟩
  have HN := hid' hn
  have HTS := hid' h
  have HP := hid' hp
  rw [hn] at hl ⊢
  clear hn h hp
  go_enter Try.func26, Try.ntmps26
  go_wp2
  go_loopg [9] n (fun k i wr => ∃ j : Nat, j + k = n ∧ i = .int .i64 (j : Int) ∧ Hid (∀ x ∈ l.take j, q x = true) ∧ Gr w wr)
  case atStart => exact ⟨0, by omega, rfl, fun x hx => by simp at hx, Gr.refl _⟩
  case round =>
    obtain ⟨j, hj, rfl, hyes, hg⟩ := hrel
    cases gk with
    | zero =>
      obtain rfl : j = n := by omega
      go_wp2
      go_ret
      exact ⟨true, rfl, ⟨fun _ x hx => hyes.out x (by rw [List.take_of_length_le (Nat.le_of_eq HN.out)]; exact hx), fun _ => rfl⟩, hg⟩
    | succ k =>
      have hjl : j < l.length := by rw [HN.out]; omega
      have HTR := hid' (HTS.out.gr hg)
      obtain ⟨b, off, rfl, hB, hc⟩ := HTR.out.cells (by rintro rfl; simp at hjl)
      have p1 := (hc j hjl).1
      have p2 := (hc j hjl).2
      have HX : Hid (l.take (j + 1) = l.take j ++ [l.getD j (0, 0)] ∧ l.getD j (0, 0) ∈ l) := ⟨by rw [List.take_add_one]; simp [List.getD, List.getElem?_eq_getElem hjl], getD_mem hjl⟩
      have HC := hid' (fun W hW => HP.out W (l.getD j (0, 0)) hW)
      generalize l.getD j (0, 0) = x at p1 p2 HX HC
      obtain ⟨x1, x2⟩ := x
      obtain ⟨qb, hqb⟩ : ∃ qb, q (x1, x2) = qb := ⟨_, rfl⟩
      rw [hqb] at HC
      have HQ := hid' hqb
      simp only at HC
      clear hc hqb hjl
      have hga : Gr w (wr.alloc (.cells #[.int .i64 x1, .int .i64 x2] 31)) := hg.alloc _
      go_wp2_with fail
      refine (HC.out _ hga).mono ?_
      clear HC
      rintro e w2 ⟨rfl, hg2⟩
      cases qb with
      | false =>
        go_wp2
        go_ret
        exact ⟨false, rfl, ⟨fun h => (by cases h), fun h => by have := h _ HX.out.2; rw [HQ.out] at this; cases this⟩, hga.trans hg2⟩
      | true =>
        have HN2 : Hid (∀ x ∈ l.take (j + 1), q x = true) := fun x hx => by
          rw [HX.out.1] at hx
          rcases List.mem_append.1 hx with hx | hx
          · exact hyes.out x hx
          · simp at hx; subst hx; exact HQ.out
        go_wp2
        go_roundg k
        case measure => omega
        case rel => exact ⟨j + 1, by omega, by simp, HN2, hga.trans hg2⟩

/-- Each of g is in advance of f. -/
def leT (f g : List T) : Prop := ∀ y ∈ g, Adv f y

set_option maxRecDepth 100000 in
set_option maxHeartbeats 1000000 in
theorem FLE_any (w : World) (f g : List T) (u v : Value) (hu : IsL f u w) (hv : IsL g v w) (hf : f.length ≤ 1000000000) (hg : g.length ≤ 1000000000) :
    Calls Try.prog 16 #[u, v] w fun e w' => ∃ b : Bool, e = .returned (.bool b) ∧ (b = true ↔ leT f g) ∧ Below w.heap.size w w' := by
  have H1 := hid' (new_L w f u hu hf)
  have HV := hid' hv
  clear hu hv
  go_enter Try.func16, Try.ntmps16
  go_wp2_with fail
  refine H1.out.mono ?_
  rintro e w1 ⟨u1, s, rfl, hst, hsl, hs, hb1⟩
  have hb2 : Below w1.heap.size w1 (w1.alloc (.cells #[u1] 60)) := (Below.refl _ w1).alloc (Nat.le_refl _) _
  have HIF : Hid ((∀ y ∈ g, stepAhead s y = true) ↔ leT f g) := by
    unfold Hid leT
    constructor
    · intro h y hy; exact (hst.adv y).1 ((stepAhead_iff hst.st y).1 (h y hy))
    · intro h y hy; exact (stepAhead_iff hst.st y).2 ((hst.adv y).2 (h y hy))
  have HALL : Hid (Calls Try.prog 26 #[v, .func (.func 27) #[.pointer (some ⟨w1.heap.size, 0, none⟩)] #[]] (w1.alloc (.cells #[u1] 60)) fun e w' => ∃ b : Bool, e = .returned (.bool b) ∧ (b = true ↔ ∀ x ∈ g, stepAhead s x = true) ∧ Gr (w1.alloc (.cells #[u1] 60)) w') := by
    obtain ⟨av, cv, rfl, _, _, htv⟩ := (HV.out.on hb1).on hb2
    obtain ⟨as1, cs, rfl, _, _, hts⟩ := hs
    refine all_any _ av cv w1.heap.size g (stepAhead s) htv (by omega) (fun W x hW => ?_)
    have hW1 : Below w1.heap.size w1 W := hb2.trans (hW.below.mono hb2.size)
    refine ahead_any W w1.heap.size as1 cs s x ?_ (hts.on hW1) ?_ hst.st.rise (by omega)
    · refine (hW.below.cell (p := ⟨w1.heap.size, 0, none⟩) (by simp)).trans ?_
      rw [cell_of_row _ _ _ _ _ _ (World.alloc_heap_new w1 _)]; rfl
    · have := hW.below.size; simp at this; omega
  obtain ⟨as1, cs, rfl, _, _, hts⟩ := hs
  clear hts hst H1 HV
  go_wp2_with fail
  refine HALL.out.mono ?_
  clear HALL
  rintro e w2 ⟨b, rfl, hb, hg2⟩
  have HB := hid' (hb.trans HIF.out)
  clear hb HIF
  go_wp2
  go_ret
  exact ⟨b, rfl, HB.out, (hb1.trans (hb2.mono hb1.size)).trans (hg2.below.mono (hb1.trans (hb2.mono hb1.size)).size)⟩

end Go.Proofs.Ytlamcgeboclkjaa
