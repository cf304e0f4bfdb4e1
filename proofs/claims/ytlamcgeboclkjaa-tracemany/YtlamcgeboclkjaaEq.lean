/-
  What is proved here: slices.Equal of times; Same and Check of the program.
-/
import Derived.Test.YtlamcgeboclkjaaAid
namespace Go.Proofs.Ytlamcgeboclkjaa
open Go.RowKit Go.Proofs
set_option linter.unusedVariables false
set_option linter.unusedSimpArgs false

set_option maxRecDepth 100000 in
set_option maxHeartbeats 2000000 in
theorem equal_any (w : World) (a b : Option Addr) (ca cb : Nat) (l r : List T) (ha : Ts w.heap.size w a l) (hb : Ts w.heap.size w b r) (hl : l.length < 4611686018427387904) (hr : r.length < 4611686018427387904) :
    Calls Try.prog 24 #[.slice a l.length ca, .slice b r.length cb] w fun e w' => e = .returned (.bool (decide (l = r))) ∧ Gr w w' := by
  by_cases hlen : l.length = r.length
  · generalize hd : decide (l = r) = d
    have HD := hid' hd
    clear hd
    obtain ⟨n, hn⟩ : ∃ n, l.length = n := ⟨_, rfl⟩
    rw [← hlen, hn]
    rw [hn] at hl hlen
    have HL := hid' hn
    have HR := hid' hlen
    clear hn hlen
    go_enter Try.func24, Try.ntmps24
    go_wp2
    go_loopg [13] n (fun k i wr => ∃ j : Nat, j + k = n ∧ i = .int .i64 (j : Int) ∧ l.take j = r.take j ∧ Gr w wr)
    case atStart => exact ⟨0, by omega, rfl, by simp, Gr.refl _⟩
    case round =>
      obtain ⟨j, hj, rfl, ht, hg⟩ := hrel
      have HT := hid' ht
      clear ht
      cases gk with
      | zero =>
        obtain rfl : j = n := by omega
        have hlr : Hid (l = r) := by
          have h := HT.out
          rw [List.take_of_length_le (Nat.le_of_eq HL.out), List.take_of_length_le (Nat.le_of_eq HR.out.symm)] at h
          exact h
        go_wp2
        go_ret
        refine ⟨congrArg (fun z => Ending.returned (Value.bool z)) ?_, hg⟩
        rw [← HD.out, hlr.out]; simp
      | succ k =>
        have hjl : j < l.length := by rw [HL.out]; omega
        have hjr : j < r.length := by rw [← HR.out]; omega
        obtain ⟨b1, o1, rfl, hB1, hc1⟩ := ha.cells (by rintro rfl; simp at hjl)
        obtain ⟨b2, o2, rfl, hB2, hc2⟩ := hb.cells (by rintro rfl; simp at hjr)
        have p1 := (hg.below.cell (p := ⟨b1, o1 + j * 2, none⟩) hB1).trans (hc1 j hjl).1
        have p2 := (hg.below.cell (p := ⟨b1, o1 + j * 2 + 1, none⟩) hB1).trans (hc1 j hjl).2
        have q1 := (hg.below.cell (p := ⟨b2, o2 + j * 2, none⟩) hB2).trans (hc2 j hjr).1
        have q2 := (hg.below.cell (p := ⟨b2, o2 + j * 2 + 1, none⟩) hB2).trans (hc2 j hjr).2
        have HS := hid' (fun he => take_step HT.out hjl hjr he)
        have HE := hid' (show l = r → l.getD j (0, 0) = r.getD j (0, 0) from fun h => by rw [h])
        generalize l.getD j (0, 0) = x at p1 p2 HS HE
        generalize r.getD j (0, 0) = y at q1 q2 HS HE
        obtain ⟨x1, x2⟩ := x
        obtain ⟨y1, y2⟩ := y
        clear hc1 hc2 ha hb hjl hjr
        by_cases e1 : x1 = y1
        · subst e1
          by_cases e2 : x2 = y2
          · subst e2
            go_wp2_with fail
            go_quiet (fail)
            go_wp2
            go_roundg k
            case measure => omega
            case rel => exact ⟨j + 1, by omega, by simp, (by first | exact HS.out rfl | exact HS.out trivial), hg.drewN _⟩
          · go_wp2_with fail
            go_quiet (fail)
            go_wp2
            go_ret
            refine ⟨congrArg (fun z => Ending.returned (Value.bool z)) ?_, hg.drewN _⟩
            rw [← HD.out]; simp; intro h; have := HE.out h; simp at this; exact e2 this
        · go_wp2_with fail
          go_quiet (fail)
          go_wp2
          go_ret
          refine ⟨congrArg (fun z => Ending.returned (Value.bool z)) ?_, hg.drewN _⟩
          rw [← HD.out]; simp; intro h; have := HE.out h; simp at this; exact e1 this.1
  · go_enter Try.func24, Try.ntmps24
    go_wp2
    go_ret
    exact ⟨by simp; intro h; exact hlen (by rw [h]), Gr.refl _⟩

set_option maxRecDepth 100000 in
theorem equal_L (w : World) (l r : List T) (u v : Value) (hu : IsL l u w) (hv : IsL r v w) (hl : l.length ≤ 1000000000) (hr : r.length ≤ 1000000000) :
    Calls Try.prog 24 #[u, v] w fun e w' => e = .returned (.bool (decide (l = r))) ∧ Below w.heap.size w w' := by
  obtain ⟨a, c, rfl, _, _, ht⟩ := hu
  obtain ⟨a', c', rfl, _, _, ht'⟩ := hv
  exact (equal_any w a a' c c' l r ht ht' (by omega) (by omega)).mono fun e w' ⟨he, hg⟩ => ⟨he, hg.below⟩

set_option maxRecDepth 100000 in
theorem same_L (w : World) (l r : List T) (u v : Value) (hu : IsL l u w) (hv : IsL r v w) (hl : l.length ≤ 1000000000) (hr : r.length ≤ 1000000000) :
    Calls Try.prog 13 #[u, v] w fun e w' => e = .returned (.bool (decide (l = r))) ∧ Below w.heap.size w w' := by
  obtain ⟨a, c, rfl, _, _, ht⟩ := hu
  obtain ⟨a', c', rfl, _, _, ht'⟩ := hv
  exact (same_any w a a' c c' l r ht ht' (by omega) (by omega)).mono fun e w' ⟨he, hg⟩ => ⟨he, hg.below⟩

set_option maxRecDepth 100000 in
theorem new_L (w : World) (l : List T) (v : Value) (h : IsL l v w) (hl : l.length ≤ 1000000000) : Calls Try.prog 25 #[v] w fun e w' => ∃ u f, e = .returned u ∧ StepsOf l f ∧ f.length ≤ l.length ∧ IsL f u w' ∧ Below w.heap.size w w' :=
  (new_newB l v w h hl).mono fun e w' ⟨u, he, hb, f, h1, h2, h3⟩ => ⟨u, f, he, h1, h2, h3, hb⟩

/-- Two lists have the same steps just if the same times are in advance of both. -/
def sameT (l r : List T) : Prop := ∀ t, Adv l t ↔ Adv r t

set_option maxRecDepth 100000 in
theorem steps_same {l r f g : List T} (hf : StepsOf l f) (hg : StepsOf r g) : f = g ↔ sameT l r := by
  constructor
  · intro e t
    rw [← hf.adv t, ← hg.adv t, e]
  · intro h; exact hf.eq hg h

/-- What Check answers. -/
def fcheckT (l : List T) (z : Int) : Prop := (1024 < l.length ∧ z = 3) ∨ (¬ 1024 < l.length ∧ (∃ x ∈ l, checkT x ≠ 0) ∧ z = 7) ∨ (¬ 1024 < l.length ∧ (∀ x ∈ l, checkT x = 0) ∧ ¬ StepsOf l l ∧ z = 6) ∨ (¬ 1024 < l.length ∧ (∀ x ∈ l, checkT x = 0) ∧ StepsOf l l ∧ z = 0)

set_option maxRecDepth 100000 in
theorem fcheckT_one {l : List T} {z z' : Int} (h : fcheckT l z) (h' : fcheckT l z') : z = z' := by
  have key : ∀ {p : Prop}, (∃ x ∈ l, checkT x ≠ 0) → (∀ x ∈ l, checkT x = 0) → p := fun ⟨x, hx, hn⟩ ha => absurd (ha x hx) hn
  rcases h with ⟨a, rfl⟩ | ⟨a, b, rfl⟩ | ⟨a, b, c, rfl⟩ | ⟨a, b, c, rfl⟩ <;> rcases h' with ⟨a', rfl⟩ | ⟨a', b', rfl⟩ | ⟨a', b', c', rfl⟩ | ⟨a', b', c', rfl⟩ <;> first | rfl | exact absurd a a' | exact absurd a' a | exact key b b' | exact key b' b | exact absurd c c' | exact absurd c' c

set_option maxRecDepth 100000 in
theorem steps_self {l f : List T} (h : StepsOf l f) : f = l ↔ StepsOf l l := by
  constructor
  · rintro rfl; exact h
  · intro h'; exact h.eq h' (fun _ => Iff.rfl)

set_option maxRecDepth 100000 in
set_option maxHeartbeats 2000000 in
theorem FCheck_any (w : World) (l : List T) (a : Option Addr) (cap : Nat) (hv : IsL l (.slice a l.length cap) w) (hl : l.length ≤ 1000000000) :
    Calls Try.prog 15 #[.slice a l.length cap] w fun e w' => ∃ z : Int, e = .returned (.int .i64 z) ∧ fcheckT l z ∧ Below w.heap.size w w' := by
  obtain ⟨n, hn⟩ : ∃ n, l.length = n := ⟨_, rfl⟩
  have HN := hid' hn
  rw [hn] at hl hv ⊢
  have HV := hid' hv
  have HC : Hid (Calls Try.prog 22 #[.slice a n cap, .func (.func 23) #[] #[]] w fun e w' => ∃ b : Bool, e = .returned (.bool b) ∧ (b = true ↔ ∃ x ∈ l, decide (checkT x ≠ 0) = true) ∧ Gr w w') := by
    obtain ⟨a', c', e, _, _, ht⟩ := hv
    simp at e
    obtain ⟨rfl, -, rfl⟩ := e
    have := containsFunc_isNoTime w a cap l (fun x => decide (checkT x ≠ 0)) ht (by rw [hn]; omega) (fun W x _ => isNoTime_any W x)
    rw [hn] at this
    exact this
  clear hn hv
  by_cases hbig : 1024 < n
  · have HZ : Hid (fcheckT l 3) := .inl ⟨by rw [HN.out]; exact hbig, rfl⟩
    go_enter Try.func15, Try.ntmps15
    go_wp2
    go_ret
    exact ⟨3, rfl, HZ.out, Below.refl _ _⟩
  · have HBG : Hid (¬ 1024 < l.length) := by unfold Hid; rw [HN.out]; exact hbig
    go_enter Try.func15, Try.ntmps15
    go_wp2_with fail
    refine HC.out.mono ?_
    rintro e w1 ⟨b, rfl, hb, hg1⟩
    have HB : Hid (b = true ↔ ∃ x ∈ l, checkT x ≠ 0) := by unfold Hid; rw [hb]; simp
    clear hb HC
    cases b with
    | true =>
      have HZ : Hid (fcheckT l 7) := .inr (.inl ⟨HBG.out, HB.out.1 rfl, rfl⟩)
      go_wp2
      go_ret
      exact ⟨7, rfl, HZ.out, hg1.below⟩
    | false =>
      have HALL : Hid (∀ x ∈ l, checkT x = 0) := fun x hx => by
        by_cases h : checkT x = 0
        · exact h
        · have := HB.out.2 ⟨x, hx, h⟩; cases this
      have H1 := hid' (new_L w1 l _ (HV.out.on hg1.below) (by rw [HN.out]; exact hl))
      go_wp2_with fail
      refine H1.out.mono ?_
      rintro e w2 ⟨u, f, rfl, hst, hfl, hf, hb2⟩
      have H2 := hid' (equal_L w2 f l u _ hf ((HV.out.on hg1.below).on hb2) (by rw [HN.out] at hfl; omega) (by rw [HN.out]; exact hl))
      have HS := hid' (steps_self hst)
      clear hst hf H1 hfl
      go_wp2_with fail
      refine H2.out.mono ?_
      rintro e w3 ⟨rfl, hb3⟩
      clear H2
      have hbw : Below w.heap.size w w3 := (hg1.below.trans (hb2.mono hg1.below.size)).trans (hb3.mono (hg1.below.trans (hb2.mono hg1.below.size)).size)
      by_cases he : f = l
      · have HZ : Hid (fcheckT l 0) := .inr (.inr (.inr ⟨HBG.out, HALL.out, HS.out.1 he, rfl⟩))
        rw [decide_eq_true he]
        clear he
        go_wp2
        go_ret
        exact ⟨0, rfl, HZ.out, hbw⟩
      · have HZ : Hid (fcheckT l 6) := .inr (.inr (.inl ⟨HBG.out, HALL.out, fun h => he (HS.out.2 h), rfl⟩))
        rw [decide_eq_false he]
        clear he
        go_wp2
        go_ret
        exact ⟨6, rfl, HZ.out, hbw⟩

end Go.Proofs.Ytlamcgeboclkjaa
