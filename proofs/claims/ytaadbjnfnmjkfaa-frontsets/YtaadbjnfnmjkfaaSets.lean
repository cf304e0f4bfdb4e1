/-
  What is proved here: Check of the document; the law FrontSets answers true at every list of times.
-/
import Derived.Test.YtaadbjnfnmjkfaaRNew
namespace Go.Proofs.Ytaadbjnfnmjkfaa
open Go.RowKit Go.Proofs
set_option linter.unusedVariables false
set_option linter.unusedSimpArgs false

set_option maxHeartbeats 2000000 in
theorem rFCheck_any (w : World) (l : List T) (a : Option Addr) (cap : Nat) (hv : IsL l (.slice a l.length cap) w) (hl : l.length ≤ 1000000) :
    Calls Try.prog 15 #[.slice a l.length cap] w fun e w' => ∃ z : Int, e = .returned (.int .i64 z) ∧ fcheckT l z ∧ Below w.heap.size w w' := by
  obtain ⟨n, hn⟩ : ∃ n, l.length = n := ⟨_, rfl⟩
  have HN := hid' hn
  rw [hn] at hl hv ⊢
  have HV := hid' hv
  clear hn hv
  by_cases hbig : 1024 < n
  · have HZ : Hid (fcheckT l 3) := .inl ⟨by rw [HN.out]; exact hbig, rfl⟩
    go_enter Try.func15, Try.ntmps15
    go_wp2
    go_ret
    exact ⟨3, rfl, HZ.out, Below.refl _ _⟩
  · have HBG : Hid (¬ 1024 < l.length) := by unfold Hid; rw [HN.out]; exact hbig
    go_enter Try.func15, Try.ntmps15
    go_wp2
    go_loopg [3] n (fun k i wr => ∃ j : Nat, j + k = n ∧ i = .int .i64 (j : Int) ∧ Hid (∀ x ∈ l.take j, checkT x = 0) ∧ Hid (Below w.heap.size w wr))
    case atStart => exact ⟨0, by omega, rfl, fun x hx => by simp at hx, Below.refl _ _⟩
    case round =>
      obtain ⟨j, hj, rfl, hall, hbel⟩ := hrel
      cases gk with
      | zero =>
        obtain rfl : j = n := by omega
        have HALL : Hid (∀ x ∈ l, checkT x = 0) := fun x hx => hall.out x (by rw [List.take_of_length_le (Nat.le_of_eq HN.out)]; exact hx)
        have hV1 : IsL l (.slice a j cap) wr := by obtain ⟨a', c', e, h1, h2, h3⟩ := HV.out; exact ⟨a', c', e, h1, h2, (h3.keep hbel.out).mono hbel.out.size⟩
        have HV1 := hid' hV1
        have H1 := hid' (rNew_L wr l _ hV1 (by rw [HN.out]; exact hl))
        clear hV1
        go_wp2_with fail
        refine H1.out.mono ?_
        rintro e w2 ⟨u, f, rfl, hst, hfl, hf, hb2⟩
        have H2 := hid' (same_L w2 f l u _ hf (HV1.out.on hb2) (by rw [HN.out] at hfl; omega) (by rw [HN.out]; omega))
        have HS := hid' (steps_self hst)
        clear hst hf H1 hfl
        go_wp2_with fail
        refine H2.out.mono ?_
        rintro e w3 ⟨rfl, hb3⟩
        clear H2
        have hb23 : Below wr.heap.size wr w3 := hb2.trans (hb3.mono hb2.size)
        have hbw : Below w.heap.size w w3 := hbel.out.trans (hb23.mono hbel.out.size)
        by_cases he : f = l
        · have HZ : Hid (fcheckT l 0) := .inr (.inr (.inr ⟨HBG.out, HALL.out, HS.out.1 he, rfl⟩))
          rw [decide_eq_true he]
          clear he
          go_wp2
          go_ret
          exact ⟨0, rfl, HZ.out, hbw⟩
        · have HZ : Hid (fcheckT l 6) := .inr (.inr (.inl ⟨HBG.out, HALL.out, fun h => he (HS.out.2 h), rfl⟩))
          rw [decide_eq_false he]
          clear he
          go_wp2
          go_ret
          exact ⟨6, rfl, HZ.out, hbw⟩
      | succ k =>
        have hjl : j < l.length := by rw [HN.out]; omega
        obtain ⟨a', cap', e1, hcap, hsl, hts⟩ := HV.out
        simp at e1
        obtain ⟨rfl, -, rfl⟩ := e1
        obtain ⟨b, off, rfl, hBb, hc⟩ := hts.cells (by rintro rfl; simp at hjl)
        have p1 := (hbel.out.cell (p := ⟨b, off + j * 2, none⟩) hBb).trans (hc j hjl).1
        have p2 := (hbel.out.cell (p := ⟨b, off + j * 2 + 1, none⟩) hBb).trans (hc j hjl).2
        have HX : Hid (l.take (j + 1) = l.take j ++ [l.getD j (0, 0)] ∧ l.getD j (0, 0) ∈ l) := ⟨by rw [List.take_add_one]; simp [List.getD, List.getElem?_eq_getElem hjl], getD_mem hjl⟩
        have HC := hid' (refCheck_any (l.getD j (0, 0)) wr)
        generalize l.getD j (0, 0) = x at p1 p2 HX HC
        obtain ⟨x1, x2⟩ := x
        simp only at p1 p2 HC
        obtain ⟨z, hz⟩ : ∃ z, checkT (x1, x2) = z := ⟨_, rfl⟩
        rw [hz] at HC
        have HZ := hid' hz
        clear hc hts hsl hcap hjl hz
        go_wp2_with fail
        refine HC.out.mono ?_
        rintro e w2 ⟨rfl, hg2⟩
        have HB2 : Hid (Below w.heap.size w w2) := hbel.out.trans (hg2.below.mono hbel.out.size)
        clear HC hg2 p1 p2
        by_cases hz0 : z = 0
        · subst hz0
          have HA2 : Hid (∀ x ∈ l.take (j + 1), checkT x = 0) := fun y hy => by
            rw [HX.out.1] at hy
            rcases List.mem_append.1 hy with hy | hy
            · exact hall.out y hy
            · simp at hy; subst hy; exact HZ.out
          go_wp2
          go_roundg k
          case measure => omega
          case rel => exact ⟨j + 1, by omega, by simp, HA2, HB2⟩
        · have HF : Hid (fcheckT l 7) := .inr (.inl ⟨HBG.out, ⟨_, HX.out.2, by rw [HZ.out]; exact hz0⟩, rfl⟩)
          go_wp2
          go_ret
          exact ⟨7, rfl, HF.out, HB2.out⟩

theorem FCheck_L (w : World) (l : List T) (v : Value) (hv : IsL l v w) (hl : l.length ≤ 1000000000) : Calls Try.prog 14 #[v] w fun e w' => ∃ z : Int, e = .returned (.int .i64 z) ∧ fcheckT l z ∧ Below w.heap.size w w' := by
  have h := hv
  obtain ⟨a, c, rfl, _⟩ := hv
  exact FCheck_any w l a c h hl
theorem rFCheck_L (w : World) (l : List T) (v : Value) (hv : IsL l v w) (hl : l.length ≤ 1000000) : Calls Try.prog 15 #[v] w fun e w' => ∃ z : Int, e = .returned (.int .i64 z) ∧ fcheckT l z ∧ Below w.heap.size w w' := by
  have h := hv
  obtain ⟨a, c, rfl, _⟩ := hv
  exact rFCheck_any w l a c h hl

theorem sameT_steps {l f : List T} (h : StepsOf l f) : sameT l f := fun t => (h.adv t).symm

/-- A copy of a list of times, made by append. -/
theorem Ts.srcOf {B : Nat} {w : World} {ad : Addr} {l : List T} (h : Ts B w (some ad) l) : ∀ j u, (flat l)[j]? = some u → w.cell? (ad.add j) = some u := by
  intro j u hj
  obtain ⟨h2, _⟩ := flat_inv l j u hj
  obtain ⟨b, off, e, _⟩ := h.cells (by rintro rfl; simp at h2)
  cases e
  exact h.src j u hj

set_option maxRecDepth 20000 in
set_option maxHeartbeats 2000000 in
theorem sets_walk (w : World) (a : Option Addr) (cap : Nat) (l : List T) (h : IsL l (.slice a l.length cap) w) :
    Calls Try.prog 3 #[.slice a l.length cap] w fun e w' => e = .returned (.bool true) ∧ Below w.heap.size w w' := by
  obtain ⟨n, hn⟩ : ∃ n, l.length = n := ⟨_, rfl⟩
  obtain ⟨i23, hi23, hy0, hy1, hy2⟩ := info_parts Try.info23
  have HN := hid' hn
  rw [hn] at h ⊢
  have HL := hid' h
  have HMU := hid' (much_any w a none n 0 cap 0)
  by_cases hm : 40 < n
  · simp only [hm, decide_true, Bool.true_or] at HMU
    have HLV := hid' (live_any w)
    clear hm hn h
    go_enter Try.func3, Try.ntmps3
    go_wp2_with fail
    refine HMU.out.mono ?_
    rintro e w1 ⟨rfl, rfl⟩
    go_wp2_with fail
    refine HLV.out.mono ?_
    rintro e w2 ⟨rfl, hb⟩
    go_wp2
    go_ret
    exact ⟨rfl, hb⟩
  · simp only [hm, decide_false, Bool.false_or, Nat.not_lt_zero] at HMU
    have hl1 : l.length ≤ 1000000 := by omega
    have HL1 := hid' hl1
    have HRNG := hid' h.range
    have HEM := hid' (owns_empty23 w w.heap.size (Nat.le_refl _))
    have HLEN : Hid ((flat l).length = n * 2) := by unfold Hid; rw [length_flat, hn]
    have HO1 := hid' (flat_ones l)
    have HSRC : Hid (n = 0 ∨ ∃ ad, a = some ad ∧ ∀ i u, (flat l)[i]? = some u → (w.alloc (.cells #[] 32)).cell? (ad.add i) = some u) := by
      obtain ⟨a', c', e, h1, h2, h3⟩ := h
      simp at e
      obtain ⟨rfl, -, rfl⟩ := e
      rcases h2 with ⟨rfl, _⟩ | ⟨ad, rfl⟩
      · left
        rcases Nat.eq_zero_or_pos n with e | e
        · exact e
        · obtain ⟨b, off, e', _⟩ := h3.cells (by rintro rfl; simp at hn; omega)
          cases e'
      · exact .inr ⟨ad, rfl, (h3.gr ((Gr.refl w).alloc (.cells #[] 32))).srcOf⟩
    have HB3 : Hid (Below w.heap.size w (w.alloc (.cells #[] 32))) := (Below.refl _ w).alloc (Nat.le_refl _) _
    clear hl1 h hn
    go_enter Try.func3, Try.ntmps3
    go_wp2_with fail
    refine HMU.out.mono ?_
    rintro e w1 ⟨rfl, rfl⟩
    clear HMU
    have hnone : n = 0 → (flat l) = [] := fun e => List.length_eq_zero_iff.1 (by rw [HLEN.out, e])
    have HNO := hid' hnone
    clear hnone
    rcases (show (a = none ∧ cap = 0) ∨ ∃ ad, a = some ad by obtain ⟨a', c', e, h1, h2, h3⟩ := HL.out; simp at e; obtain ⟨rfl, -, rfl⟩ := e; exact h2) with ⟨rfl, rfl⟩ | ⟨ad, rfl⟩
    · obtain rfl : n = 0 := by
        rcases HSRC.out with e | ⟨ad, e, _⟩
        · exact e
        · cases e
      have hl0 : l = [] := List.length_eq_zero_iff.1 HN.out
      have HB3' := HB3
      obtain ⟨w3, hw3⟩ : ∃ w3, w1.alloc (.cells #[] 32) = w3 := ⟨_, rfl⟩
      have HW3 := hid' hw3
      have hb3 : Below w1.heap.size w1 w3 := by rw [← hw3]; exact HB3.out
      have hv3 : IsL l (.slice (some ⟨w1.heap.size, 0, none⟩) 0 0) w3 := ⟨some ⟨w1.heap.size, 0, none⟩, 0, by rw [hl0]; rfl, by rw [hl0]; simp, .inr ⟨_, rfl⟩, by rw [hl0]; exact Ts.nil _ _ _⟩
      rw [hw3] at HEM
      clear hw3 hl0 HB3 HB3'
      go_wp2_with (
        (at_builtin; refine wpList_append_own_none rfl (.tmp 8) (.tmp 9) 22 rfl w1.heap.size 32 i23 2 Try.underlying22 hi23 _ 0 [] rfl (by rw [HW3.out]; exact HEM.out) rfl ?_; rw [HW3.out]))
      have HT3 := hid' hv3
      have HT1 : Hid (IsL l (.slice none 0 0) w3) := by obtain ⟨a', c', e, h1, h2, h3⟩ := HL.out; exact ⟨a', c', e, h1, h2, (h3.keep hb3).mono hb3.size⟩
      have H1 := hid' (new_L w3 l _ hv3 (by have := HL1.out; omega))
      clear hv3 HL
      go_wp2_with fail
      refine H1.out.mono ?_
      rintro e w4 ⟨u4, f, rfl, hsf, hfl, hf, hb4⟩
      have HF := hid' hf
      have HSF := hid' hsf
      have HFL := hid' hfl
      have H2 := hid' (rNew_L w4 l _ (HT1.out.on hb4) HL1.out)
      clear H1 hf hsf hfl
      go_wp2_with fail
      refine H2.out.mono ?_
      rintro e w5 ⟨u5, g, rfl, hsg, hgl, hg, hb5⟩
      obtain rfl : f = g := HSF.out.eq hsg (fun _ => Iff.rfl)
      have H3 := hid' (same_L w5 f f u4 u5 (HF.out.on hb5) hg (by have := HL1.out; omega) (by have := HL1.out; omega))
      rw [decide_eq_true rfl] at H3
      clear H2 hsg hgl hg
      go_wp2_with fail
      refine H3.out.mono ?_
      rintro e w6 ⟨rfl, hb6⟩
      have hb36 : Below w3.heap.size w3 w6 := hb4.trans ((hb5.trans (hb6.mono hb5.size)).mono hb4.size)
      have HB46 : Hid (Below w4.heap.size w4 w6) := hb5.trans (hb6.mono hb5.size)
      clear H3 hb4 hb5 hb6
      have H4 := hid' (FCheck_L w6 l _ (HT3.out.on hb36) (by have := HL1.out; omega))
      go_wp2_with fail
      refine H4.out.mono ?_
      rintro e w7 ⟨z, rfl, hz, hb7⟩
      have HZ := hid' hz
      have H5 := hid' (rFCheck_L w7 l _ ((HT1.out.on hb36).on hb7) HL1.out)
      clear H4 hz
      go_wp2_with fail
      refine H5.out.mono ?_
      rintro e w8 ⟨z', rfl, hz', hb8⟩
      obtain rfl : z = z' := fcheckT_one HZ.out hz'
      have hb38 : Below w3.heap.size w3 w8 := hb36.trans ((hb7.trans (hb8.mono hb7.size)).mono hb36.size)
      have HB48 : Hid (Below w4.heap.size w4 w8) := HB46.out.trans ((hb7.trans (hb8.mono hb7.size)).mono HB46.out.size)
      have H6 := hid' (same_L w8 l l _ _ (HT3.out.on hb38) (HT1.out.on hb38) (by have := HL1.out; omega) (by have := HL1.out; omega))
      rw [decide_eq_true rfl] at H6
      clear H5 hz' hb7 hb8 hb36 HB46 HZ
      go_wp2_with fail
      refine H6.out.mono ?_
      rintro e w9 ⟨rfl, hb9⟩
      have hb39 : Below w3.heap.size w3 w9 := hb38.trans (hb9.mono hb38.size)
      have HB49 : Hid (Below w4.heap.size w4 w9) := HB48.out.trans (hb9.mono HB48.out.size)
      have H7 := hid' (FSame_any w9 l f _ u4 (HT3.out.on hb39) (HF.out.on HB49.out) (by have := HL1.out; omega) (by have := HL1.out; have := HFL.out; omega))
      have HSS := hid' (sameT_steps HSF.out)
      clear H6 hb9 hb38 HB48
      go_wp2_with fail
      refine H7.out.mono ?_
      rintro e w10 ⟨b, rfl, hb, hb10⟩
      obtain rfl : b = true := hb.2 HSS.out
      clear H7 hb
      go_wp2_with fail
      refine (live_any w10).mono ?_
      rintro e w11 ⟨rfl, hb11⟩
      go_wp2
      go_ret
      exact ⟨rfl, hb3.trans ((hb39.trans ((hb10.trans (hb11.mono hb10.size)).mono hb39.size)).mono hb3.size)⟩
    · have HS1 : Hid (∀ i u, (flat l)[i]? = some u → (w1.alloc (.cells #[] 32)).cell? (ad.add i) = some u) := by
        rcases HSRC.out with e | ⟨ad', e, h⟩
        · intro i u hu
          rw [HNO.out e] at hu; simp at hu
        · cases e; exact h
      go_wp2_with (
        (at_builtin; refine wpList_append_own _ rfl (.tmp 8) (.tmp 9) 22 rfl w1.heap.size 32 i23 (.agg #[.int .i64 0, .int .i64 0]) 2 16 Try.underlying22 hi23 hy0 hy1 hy2 rfl (by decide) _ _ _ rfl HEM.out ad n cap (flat l) rfl HLEN.out HS1.out HO1.out (by unfold maxLen; omega) (by omega) (by simp) ?_; intro v1 w3 hown3 hgrow3 hnil3))
      have hgr3 : (w1.alloc (.cells #[] 32)).grownBy w3 (some w1.heap.size) := hgrow3
      have hb3 : Below w1.heap.size w1 w3 := HB3.out.grown hgr3 (by simp) (fun k hk => by cases hk; exact Nat.le_refl _)
      have hv3 : IsL l v1 w3 := by
        have h3 := hown3
        rw [Nat.zero_add, List.nil_append] at h3
        exact IsL.of_owns (by rw [HN.out]; exact h3) HRNG.out
      clear hgrow3 hnil3 hgr3 hown3 HB3 HEM HS1 HSRC
      have HT3 := hid' hv3
      have HT1 : Hid (IsL l (.slice (some ad) n cap) w3) := by obtain ⟨a', c', e, h1, h2, h3⟩ := HL.out; exact ⟨a', c', e, h1, h2, (h3.keep hb3).mono hb3.size⟩
      have H1 := hid' (new_L w3 l _ hv3 (by have := HL1.out; omega))
      clear hv3 HL
      go_wp2_with fail
      refine H1.out.mono ?_
      rintro e w4 ⟨u4, f, rfl, hsf, hfl, hf, hb4⟩
      have HF := hid' hf
      have HSF := hid' hsf
      have HFL := hid' hfl
      have H2 := hid' (rNew_L w4 l _ (HT1.out.on hb4) HL1.out)
      clear H1 hf hsf hfl
      go_wp2_with fail
      refine H2.out.mono ?_
      rintro e w5 ⟨u5, g, rfl, hsg, hgl, hg, hb5⟩
      obtain rfl : f = g := HSF.out.eq hsg (fun _ => Iff.rfl)
      have H3 := hid' (same_L w5 f f u4 u5 (HF.out.on hb5) hg (by have := HL1.out; omega) (by have := HL1.out; omega))
      rw [decide_eq_true rfl] at H3
      clear H2 hsg hgl hg
      go_wp2_with fail
      refine H3.out.mono ?_
      rintro e w6 ⟨rfl, hb6⟩
      have hb36 : Below w3.heap.size w3 w6 := hb4.trans ((hb5.trans (hb6.mono hb5.size)).mono hb4.size)
      have HB46 : Hid (Below w4.heap.size w4 w6) := hb5.trans (hb6.mono hb5.size)
      clear H3 hb4 hb5 hb6
      have H4 := hid' (FCheck_L w6 l _ (HT3.out.on hb36) (by have := HL1.out; omega))
      go_wp2_with fail
      refine H4.out.mono ?_
      rintro e w7 ⟨z, rfl, hz, hb7⟩
      have HZ := hid' hz
      have H5 := hid' (rFCheck_L w7 l _ ((HT1.out.on hb36).on hb7) HL1.out)
      clear H4 hz
      go_wp2_with fail
      refine H5.out.mono ?_
      rintro e w8 ⟨z', rfl, hz', hb8⟩
      obtain rfl : z = z' := fcheckT_one HZ.out hz'
      have hb38 : Below w3.heap.size w3 w8 := hb36.trans ((hb7.trans (hb8.mono hb7.size)).mono hb36.size)
      have HB48 : Hid (Below w4.heap.size w4 w8) := HB46.out.trans ((hb7.trans (hb8.mono hb7.size)).mono HB46.out.size)
      have H6 := hid' (same_L w8 l l _ _ (HT3.out.on hb38) (HT1.out.on hb38) (by have := HL1.out; omega) (by have := HL1.out; omega))
      rw [decide_eq_true rfl] at H6
      clear H5 hz' hb7 hb8 hb36 HB46 HZ
      go_wp2_with fail
      refine H6.out.mono ?_
      rintro e w9 ⟨rfl, hb9⟩
      have hb39 : Below w3.heap.size w3 w9 := hb38.trans (hb9.mono hb38.size)
      have HB49 : Hid (Below w4.heap.size w4 w9) := HB48.out.trans (hb9.mono HB48.out.size)
      have H7 := hid' (FSame_any w9 l f _ u4 (HT3.out.on hb39) (HF.out.on HB49.out) (by have := HL1.out; omega) (by have := HL1.out; have := HFL.out; omega))
      have HSS := hid' (sameT_steps HSF.out)
      clear H6 hb9 hb38 HB48
      go_wp2_with fail
      refine H7.out.mono ?_
      rintro e w10 ⟨b, rfl, hb, hb10⟩
      obtain rfl : b = true := hb.2 HSS.out
      clear H7 hb
      go_wp2_with fail
      refine (live_any w10).mono ?_
      rintro e w11 ⟨rfl, hb11⟩
      go_wp2
      go_ret
      exact ⟨rfl, hb3.trans ((hb39.trans ((hb10.trans (hb11.mono hb10.size)).mono hb39.size)).mono hb3.size)⟩

end Go.Proofs.Ytaadbjnfnmjkfaa
