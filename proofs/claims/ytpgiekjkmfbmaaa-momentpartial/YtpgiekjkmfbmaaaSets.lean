/-
  What is proved here: the law MomentSets answers true at every list of times.
-/
import Derived.Test.YtpgiekjkmfbmaaaLive
namespace Go.Proofs.Ytpgiekjkmfbmaaa
open Go.RowKit Go.Proofs
set_option linter.unusedVariables false
set_option linter.unusedSimpArgs false

theorem unique_ts (w : World) (a : Option Addr) (cap : Nat) (l : List T) (h : Ts w.heap.size w a l) (hl : l.length ≤ 1000000) :
    Calls Try.prog 19 #[.slice a l.length cap] w fun e w' => ∃ a' c' u, e = .returned (.slice a' u.length c') ∧ u.length ≤ l.length ∧ SetOf u (· ∈ l) ∧ Ts w'.heap.size w' a' u ∧ Below w.heap.size w w' := by
  refine (unique_any w a cap l h (by omega)).mono ?_
  rintro e w' ⟨v, u, rfl, hul, hset, hrow, hb⟩
  obtain ⟨a1, c1, rfl, _, hts⟩ := Ts.of_owns hrow (fun x hx => h.range x ((hset.mem x).1 hx))
  exact ⟨a1, c1, u, rfl, hul, hset, hts, hb⟩

theorem closure_ts (w : World) (a : Option Addr) (cap : Nat) (l : List T) (h : Ts w.heap.size w a l) (hl : l.length ≤ 1000000) :
    Calls Try.prog 21 #[.slice a l.length cap] w fun e w' => ∃ a' c' u, e = .returned (.slice a' u.length c') ∧ u.length ≤ l.length * l.length ∧ SetOf u (Joins l) ∧ Ts w'.heap.size w' a' u ∧ Below w.heap.size w w' := by
  refine (closure_any w a cap l h hl).mono ?_
  rintro e w' ⟨v, u, rfl, hul, hset, hrow, hb⟩
  obtain ⟨a1, c1, rfl, _, hts⟩ := Ts.of_owns hrow (fun x hx => by
    obtain ⟨p, hp, q, hq, rfl⟩ := (hset.mem x).1 hx
    exact RT.join (h.range p hp) (h.range q hq))
  exact ⟨a1, c1, u, rfl, hul, hset, hts, hb⟩

theorem Ts.srcOf {B : Nat} {w : World} {ad : Addr} {l : List T} (h : Ts B w (some ad) l) : ∀ j u, (flat l)[j]? = some u → w.cell? (ad.add j) = some u := by
  intro j u hj
  obtain ⟨h2, _⟩ := flat_inv l j u hj
  obtain ⟨b, off, e, _⟩ := h.cells (by rintro rfl; simp at h2)
  cases e
  exact h.src j u hj

/-- Two lists that are the same. -/
theorem same_true (w : World) (a b : Option Addr) (ca cb : Nat) (l r : List T) (ha : Ts w.heap.size w a l) (hb : Ts w.heap.size w b r) (e : l = r) (hl : l.length < 4611686018427387904) :
    Calls Try.prog 18 #[.slice a l.length ca, .slice b r.length cb] w fun e w' => e = .returned (.bool true) ∧ Below w.heap.size w w' := by
  subst e
  refine (same_any w a b ca cb l l ha hb hl hl).mono ?_
  rintro e w' ⟨rfl, hg⟩
  exact ⟨by simp, hg.below⟩

set_option maxHeartbeats 1000000 in
/-- All behind the copy. -/
theorem sets_walk (w : World) (a : Option Addr) (cap : Nat) (l : List T) (h : Ts w.heap.size w a l) (hsl : (a = none ∧ cap = 0) ∨ ∃ ad, a = some ad) :
    Calls Try.prog 4 #[.slice a l.length cap] w fun e w' => e = .returned (.bool true) ∧ Below w.heap.size w w' := by
  obtain ⟨n, hn⟩ : ∃ n, l.length = n := ⟨_, rfl⟩
  obtain ⟨i23, hi23, hy0, hy1, hy2⟩ := info_parts Try.info23
  have HN := hid' hn
  have HTS := hid' h
  rw [hn]
  clear h
  by_cases hlen : 60 < n
  · clear hn
    go_enter Try.func4, Try.ntmps4
    go_wp2_with fail
    refine (live_any w).mono ?_
    rintro e w1 ⟨rfl, hb⟩
    go_wp2
    go_ret
    exact ⟨rfl, hb⟩
  · have fin : ∀ (w2 : World) (a2 : Option Addr) (c2 : Nat), Below w.heap.size w w2 → Ts w2.heap.size w2 a2 l → True := fun _ _ _ _ _ => trivial
    have HEM := hid' (owns_empty23 w w.heap.size (Nat.le_refl _))
    have HL1 : Hid ((flat l).length = n * 2) := by unfold Hid; rw [length_flat, hn]
    have HO1 := hid' (flat_ones l)
    clear hn fin
    rcases hsl with ⟨rfl, rfl⟩ | ⟨ad, rfl⟩
    · have hl0 : l = [] := by
        by_cases hl0 : l = []
        · exact hl0
        · obtain ⟨b, off, e, _⟩ := HTS.out.cells hl0
          cases e
      have hn0 : n = 0 := by rw [← HN.out, hl0]; rfl
      subst hn0
      have hb3 : Below w.heap.size w (w.alloc (.cells #[] 23)) := (Below.refl _ w).alloc (Nat.le_refl _) _
      have hts3 : Ts (w.alloc (.cells #[] 23)).heap.size (w.alloc (.cells #[] 23)) (some ⟨w.heap.size, 0, none⟩) l := by rw [hl0]; exact Ts.nil _ _ _
      have HO3 : Hid True := trivial
      obtain ⟨w3, hw3⟩ : ∃ w3, w.alloc (.cells #[] 23) = w3 := ⟨_, rfl⟩
      have HW3 := hid' hw3
      rw [hw3] at hb3 hts3 HEM
      clear hw3 hl0
      go_enter Try.func4, Try.ntmps4
      go_wp2_with (
        (at_builtin; refine wpList_append_own_none rfl (.tmp 8) (.tmp 9) 31 rfl w.heap.size 23 i23 2 Try.underlying31 hi23 _ 0 [] rfl (by rw [HW3.out]; exact HEM.out) rfl ?_; rw [HW3.out]))
      have hts1 : Ts w3.heap.size w3 none l := HTS.out.on hb3
      have hT3 := hid' hts3
      have hT1 := hid' hts1
      have HU := hid' (unique_ts w3 (some ⟨w.heap.size, 0, none⟩) 0 l hts3 (by rw [HN.out]; omega))
      rw [HN.out] at HU
      clear hts1 hts3 HO3
      refine HU.out.mono ?_
      clear HU
      rintro e w4 ⟨a4, c4, u, rfl, hul, hset, hts4, hb4⟩
      have HV := hid' (refUnique_any w4 none 0 l (hT1.out.on hb4) (by rw [HN.out]; omega))
      rw [HN.out] at HV
      have HT4 := hid' hts4
      have HS4 := hid' hset
      clear hset hts4
      go_wp2_with fail
      refine HV.out.mono ?_
      clear HV
      rintro e w5 ⟨a5, c5, u', rfl, hul', hset', hts5, hb5⟩
      have HSA := hid' (same_true w5 a4 a5 c4 c5 u u' (HT4.out.on hb5) hts5 (HS4.out.eq hset' (fun _ => Iff.rfl)) (by omega))
      clear hts5 hset' HT4 HS4
      go_wp2_with fail
      refine HSA.out.mono ?_
      clear HSA
      rintro e w6 ⟨rfl, hb6⟩
      have hb36 : Below w3.heap.size w3 w6 := hb4.trans ((hb5.trans (hb6.mono hb5.size)).mono hb4.size)
      clear hb4 hb5 hb6
      have HC := hid' (closure_ts w6 (some ⟨w.heap.size, 0, none⟩) 0 l (hT3.out.on hb36) (by rw [HN.out]; omega))
      rw [HN.out] at HC
      go_wp2_with fail
      refine HC.out.mono ?_
      clear HC
      rintro e w7 ⟨a7, c7, cl, rfl, hcl, hset7, hts7, hb7⟩
      have hb37 : Below w3.heap.size w3 w7 := hb36.trans (hb7.mono hb36.size)
      have HD := hid' (refClosure_any w7 none 0 l (hT1.out.on hb37) (by rw [HN.out]; omega))
      rw [HN.out] at HD
      have HT7 := hid' hts7
      have HS7 := hid' hset7
      clear hset7 hts7
      go_wp2_with fail
      refine HD.out.mono ?_
      clear HD
      rintro e w8 ⟨a8, c8, cl', rfl, hcl', hset8, hts8, hb8⟩
      have hcl2 : 0 * 0 ≤ 60 * 60 := by decide
      have HSB := hid' (same_true w8 a7 a8 c7 c8 cl cl' (HT7.out.on hb8) hts8 (HS7.out.eq hset8 (fun _ => Iff.rfl)) (by omega))
      clear hts8 hset8 HT7 HS7
      go_wp2_with fail
      refine HSB.out.mono ?_
      clear HSB
      rintro e w9 ⟨rfl, hb9⟩
      have hb39 : Below w3.heap.size w3 w9 := hb37.trans ((hb8.trans (hb9.mono hb8.size)).mono hb37.size)
      clear hb7 hb8 hb9 hb36 hb37
      have HSC := hid' (same_true w9 (some ⟨w.heap.size, 0, none⟩) none 0 0 l l (hT3.out.on hb39) (hT1.out.on hb39) rfl (by rw [HN.out]; omega))
      rw [HN.out] at HSC
      go_wp2_with fail
      refine HSC.out.mono ?_
      clear HSC
      rintro e w10 ⟨rfl, hb10⟩
      go_wp2_with fail
      refine (live_any w10).mono ?_
      rintro e w11 ⟨rfl, hb11⟩
      go_wp2
      go_ret
      exact ⟨rfl, hb3.trans ((hb39.trans ((hb10.trans (hb11.mono hb10.size)).mono hb39.size)).mono hb3.size)⟩
    · have HS1 : Hid (∀ i u, (flat l)[i]? = some u → (w.alloc (.cells #[] 23)).cell? (ad.add i) = some u) := (HTS.out.gr ((Gr.refl w).alloc (.cells #[] 23))).srcOf
      go_enter Try.func4, Try.ntmps4
      go_wp2_with (
        (at_builtin; refine wpList_append_own _ rfl (.tmp 8) (.tmp 9) 31 rfl w.heap.size 23 i23 (.agg #[.int .i64 0, .int .i64 0]) 2 16 Try.underlying31 hi23 hy0 hy1 hy2 rfl (by decide) _ _ _ rfl HEM.out ad n cap (flat l) rfl HL1.out HS1.out HO1.out (by unfold maxLen; omega) (by omega) (by simp) ?_; intro v1 w3 hown3 hgrow3 hnil3))
      have hgr3 : (w.alloc (.cells #[] 23)).grownBy w3 (some w.heap.size) := hgrow3
      have hb3 : Below w.heap.size w w3 := ((Below.refl _ w).alloc (Nat.le_refl _) (.cells #[] 23)).grown hgr3 (by simp) (fun k hk => by cases hk; exact Nat.le_refl _)
      have HO3 : Hid (w3.ownsRow w.heap.size 23 2 v1 l.length (flat l)) := by
        unfold Hid
        rw [HN.out]
        have h3 := hown3
        rw [Nat.zero_add, List.nil_append] at h3
        exact h3
      obtain ⟨a3, c3, e3, _, hts3⟩ := Ts.of_owns HO3.out HTS.out.range
      subst e3
      rw [HN.out]
      clear hgrow3 hnil3 hgr3 hown3
      have hts1 : Ts w3.heap.size w3 (some ad) l := HTS.out.on hb3
      have hT3 := hid' hts3
      have hT1 := hid' hts1
      have HU := hid' (unique_ts w3 a3 c3 l hts3 (by rw [HN.out]; omega))
      rw [HN.out] at HU
      clear hts1 hts3 HO3
      refine HU.out.mono ?_
      clear HU
      rintro e w4 ⟨a4, c4, u, rfl, hul, hset, hts4, hb4⟩
      have HV := hid' (refUnique_any w4 (some ad) cap l (hT1.out.on hb4) (by rw [HN.out]; omega))
      rw [HN.out] at HV
      have HT4 := hid' hts4
      have HS4 := hid' hset
      clear hset hts4
      go_wp2_with fail
      refine HV.out.mono ?_
      clear HV
      rintro e w5 ⟨a5, c5, u', rfl, hul', hset', hts5, hb5⟩
      have HSA := hid' (same_true w5 a4 a5 c4 c5 u u' (HT4.out.on hb5) hts5 (HS4.out.eq hset' (fun _ => Iff.rfl)) (by omega))
      clear hts5 hset' HT4 HS4
      go_wp2_with fail
      refine HSA.out.mono ?_
      clear HSA
      rintro e w6 ⟨rfl, hb6⟩
      have hb36 : Below w3.heap.size w3 w6 := hb4.trans ((hb5.trans (hb6.mono hb5.size)).mono hb4.size)
      clear hb4 hb5 hb6
      have HC := hid' (closure_ts w6 a3 c3 l (hT3.out.on hb36) (by rw [HN.out]; omega))
      rw [HN.out] at HC
      go_wp2_with fail
      refine HC.out.mono ?_
      clear HC
      rintro e w7 ⟨a7, c7, cl, rfl, hcl, hset7, hts7, hb7⟩
      have hb37 : Below w3.heap.size w3 w7 := hb36.trans (hb7.mono hb36.size)
      have HD := hid' (refClosure_any w7 (some ad) cap l (hT1.out.on hb37) (by rw [HN.out]; omega))
      rw [HN.out] at HD
      have HT7 := hid' hts7
      have HS7 := hid' hset7
      clear hset7 hts7
      go_wp2_with fail
      refine HD.out.mono ?_
      clear HD
      rintro e w8 ⟨a8, c8, cl', rfl, hcl', hset8, hts8, hb8⟩
      have hcl2 : n * n ≤ 60 * 60 := Nat.mul_le_mul (by omega) (by omega)
      have HSB := hid' (same_true w8 a7 a8 c7 c8 cl cl' (HT7.out.on hb8) hts8 (HS7.out.eq hset8 (fun _ => Iff.rfl)) (by omega))
      clear hts8 hset8 HT7 HS7
      go_wp2_with fail
      refine HSB.out.mono ?_
      clear HSB
      rintro e w9 ⟨rfl, hb9⟩
      have hb39 : Below w3.heap.size w3 w9 := hb37.trans ((hb8.trans (hb9.mono hb8.size)).mono hb37.size)
      clear hb7 hb8 hb9 hb36 hb37
      have HSC := hid' (same_true w9 a3 (some ad) c3 cap l l (hT3.out.on hb39) (hT1.out.on hb39) rfl (by rw [HN.out]; omega))
      rw [HN.out] at HSC
      go_wp2_with fail
      refine HSC.out.mono ?_
      clear HSC
      rintro e w10 ⟨rfl, hb10⟩
      go_wp2_with fail
      refine (live_any w10).mono ?_
      rintro e w11 ⟨rfl, hb11⟩
      go_wp2
      go_ret
      exact ⟨rfl, hb3.trans ((hb39.trans ((hb10.trans (hb11.mono hb10.size)).mono hb39.size)).mono hb3.size)⟩

end Go.Proofs.Ytpgiekjkmfbmaaa
