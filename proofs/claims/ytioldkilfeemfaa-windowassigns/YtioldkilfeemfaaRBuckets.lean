/-
  What is proved here: Buckets of the document.
-/
import Derived.Test.YtioldkilfeemfaaBuckets
namespace Go.Proofs.Ytioldkilfeemfaa
open Go.RowKit
set_option linter.unusedVariables false
set_option linter.unusedSimpArgs false

/-- The multiples that the document looks at. -/
structure Down (v size s p q : Int) (n : Nat) (g : Nat) : Prop where
  low : 0 ≤ (g : Int) * s
  high : (g : Int) * s ≤ 71468255805440
  le : q * s - (g : Int) * s ≤ v
  yes : g < n → v < q * s - (g : Int) * s + size
  told : g < n → q * s - (g : Int) * s = (p + ((n - (g + 1) : Nat) : Int)) * s
  no : n ≤ g → ¬ v < q * s - (g : Int) * s + size

theorem Ways.down {v size s p q : Int} {n : Nat} (h : Ways v size s p q n) (hs : Span s) (hq : q * s ≤ v) (g : Nat) (hg : g ≤ 65) : Down v size s p q n g := by
  unfold Span at hs
  have e : q * s - (g : Int) * s = (q - (g : Int)) * s := by rw [Int.sub_mul]
  have h0 : 0 ≤ (g : Int) * s := Int.mul_nonneg (by omega) (by omega)
  have h1 : (g : Int) * s ≤ 65 * s := Int.mul_le_mul_of_nonneg_right (by omega) (by omega)
  have t : g < n → q * s - (g : Int) * s = (p + ((n - (g + 1) : Nat) : Int)) * s := fun hgn => by
    rw [e, show p + ((n - (g + 1) : Nat) : Int) = q - (g : Int) by have := h.sum; omega]
  refine ⟨h0, by omega, by omega, fun hgn => ?_, t, fun hgn => ?_⟩
  · rw [t hgn]
    have := h.holds (n - (g + 1)) (by omega)
    omega
  · rw [e]
    have : (q - (g : Int)) * s ≤ (p - 1) * s := Int.mul_le_mul_of_nonneg_right (by have := h.sum; omega) (by omega)
    have := h.ahead
    omega

set_option maxRecDepth 10000 in
set_option maxHeartbeats 2000000 in
theorem rBuckets_any (v size s : Int) (w : World) : Calls Try.prog 7 #[.int .i64 v, .int .i64 size, .int .i64 s] w fun e w' => ∃ x, e = .returned (.tuple #[x, .int .i64 (bkT v size s).2]) ∧ w'.ownsRow w.heap.size 3 1 x (bkT v size s).1.length (B64 (bkT v size s).1) ∧ Below w.heap.size w w' := by
  obtain ⟨iI, hiI, hI0, hI1, hI2⟩ := info_parts Try.infoInt
  have H1 := hid' (rCheck_any size s w)
  have H2 := hid' (rFloor_any v s w)
  by_cases hc : chkT size s = 0
  · obtain ⟨hz, hs, hm⟩ := chk_ok hc
    by_cases hv : Point v
    · have HR : Hid (bkT v size s = (wins (firstOf v size s) s (manyOf v size s), 0)) := by unfold Hid bkT; rw [if_pos hc, if_pos hv]
      have HF : Hid (floT v s = (v / s * s, 0)) := by unfold Hid floT; rw [if_pos hs, if_pos hv]
      have HW := hid' (ways hz hs hm hv)
      have hfr := floor_range hs hv
      have HD := hid' (HW.out.down hs hfr.2.1)
      generalize bkT v size s = R at HR ⊢
      rw [HR.out]
      rw [HF.out] at H2
      clear HR HF
      unfold pr at H2
      rw [hc] at H1
      generalize firstOf v size s = p at HW HD ⊢
      generalize manyOf v size s = n at HW HD ⊢
      generalize v / s = q at HW HD hfr H2
      have hlen := wins_length p s n
      have hn64 := HW.out.many
      unfold Span at hz hs
      unfold Point at hv
      clear hc
      go_enter Try.func7, Try.ntmps7
      go_wp2_with fail
      refine H1.out.mono ?_
      rintro e w' ⟨rfl, rfl⟩
      go_wp2_with fail
      refine H2.out.mono ?_
      rintro e w' ⟨rfl, rfl⟩
      clear H1 H2
      go_wp2
      go_loopg [10, 11] 66 (fun g x k wr => g ≤ 66 ∧ k = .int .i64 ((g : Int) - 1) ∧ Hid (wr.ownsRow w'.heap.size 3 1 x (n - g) (B64 (wins p s (n - g)))) ∧ Hid (Below w'.heap.size w' wr))
      case atStart => exact ⟨by omega, rfl, hid' (by rw [show n - 66 = 0 by omega]; exact owns_nil _ _ _ _), hid' (Below.refl _ _)⟩
      case round =>
        obtain ⟨hg, rfl, HO, HB⟩ := hrel
        cases gk with
        | zero =>
          go_wp2
          go_ret2
          exact ⟨_, rfl, by rw [hlen]; exact HO.out, HB.out⟩
        | succ g =>
          have hd := HD.out g (by omega)
          obtain ⟨d1, d2, d3, d4, d5, d6⟩ := hd
          have hsz := HB.out.size
          have ek : ((g + 1 : Nat) : Int) - 1 = (g : Int) := by omega
          rw [ek]
          clear ek
          by_cases hgn : g < n
          · have hlt := d4 hgn
            have HT := hid' (d5 hgn)
            have hn1 : n - g = n - (g + 1) + 1 := by omega
            have HAP : Hid (B64 (wins p s (n - (g + 1))) ++ [.int .i64 (q * s - (g : Int) * s)] = B64 (wins p s (n - g))) := by
              unfold Hid
              rw [hn1, wins_succ, B64_append, HT.out]; rfl
            have HN1 := hid' hn1
            generalize hk : n - (g + 1) = m at HO HAP HN1
            have hm64 : m ≤ 64 := by omega
            clear d4 d5 d6 hn1 hk HT
            generalize q * s = t at *
            go_wp2_with (at_builtin; refine wpList_append_own _ rfl (.tmp 47) (.tmp 49) 22 rfl w'.heap.size 3 iI (.int .i64 0) 1 8 Try.underlying22 hiI hI0 hI1 hI2 rfl (by decide) _ _ _ rfl (HO.out.alloc _) ⟨wr.heap.size, 0, none⟩ 1 1 [.int .i64 (t - (g : Int) * s)] rfl rfl (cell_one_new _ _ _) (by intro u hu; simp at hu; subst hu; rfl) (by unfold maxLen; omega) (by omega) (by simp; omega) ?_; intro v3 w3 hown3 hgrow3 hnil3)
            have hgr3 : (wr.alloc (.cells #[.int .i64 (t - (g : Int) * s)] 3)).grownBy w3 u10.ownBlock := hgrow3
            have hb3 : Hid (Below w'.heap.size w' w3) := (HB.out.alloc hsz _).grown hgr3 (by simp; omega) (fun q hq => (HO.out.lt q hq).1)
            rw [HAP.out] at hown3
            have HO3 := hid' hown3
            clear hgrow3 hnil3 hgr3 hown3
            go_roundg g
            case measure => omega
            case rel => exact ⟨by omega, rfl, by rw [HN1.out] at HO3 ⊢; exact HO3, hb3⟩
          · have hlt := d6 (by omega)
            have HN0 : Hid (n - (g + 1) = n - g) := by unfold Hid; omega
            clear d4 d5 d6
            generalize q * s = t at *
            go_wp2
            go_roundg g
            case measure => omega
            case rel => exact ⟨by omega, rfl, by rw [← HN0.out]; exact HO, HB⟩
    · have HR : Hid (bkT v size s = ([], 60)) := by unfold Hid bkT; rw [if_pos hc, if_neg hv]
      have HF : Hid (floT v s = (0, 60)) := by unfold Hid floT; rw [if_pos hs, if_neg hv]
      generalize bkT v size s = R at HR ⊢
      rw [HR.out]
      rw [HF.out] at H2
      clear HR HF
      unfold pr at H2
      rw [hc] at H1
      clear hc hv hz hs hm
      go_enter Try.func7, Try.ntmps7
      go_wp2_with fail
      refine H1.out.mono ?_
      rintro e w' ⟨rfl, rfl⟩
      go_wp2_with fail
      refine H2.out.mono ?_
      rintro e w' ⟨rfl, rfl⟩
      go_wp2
      go_ret2
      exact ⟨_, rfl, owns_nil _ _ _ _, Below.refl _ _⟩
  · have HR : Hid (bkT v size s = ([], chkT size s)) := by unfold Hid bkT; rw [if_neg hc]
    generalize bkT v size s = R at HR ⊢
    rw [HR.out]
    clear HR H2
    have hne : ((chkT size s) == 0) = false := by simpa using hc
    generalize chkT size s = c at H1 hc hne ⊢
    go_enter Try.func7, Try.ntmps7
    go_wp2_with fail
    refine H1.out.mono ?_
    rintro e w' ⟨rfl, rfl⟩
    go_wp2
    go_ret2
    exact ⟨_, rfl, owns_nil _ _ _ _, Below.refl _ _⟩

end Go.Proofs.Ytioldkilfeemfaa
