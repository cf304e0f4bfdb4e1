/-
  What is proved here: Buckets of the program.
-/
import Derived.Test.YtioldkilfeemfaaWins
namespace Go.Proofs.Ytioldkilfeemfaa
open Go.RowKit
set_option linter.unusedVariables false
set_option linter.unusedSimpArgs false

theorem Try.infoInt : (Try.prog.info? 3).map (fun i => (i.zero, i.size, i.bytes)) = some (some (.int .i64 0), 1, 8) := by kernel_rfl

theorem owns_nil (w : World) (base e size : Nat) : w.ownsRow base e size (.slice none 0 0) 0 [] := ⟨by simp, .inl ⟨rfl, rfl⟩⟩

theorem cell_one_new (w : World) (x : Value) (t : TypeId) (j : Nat) (u : Value) (h : ([x] : List Value)[j]? = some u) : (w.alloc (.cells #[x] t)).cell? ((⟨w.heap.size, 0, none⟩ : Addr).add j) = some u := by
  cases j with
  | zero => simp at h; subst h; simp [Addr.add]
  | succ j => simp at h

theorem B64_append (l r : List Int) : B64 (l ++ r) = B64 l ++ B64 r := by simp [B64]

set_option maxRecDepth 10000 in
set_option maxHeartbeats 2000000 in
theorem Buckets_any (v size s : Int) (w : World) : Calls Try.prog 6 #[.int .i64 v, .int .i64 size, .int .i64 s] w fun e w' => ∃ x, e = .returned (.tuple #[x, .int .i64 (bkT v size s).2]) ∧ w'.ownsRow w.heap.size 3 1 x (bkT v size s).1.length (B64 (bkT v size s).1) ∧ Below w.heap.size w w' := by
  obtain ⟨iI, hiI, hI0, hI1, hI2⟩ := info_parts Try.infoInt
  have H1 := hid' (Check_any size s w)
  have H2 := hid' (isPoint_any v w)
  by_cases hc : chkT size s = 0
  · obtain ⟨hz, hs, hm⟩ := chk_ok hc
    by_cases hv : Point v
    · have HR : Hid (bkT v size s = (wins (firstOf v size s) s (manyOf v size s), 0)) := by unfold Hid bkT; rw [if_pos hc, if_pos hv]
      have HW := hid' (ways hz hs hm hv)
      have H3 := hid' (floor_any (v - size) s w hs (by unfold Span at hz; unfold Point at hv; omega))
      have HF : Hid ((v - size) / s * s + s = (firstOf v size s + ((0 : Nat) : Int)) * s) := by unfold Hid firstOf; rw [Int.natCast_zero, Int.add_zero, Int.add_mul, Int.one_mul]
      generalize bkT v size s = R at HR ⊢
      rw [HR.out]
      clear HR
      rw [hc] at H1
      rw [decide_eq_true hv] at H2
      generalize firstOf v size s = p at HW HF ⊢
      generalize manyOf v size s = n at HW ⊢
      generalize v / s = q at HW
      generalize hf : (v - size) / s * s = f at H3 HF
      have hr0 := HW.out.range 0 (by omega)
      rw [← HF.out] at hr0
      have hlen := wins_length p s n
      unfold Span at hz hs
      unfold Point at hv
      clear hc hf
      go_enter Try.func6, Try.ntmps6
      go_wp2_with fail
      refine H1.out.mono ?_
      rintro e w' ⟨rfl, rfl⟩
      go_wp2_with fail
      refine H2.out.mono ?_
      rintro e w' ⟨rfl, rfl⟩
      go_wp2_with fail
      refine H3.out.mono ?_
      rintro e w' ⟨rfl, rfl⟩
      clear H1 H2 H3
      go_wp2
      go_loopg [9, 11] n (fun k x b wr => ∃ (j : Nat) (z : Int), j + k = n ∧ b = .int .i64 z ∧ Hid (z = (p + (j : Int)) * s) ∧ Hid (wr.ownsRow w'.heap.size 3 1 x j (B64 (wins p s j))) ∧ Hid (Below w'.heap.size w' wr))
      case atStart => exact ⟨0, f + s, by omega, rfl, HF, hid' (owns_nil _ _ _ _), hid' (Below.refl _ _)⟩
      case round =>
        obtain ⟨j, z, hj, rfl, HZ, HO, HB⟩ := hrel
        have hzr := HW.out.range j (by omega)
        rw [← HZ.out] at hzr
        have H4 := hid' (between_any v z (z + size - 1) wr)
        cases gk with
        | zero =>
          obtain rfl : j = n := by omega
          have hlt : ¬ z ≤ v := by have := HW.out.behind; rw [← HZ.out] at this; omega
          rw [decide_eq_false (fun h => hlt h.1)] at H4
          clear hlt
          go_wp2_with fail
          refine H4.out.mono ?_
          rintro e w2 ⟨rfl, rfl⟩
          go_wp2
          go_ret2
          exact ⟨_, rfl, by rw [hlen]; exact HO.out, HB.out⟩
        | succ k =>
          have hh := HW.out.holds j (by omega)
          rw [← HZ.out] at hh
          rw [decide_eq_true hh] at H4
          have hn64 := HW.out.many
          have hsz := HB.out.size
          have HN : Hid (z + s = (p + ((j + 1 : Nat) : Int)) * s) := by
            unfold Hid
            rw [HZ.out, show p + ((j + 1 : Nat) : Int) = p + (j : Int) + 1 by omega, Int.add_mul (p + (j : Int)) 1 s, Int.one_mul]
          have hzr2 := HW.out.range (j + 1) (by omega)
          rw [← HN.out] at hzr2
          have HAP : Hid (B64 (wins p s j) ++ [.int .i64 z] = B64 (wins p s (j + 1))) := by
            unfold Hid
            rw [wins_succ, B64_append, HZ.out]; rfl
          go_wp2_with fail
          refine H4.out.mono ?_
          rintro e w2 ⟨rfl, rfl⟩
          go_wp2_with (at_builtin; refine wpList_append_own _ rfl (.tmp 39) (.tmp 41) 22 rfl w'.heap.size 3 iI (.int .i64 0) 1 8 Try.underlying22 hiI hI0 hI1 hI2 rfl (by decide) _ _ _ rfl (HO.out.alloc _) ⟨w2.heap.size, 0, none⟩ 1 1 [.int .i64 z] rfl rfl (cell_one_new _ _ _) (by intro u hu; simp at hu; subst hu; rfl) (by unfold maxLen; omega) (by omega) (by simp; omega) ?_; intro v3 w3 hown3 hgrow3 hnil3)
          have hgr3 : (w2.alloc (.cells #[.int .i64 z] 3)).grownBy w3 u9.ownBlock := hgrow3
          have hb3 : Hid (Below w'.heap.size w' w3) := (HB.out.alloc hsz _).grown hgr3 (by simp; omega) (fun q hq => (HO.out.lt q hq).1)
          rw [HAP.out] at hown3
          have HO3 := hid' hown3
          clear hgrow3 hnil3 hgr3 hown3
          go_roundg k
          case measure => omega
          case rel => exact ⟨j + 1, z + s, by omega, rfl, HN, HO3, hb3⟩
    · have HR : Hid (bkT v size s = ([], 60)) := by unfold Hid bkT; rw [if_pos hc, if_neg hv]
      generalize bkT v size s = R at HR ⊢
      rw [HR.out]
      clear HR
      rw [hc] at H1
      rw [decide_eq_false hv] at H2
      clear hc hv hz hs hm
      go_enter Try.func6, Try.ntmps6
      go_wp2_with fail
      refine H1.out.mono ?_
      rintro e w' ⟨rfl, rfl⟩
      go_wp2_with fail
      refine H2.out.mono ?_
      rintro e w' ⟨rfl, rfl⟩
      go_wp2
      go_ret2
      exact ⟨_, rfl, owns_nil _ _ _ _, Below.refl _ _⟩
  · have HR : Hid (bkT v size s = ([], chkT size s)) := by unfold Hid bkT; rw [if_neg hc]
    generalize bkT v size s = R at HR ⊢
    rw [HR.out]
    clear HR H2
    have hne : ((chkT size s) == 0) = false := by simpa using hc
    generalize chkT size s = c at H1 hc hne ⊢
    go_enter Try.func6, Try.ntmps6
    go_wp2_with fail
    refine H1.out.mono ?_
    rintro e w' ⟨rfl, rfl⟩
    go_wp2
    go_ret2
    exact ⟨_, rfl, owns_nil _ _ _ _, Below.refl _ _⟩

end Go.Proofs.Ytioldkilfeemfaa
