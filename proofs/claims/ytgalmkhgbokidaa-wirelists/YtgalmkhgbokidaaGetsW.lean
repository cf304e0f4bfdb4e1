/-
  What is proved here: the law WireGets answers true at all bytes and every number and writes nothing that was there.
-/
import Derived.Test.YtgalmkhgbokidaaSSf
namespace Go.Proofs.Ytgalmkhgbokidaa
open Go.RowKit Go.Proofs
set_option maxRecDepth 20000
set_option linter.unusedVariables false
set_option linter.unusedSimpArgs false

/-- Two that look from one place on tell the same. -/
theorem gcase_uniq {α : Type} {f : α → List Int} {D : α → Prop} {d : α} {l : List Int} {at' : Int} {x y : α} {nx er nx' er' : Int} (hpf : PF f D)
    (h3 : ((at' < 0 ∨ (l.length : Int) < at') ∧ x = d ∧ nx = 0 ∧ er = 9) ∨ (0 ≤ at' ∧ at' ≤ l.length ∧ er = 0 ∧ D x ∧ l.drop at'.toNat = f x ++ l.drop nx.toNat ∧ (nx.toNat : Int) = nx ∧ nx.toNat ≤ l.length) ∨ (0 ≤ at' ∧ at' ≤ l.length ∧ er = 6 ∧ x = d ∧ nx = 0 ∧ ∀ y r, D y → l.drop at'.toNat ≠ f y ++ r))
    (k3 : ((at' < 0 ∨ (l.length : Int) < at') ∧ y = d ∧ nx' = 0 ∧ er' = 9) ∨ (0 ≤ at' ∧ at' ≤ l.length ∧ er' = 0 ∧ D y ∧ l.drop at'.toNat = f y ++ l.drop nx'.toNat ∧ (nx'.toNat : Int) = nx' ∧ nx'.toNat ≤ l.length) ∨ (0 ≤ at' ∧ at' ≤ l.length ∧ er' = 6 ∧ y = d ∧ nx' = 0 ∧ ∀ y r, D y → l.drop at'.toNat ≠ f y ++ r)) :
    x = y ∧ nx = nx' ∧ er = er' ∧ (x = d ∨ D x) := by
  rcases h3 with ⟨h4, rfl, rfl, rfl⟩ | ⟨h4, h5, rfl, h6, h7, h8, h9⟩ | ⟨h4, h5, rfl, rfl, rfl, h6⟩
  · rcases k3 with ⟨k4, rfl, rfl, rfl⟩ | ⟨k4, k5, rfl, k6, k7, k8, k9⟩ | ⟨k4, k5, rfl, rfl, rfl, k6⟩
    · exact ⟨rfl, rfl, rfl, .inl rfl⟩
    · omega
    · omega
  · rcases k3 with ⟨k4, rfl, rfl, rfl⟩ | ⟨k4, k5, rfl, k6, k7, k8, k9⟩ | ⟨k4, k5, rfl, rfl, rfl, k6⟩
    · omega
    · obtain ⟨rfl, e2⟩ := hpf x y _ _ h6 k6 (h7.symm.trans k7)
      have : nx = nx' := by
        have := congrArg List.length e2
        rw [List.length_drop, List.length_drop] at this
        omega
      subst this
      exact ⟨rfl, rfl, rfl, .inr h6⟩
    · exact absurd h7 (k6 _ _ h6)
  · rcases k3 with ⟨k4, rfl, rfl, rfl⟩ | ⟨k4, k5, rfl, k6, k7, k8, k9⟩ | ⟨k4, k5, rfl, rfl, rfl, k6⟩
    · omega
    · exact absurd k7 (h6 _ _ k6)
    · exact ⟨rfl, rfl, rfl, .inl rfl⟩

theorem Nice.sm {c : Cm} (h : c = c0 ∨ Nice c) : Sm c := by
  rcases h with rfl | h
  · exact ⟨by decide, by decide, by decide⟩
  · have h1 := h.row.1
    have h2 := h.front.1
    have h3 := h.sheet.1
    exact ⟨by omega, by omega, by omega⟩

set_option maxHeartbeats 8000000 in
theorem gets_walk (w : World) (a : Option Addr) (cap : Nat) (l : List Int) (z : Int) (hb : Bts w.heap.size w a l) (hsh : Sh a l.length cap) :
    Calls Try.prog 4 #[.slice a l.length cap, .int .i64 z] w fun e w' => e = .returned (.bool true) ∧ Below w.heap.size w w' := by
  have HC := hid' hsh.2
  clear hsh
  by_cases hbig : 3000 < l.length
  · clear hb
    generalize l.length = ln at *
    have HL := hid' (live_any w)
    have h' : (3000 : Int) < (ln : Int) := by omega
    go_enter Try.func4, Try.ntmps4
    go_wp2_with fail
    refine HL.out.mono ?_
    rintro e w1 ⟨rfl, hb1⟩
    go_wp2
    go_ret
    exact ⟨rfl, hb1⟩
  · have h' : ¬ (3000 : Int) < (l.length : Int) := by omega
    have HBT := hid' hb
    have HG1 := hid' (wGet_any w a cap l z hb HC.out (by omega))
    have HG2 := hid' (fun W (hW : Below w.heap.size w W) => rGet_any W a cap l z ((HBT.out.keep hW).mono hW.size) HC.out (by omega))
    have HG3 := hid' (fun W (hW : Below w.heap.size w W) => getFront_any W a cap l z ((HBT.out.keep hW).mono hW.size) HC.out (by omega))
    have HG4 := hid' (fun W (hW : Below w.heap.size w W) => rGetFront_any W a cap l z ((HBT.out.keep hW).mono hW.size) HC.out (by omega))
    obtain ⟨ln, hln⟩ : ∃ n, l.length = n := ⟨_, rfl⟩
    rw [hln] at h' HG1 HG2 HG3 HG4 ⊢
    clear hb hbig hln
    go_enter Try.func4, Try.ntmps4
    go_wp2_with fail
    refine HG1.out.mono ?_
    rintro e1 w1 ⟨x1, v1, nx1, er1, rfl, ⟨s1, hv1, hc1⟩, hb1, hk1⟩
    subst hv1
    have HK1 := hid' hk1
    have BA1 := (Below.refl w1.heap.size w1).alloc (Nat.le_refl _) (.cells (cmA x1 s1) 31)
    have HX1 := hid' (Bx.new w1 (cmA x1 s1) 31)
    have HB1 := hid' (bel_trans' hb1 BA1)
    have HC1 := hid' (hc1.on BA1)
    have HC2 := hid' (HG2.out _ HB1.out)
    have hge1 : w.heap.size ≤ w1.heap.size := hb1.size
    obtain ⟨g1, hg1⟩ : ∃ n, w1.heap.size = n := ⟨_, rfl⟩
    have HG := hid' hg1
    clear hb1 HG1 hk1 hc1 BA1 HG2
    unfold cmV
    obtain ⟨W1, hW1⟩ : ∃ W, w1.alloc (.cells (cmA x1 s1) 31) = W := ⟨_, rfl⟩
    have HW1 := hid' hW1
    rw [hW1] at HC2 HC1 HB1 HX1
    rw [hg1] at HX1
    unfold cmA at HW1 ⊢
    clear hW1 hg1
    go_wp2_with fail
    rw [HW1.out, HG.out]
    refine HC2.out.mono ?_
    rintro e2 w2 ⟨x, v2, nx, er, rfl, ⟨s2, hv2, hc2⟩, hb2, hk2⟩
    subst hv2
    obtain ⟨hx, rfl, rfl, hd⟩ := gcase_uniq pf_cmd HK1.out hk2
    subst hx
    have HSM := hid' (Nice.sm hd)
    have BA2 := (Below.refl w2.heap.size w2).alloc (Nat.le_refl _) (.cells (cmA x1 s2) 31)
    have HX2 := hid' (Bx.new w2 (cmA x1 s2) 31)
    have HY1 := hid' ((HX1.out.keep hb2).keep BA2)
    have HB2 := hid' (bel_trans' (bel_trans' HB1.out hb2) BA2)
    have HD1 := hid' ((HC1.out.on hb2).on BA2)
    have HD2 := hid' (hc2.on BA2)
    have HC3 := hid' (HG3.out _ HB2.out)
    obtain ⟨g2, hg2⟩ : ∃ n, w2.heap.size = n := ⟨_, rfl⟩
    have HGG := hid' hg2
    obtain ⟨W2, hW2⟩ : ∃ W, w2.alloc (.cells (cmA x1 s2) 31) = W := ⟨_, rfl⟩
    have HW2 := hid' hW2
    rw [hW2] at HX2 HY1 HB2 HD1 HD2 HC3
    rw [hg2] at HX2
    clear HK1 hk2 hc2 hb2 hd BA2 HG3 HX1 HB1 HC1 HC2 hW2 hg2 HW1 HG
    unfold cmV
    unfold cmA at HW2 ⊢
    go_wp2_with fail
    rw [HW2.out, HGG.out]
    refine HC3.out.mono ?_
    rintro e3 w3 ⟨y, u1, ny, fr, rfl, ⟨fa1, fc1, hu1, ht1, _⟩, hb3, hk3⟩
    subst hu1
    have HB3 := hid' (bel_trans' HB2.out hb3)
    have HX3 := hid' (HX2.out.keep hb3)
    have HY3 := hid' (HY1.out.keep hb3)
    have HE1 := hid' (HD1.out.on hb3)
    have HE2 := hid' (HD2.out.on hb3)
    have HT1 := hid' ht1
    have HK3 := hid' hk3
    have HC4 := hid' (HG4.out _ HB3.out)
    clear hb3 ht1 hk3 HG4 HC3 HX2 HY1 HB2 HD1 HD2 HW2 HGG
    go_wp2_with fail
    refine HC4.out.mono ?_
    rintro e4 w4 ⟨y', u2, ny', fr', rfl, ⟨fa2, fc2, hu2, ht2, _⟩, hb4, hk4⟩
    subst hu2
    obtain ⟨hy, rfl, rfl, hd⟩ := gcase_uniq pf_front HK3.out hk4
    subst hy
    have hY : y.length ≤ 1000000 := by
      rcases hd with rfl | h
      · decide
      · have := h.1; omega
    have HB4 := hid' (bel_trans' HB3.out hb4)
    have hX4 := HX3.out.keep hb4
    have hY4 := HY3.out.keep hb4
    have HF1 := hid' (HE1.out.on hb4)
    have HF2 := hid' (HE2.out.on hb4)
    have HTA := hid' (SP.on HT1.out hb4)
    have HTB := hid' ht2
    obtain ⟨n0, n1, n2, n3, n4, n5, n6, n7, n8⟩ := cm_cells hY4
    -- the two lists of one command
    have BP1 := (Below.refl w4.heap.size w4).alloc (Nat.le_refl _) (.cells (cmA x1 s1) 31)
    have Z1 := Bx.new w4 (cmA x1 s1) 31
    obtain ⟨m0, m1, m2, m3, m4, m5, m6, m7, m8⟩ := cm_cells (hX4.keep BP1)
    unfold cmA at m0 m1 m2 m3 m4 m5 m6 m7 m8
    obtain ⟨W5, hW5⟩ : ∃ W, w4.alloc (.cells (cmA x1 s1) 31) = W := ⟨_, rfl⟩
    have HW5 := hid' hW5
    rw [hW5] at BP1 Z1
    have BP2 := (Below.refl W5.heap.size W5).alloc (Nat.le_refl _) (.cells (cmA x1 s2) 31)
    have Z2 := Bx.new W5 (cmA x1 s2) 31
    have BP := bel_trans' BP1 BP2
    have HSAME := hid' (rSame_false (fun _ => True) (fun _ => True) _ _ _ 1 1 [(x1, s1)] [(x1, s2)] (Cms.one (Z1.keep BP2) trivial ((HF1.out.on BP).mono (fun _ _ => trivial))) (Cms.one Z2 trivial ((HF2.out.on BP).mono (fun _ _ => trivial))) rfl (by simp) (fun i hi => by
      have : i = 0 := by simpa using hi
      subst this
      exact AlC.refl _) (fun q hq => by simp at hq; subst hq; exact HSM.out))
    have HMS := hid' (fun W (hW : Below (W5.alloc (.cells (cmA x1 s2) 31)).heap.size (W5.alloc (.cells (cmA x1 s2) 31)) W) => mSame_any _ _ W fa1 fa2 fc1 fc2 y (SP.on HTA.out (bel_trans' BP hW)) (SP.on HTB.out (bel_trans' BP hW)) hY)
    have HBE := hid' (bel_trans' HB4.out BP)
    obtain ⟨W6, hW6⟩ : ∃ W, W5.alloc (.cells (cmA x1 s2) 31) = W := ⟨_, rfl⟩
    have HW6 := hid' hW6
    rw [hW6] at HSAME HMS HBE
    obtain ⟨g5, hg5⟩ : ∃ n, W5.heap.size = n := ⟨_, rfl⟩
    have HG5 := hid' hg5
    rw [hg5] at HSAME
    have HG4 : Hid (g5 = w4.heap.size + 1) := by rw [← hg5, ← hW5]; exact World.size_alloc _ _
    unfold cmA at HW5 HW6
    have HLV := hid' live_any
    clear hX4 hY4 hb4 ht2 hk4 hd HK3 HX3 HY3 HE1 HE2 HT1 HC4 HB3 BP1 BP2 BP Z1 Z2 hW5 hW6 hg5 HF1 HF2 HTA HTB HSM
    simp only [List.length_cons, List.length_nil, Nat.zero_add] at HSAME
    go_wp2_with fail
    rw [HW5.out, HW6.out, ← HG4.out]
    refine HSAME.out.mono ?_
    rintro e w7 ⟨rfl, hb7⟩
    have HB7 := hid' (bel_trans' HBE.out hb7)
    have HM7 := hid' (HMS.out w7 hb7)
    clear hb7 HSAME HMS HBE HW5 HW6 HG5 HG4 m0 m1 m2 m3 m4 m5 m6 m7 m8 n0 n1 n2 n3 n4 n5 n6 n7 n8
    go_wp2_with fail
    refine (code_any er1 _).mono ?_
    rintro e w8 ⟨rfl, rfl⟩
    go_wp2_with fail
    refine HM7.out.mono ?_
    rintro e w9 ⟨rfl, hb9⟩
    have HB9 := hid' (bel_trans' HB7.out hb9)
    clear hb9 HM7
    go_wp2_with fail
    refine (code_any fr _).mono ?_
    rintro e w10 ⟨rfl, rfl⟩
    go_wp2_with fail
    refine (HLV.out _).mono ?_
    rintro e w11 ⟨rfl, hb11⟩
    go_wp2
    go_ret
    exact ⟨rfl, bel_trans' HB9.out hb11⟩

end Go.Proofs.Ytgalmkhgbokidaa
