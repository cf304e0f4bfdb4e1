/-
  What is proved here: the law FrontPairs answers true at every two lists of times.
-/
import Derived.Test.YtaadbjnfnmjkfaaJoin
namespace Go.Proofs.Ytaadbjnfnmjkfaa
open Go.RowKit Go.Proofs
set_option linter.unusedVariables false
set_option linter.unusedSimpArgs false

theorem IsL.at {l : List T} {v : Value} {w w' : World} (h : IsL l v w) (hb : Below w.heap.size w w') : IsL l v w' := h.on hb

theorem isJoin_eq {f g : List T} {u v : Value} {w w' : World} (h : IsJoin f g u w) (h' : IsJoin f g v w') : ∃ s, s.length ≤ 1000000 ∧ IsL s u w ∧ IsL s v w' := by
  obtain ⟨J, s, h1, h2, h3, h4⟩ := h
  obtain ⟨J', s', h1', h2', h3', h4'⟩ := h'
  obtain rfl : s = s' := h1.eq h1' (fun t => (h2 t).trans (h2' t).symm)
  exact ⟨s, h3, h4, h4'⟩

set_option maxRecDepth 20000 in
set_option maxHeartbeats 4000000 in
theorem pairs_walk (w : World) (a : Option Addr) (ca : Nat) (f : List T) (b : Option Addr) (cb : Nat) (g : List T) (hu : IsL f (.slice a f.length ca) w) (hv : IsL g (.slice b g.length cb) w) :
    Calls Try.prog 4 #[.slice a f.length ca, .slice b g.length cb] w fun e w' => e = .returned (.bool true) ∧ Below w.heap.size w w' := by
  obtain ⟨n, hn⟩ : ∃ n, f.length = n := ⟨_, rfl⟩
  obtain ⟨m, hm⟩ : ∃ m, g.length = m := ⟨_, rfl⟩
  rw [hn] at hu ⊢
  rw [hm] at hv ⊢
  have HU := hid' hu
  have HV := hid' hv
  have HMU := hid' (much_any w a b n m ca cb)
  by_cases hbig : 40 < n ∨ 40 < m
  · have e : (decide (40 < n) || decide (40 < m)) = true := by simpa using hbig
    rw [e] at HMU
    have HLV := hid' (live_any w)
    clear hbig e hu hv hn hm
    go_enter Try.func4, Try.ntmps4
    go_wp2_with fail
    refine HMU.out.mono ?_
    rintro e w1 ⟨rfl, rfl⟩
    go_wp2_with fail
    refine HLV.out.mono ?_
    rintro e w2 ⟨rfl, hb⟩
    go_wp2
    go_ret
    exact ⟨rfl, hb⟩
  · have e : (decide (40 < n) || decide (40 < m)) = false := by simp; omega
    rw [e] at HMU
    have HF : Hid (f.length ≤ 40) := by unfold Hid; omega
    have HG : Hid (g.length ≤ 40) := by unfold Hid; omega
    clear hbig e hu hv hn hm
    go_enter Try.func4, Try.ntmps4
    go_wp2_with fail
    refine HMU.out.mono ?_
    rintro e w1 ⟨rfl, rfl⟩
    clear HMU
    have H1 := hid' (FLE_any w1 f g _ _ HU.out HV.out (by have := HF.out; omega) (by have := HG.out; omega))
    go_wp2_with fail
    refine H1.out.mono ?_
    rintro e w2 ⟨p1, rfl, hp1, hb2⟩
    have HP1 := hid' hp1
    have H2 := hid' (rFLE_L w2 f g _ _ (HU.out.on hb2) (HV.out.on hb2) (by have := HF.out; omega) (by have := HG.out; omega))
    clear H1 hp1
    go_wp2_with fail
    refine H2.out.mono ?_
    rintro e w3 ⟨p2, rfl, hp2, hb3⟩
    obtain rfl : p1 = p2 := bool_eq (HP1.out.trans hp2.symm)
    have hb13 : Below w1.heap.size w1 w3 := hb2.trans (hb3.mono hb2.size)
    have H3 := hid' (Meet_any w3 f g _ _ (HU.out.on hb13) (HV.out.on hb13) (by have := HF.out; omega) (by have := HG.out; omega))
    clear H2 hp2 HP1 hb2 hb3
    have hpp : (p1 == p1) = true := by simp
    go_wp2_with fail
    refine H3.out.mono ?_
    rintro e w4 ⟨x4, s4, rfl, hs4, hl4, hx4, hb4⟩
    have hb14 : Below w1.heap.size w1 w4 := hb13.trans (hb4.mono hb13.size)
    have HX4 := hid' hx4
    have HS4 := hid' hs4
    have HL4 := hid' hl4
    have H4 := hid' (Both_L w4 f g _ _ (HU.out.on hb14) (HV.out.on hb14) (by have := HF.out; omega) (by have := HG.out; omega))
    clear H3 hs4 hl4 hx4 hb4 hb13 hpp
    go_wp2_with fail
    refine H4.out.mono ?_
    rintro e w5 ⟨x5, rfl, hx5, hb5⟩
    have H5 := hid' (rNew_L w5 (f ++ g) x5 hx5 (by have := HF.out; have := HG.out; rw [List.length_append]; omega))
    clear H4 hx5
    go_wp2_with fail
    refine H5.out.mono ?_
    rintro e w6 ⟨x6, s6, rfl, hs6, hl6, hx6, hb6⟩
    obtain rfl : s4 = s6 := HS4.out.eq hs6 (fun _ => Iff.rfl)
    have H6 := hid' (same_L w6 s4 s4 x4 x6 (HX4.out.on (hb5.trans (hb6.mono hb5.size))) hx6 (by have := HF.out; have := HG.out; have := HL4.out; omega) (by have := HF.out; have := HG.out; have := HL4.out; omega))
    rw [decide_eq_true rfl] at H6
    clear H5 hs6 hl6 hx6
    go_wp2_with fail
    refine H6.out.mono ?_
    rintro e w7 ⟨rfl, hb7⟩
    have hb17 : Below w1.heap.size w1 w7 := hb14.trans (((hb5.trans (hb6.mono hb5.size)).trans (hb7.mono (hb5.trans (hb6.mono hb5.size)).size)).mono hb14.size)
    have H7 := hid' (Join_any w7 f g _ _ (HU.out.on hb17) (HV.out.on hb17) (by have := HF.out; omega) (by have := HG.out; omega))
    clear H6 hb5 hb6 hb7 hb14 HX4 HS4 HL4
    go_wp2_with fail
    refine H7.out.mono ?_
    rintro e w8 ⟨x8, rfl, hj8, hb8⟩
    have hb18 : Below w1.heap.size w1 w8 := hb17.trans (hb8.mono hb17.size)
    have HJ8 := hid' hj8
    have H8 := hid' (rJoin_L w8 f g _ _ (HU.out.on hb18) (HV.out.on hb18) (by have := HF.out; omega) (by have := HG.out; omega))
    clear H7 hj8 hb8 hb17
    go_wp2_with fail
    refine H8.out.mono ?_
    rintro e w9 ⟨x9, rfl, hj9, hb9⟩
    obtain ⟨s9, hl9, hsx, hsy⟩ := isJoin_eq ((isJoin_lasts f g) _ _ _ HJ8.out hb9) hj9
    have H9 := hid' (same_L w9 s9 s9 x8 x9 hsx hsy (by omega) (by omega))
    rw [decide_eq_true rfl] at H9
    clear H8 hj9 hsx hsy hl9 HJ8
    go_wp2_with fail
    refine H9.out.mono ?_
    rintro e w10 ⟨rfl, hb10⟩
    have hb110 : Below w1.heap.size w1 w10 := hb18.trans ((hb9.trans (hb10.mono hb9.size)).mono hb18.size)
    have H10 := hid' (FSame_any w10 f g _ _ (HU.out.on hb110) (HV.out.on hb110) (by have := HF.out; omega) (by have := HG.out; omega))
    clear H9 hb9 hb10 hb18
    go_wp2_with fail
    refine H10.out.mono ?_
    rintro e w11 ⟨q, rfl, hq, hb11⟩
    have hb111 : Below w1.heap.size w1 w11 := hb110.trans (hb11.mono hb110.size)
    have HQ := hid' hq
    have H11 := hid' (rNew_L w11 f _ (HU.out.on hb111) (by have := HF.out; omega))
    clear H10 hq hb11 hb110
    go_wp2_with fail
    refine H11.out.mono ?_
    rintro e w12 ⟨x12, s12, rfl, hs12, hl12, hx12, hb12⟩
    have hb112 : Below w1.heap.size w1 w12 := hb111.trans (hb12.mono hb111.size)
    have HX12 := hid' hx12
    have HS12 := hid' hs12
    have HL12 := hid' hl12
    have H12 := hid' (rNew_L w12 g _ (HV.out.on hb112) (by have := HG.out; omega))
    clear H11 hs12 hl12 hx12 hb12 hb111
    go_wp2_with fail
    refine H12.out.mono ?_
    rintro e w13 ⟨x13, s13, rfl, hs13, hl13, hx13, hb13⟩
    have hb113 : Below w1.heap.size w1 w13 := hb112.trans (hb13.mono hb112.size)
    have H13 := hid' (same_L w13 s12 s13 x12 x13 (HX12.out.on hb13) hx13 (by have := HF.out; have := HL12.out; omega) (by have := HG.out; omega))
    have HSS := hid' (steps_same HS12.out hs13)
    clear H12 hs13 hl13 hx13 hb13 hb112
    go_wp2_with fail
    refine H13.out.mono ?_
    rintro e w14 ⟨rfl, hb14⟩
    have hb114 : Below w1.heap.size w1 w14 := hb113.trans (hb14.mono hb113.size)
    have hqd : decide (s12 = s13) = q := bool_eq (by simp only [decide_eq_true_eq]; exact HSS.out.trans HQ.out.symm)
    rw [hqd]
    clear H13 hqd hb14 hb113
    have hqq : (q == q) = true := by simp
    go_wp2_with fail
    refine (live_any w14).mono ?_
    rintro e w15 ⟨rfl, hb15⟩
    go_wp2
    go_ret
    exact ⟨rfl, hb114.trans (hb15.mono hb114.size)⟩

end Go.Proofs.Ytaadbjnfnmjkfaa
