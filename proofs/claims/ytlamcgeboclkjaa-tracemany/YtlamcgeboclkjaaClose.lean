/-
  What is proved here: a trace's Close, Allow, Readers.
-/
import Derived.Test.YtlamcgeboclkjaaFollow
namespace Go.Proofs.Ytlamcgeboclkjaa
open Go.RowKit Go.Maps
set_option linter.unusedVariables false
set_option linter.unusedSimpArgs false

set_option maxRecDepth 10000 in
set_option maxHeartbeats 2000000 in
theorem readers_any {w : World} {G S M nn : Nat} {ks : Int → Prop} {cnt : Nat} {f : Int → T} {nx : Nat} {sx : T} (h : St w G S M nn ks cnt f nx sx) (hcnt : cnt ≤ 1000) :
    Calls Try.prog 9 #[.pointer (some ⟨G, 0, none⟩)] w fun e w' => ∃ a c, e = .returned (.slice a cnt c) ∧ Below w.heap.size w w' := by
  have HN := hid' (numbers_any h hcnt)
  clear h
  go_enter Try.func9, Try.ntmps9
  go_wp2_with fail
  refine (own_any G w).mono ?_
  rintro e w' ⟨rfl, rfl⟩
  go_wp2_with fail
  refine HN.out.mono ?_
  rintro e w1 ⟨v, ss, rfl, hlen, _, _, hrow, hb⟩
  clear HN
  obtain ⟨a, c, rfl⟩ : ∃ a c, v = .slice a cnt c := by
    rcases hrow.2 with ⟨e, h0⟩ | ⟨g, cap, cur, e, _⟩
    · exact ⟨none, 0, by rw [e, ← hlen, h0]⟩
    · exact ⟨_, cap, by rw [e, hlen]⟩
  clear hrow
  go_wp2
  go_ret
  exact ⟨a, c, rfl, hb⟩

set_option maxRecDepth 10000 in
set_option maxHeartbeats 2000000 in
/-- Close of a reader that is there, where others stay. -/
theorem close_any {w : World} {G S M nn : Nat} {ks : Int → Prop} {cnt : Nat} {f : Int → T} {nx : Nat} {sx : T} (h : St w G S M nn ks cnt f nx sx) (z : Int) (hz : R64 z) (hk : ks z) (hcnt : cnt ≤ 1000)
    (y : T) (hy : 1 < cnt → (∃ q, (ks q ∧ q ≠ z) ∧ f q = y) ∧ (∀ q, ks q ∧ q ≠ z → le2 y (f q) = true) ∧ checkT y = 0 ∧ le2 sx y = true) (hy0 : ¬ 1 < cnt → y = sx) :
    Calls Try.prog 8 #[.pointer (some ⟨G, 0, none⟩), .int .i64 z] w fun e w' => e = .returned (.int .i64 0) ∧ St w' G S M nn (fun q => ks q ∧ q ≠ z) (cnt - 1) f nx y ∧ Kp G S M w w' := by
  have HH := hid' h
  have HF := hid' (frontier_any h z hz hk)
  have c1 := h.cellsG.2.1
  obtain ⟨D, hown, hc, hkk, hv⟩ := h.mp
  have HK := hid' hkk
  have HV := hid' hv
  have HC := hid' hc
  have hkey := key3 hz
  have HY := hid' hy
  have HY0 := hid' hy0
  have HKZ := hid' hk
  clear h hc hkk hv hy hy0 hk
  go_enter Try.func8, Try.ntmps8
  go_wp2_with fail
  refine (own_any G w).mono ?_
  rintro e w' ⟨rfl, rfl⟩
  go_wp2_with fail
  refine HF.out.mono ?_
  rintro e w1 ⟨v, rfl, hone, rfl⟩
  clear HF hone
  go_wp2_with (first | (at_delete; refine wpList_delete_own _ rfl _ _ 40 3 rfl 32 keyed3 Try.underlying40 heldR M nn D rfl hown _ _ rfl hkey ?_; intro w2 hown2 hturn2) | fail)
  have H2 := hid' (HH.out.del hown HC.out HK.out HV.out hown2 hturn2.grown HKZ.out)
  have K2 : Hid (Kp G S M w1 w2) := Kp.of_grown hturn2.grown
  have HFO : Hid (Calls Try.prog 20 #[.pointer (some ⟨G, 0, none⟩)] w2 fun e w' => e = .returned (.tuple #[]) ∧ St w' G S M nn (fun q => ks q ∧ q ≠ z) (cnt - 1) f nx y ∧ Kp G S M w2 w') := by
    by_cases h1 : 1 < cnt
    · obtain ⟨q1, q2, q3, q4⟩ := HY.out h1
      exact follow_any H2.out (by omega) (by omega) y q1 q2 q3 q4
    · have h2 := H2.out
      have e : cnt - 1 = 0 := by omega
      rw [e] at h2 ⊢
      refine (follow_none h2).mono ?_
      rintro e w3 ⟨rfl, rfl⟩
      exact ⟨rfl, by rw [HY0.out h1]; exact h2, Kp.of_below (Below.refl _ _)⟩
  clear hown2 hturn2 hown HY HY0
  go_wp2_with fail
  refine HFO.out.mono ?_
  rintro e w3 ⟨rfl, h3, k3⟩
  clear HFO
  go_wp2
  go_ret
  exact ⟨rfl, h3, K2.out.trans k3⟩

set_option maxRecDepth 10000 in
set_option maxHeartbeats 2000000 in
/-- Allow of a reader that is there. -/
theorem allow_any {w : World} {G S M nn : Nat} {ks : Int → Prop} {cnt : Nat} {f : Int → T} {nx : Nat} {sx : T} (h : St w G S M nn ks cnt f nx sx) (z : Int) (hz : R64 z) (hk : ks z) (hcnt : cnt ≤ 1000) (hpos : 0 < cnt) (hnn : nn ≤ 1000)
    (x : T) (v : Value) (hx : One x v w) (hck : checkT x = 0) (hle : le2 (f z) x = true) (f' : Int → T) (hfz : f' z = x) (hf : ∀ q, ks q → q ≠ z → f' q = f q)
    (y : T) (hy : ∃ q, (q = z ∨ ks q) ∧ f' q = y) (hmin : ∀ q, q = z ∨ ks q → le2 y (f' q) = true) (hcy : checkT y = 0) (hly : le2 sx y = true) :
    Calls Try.prog 11 #[.pointer (some ⟨G, 0, none⟩), .int .i64 z, v] w fun e w' => e = .returned (.int .i64 0) ∧ St w' G S M (nn + 1) (fun q => q = z ∨ ks q) cnt f' nx y ∧ Kp G S M w w' := by
  have mixed : Try.prog.follows .mixedOrders = true := by kernel_rfl
  have HH := hid' h
  have HX := hid' hx
  have HF := hid' (frontier_any h z hz hk)
  have HCK := hid' (check_one x v w hx hck)
  obtain ⟨g, c, rfl⟩ : ∃ g c, v = .slice (some ⟨g, 0, none⟩) 1 c := by obtain ⟨_, g, c, _, e, _⟩ := hx; exact ⟨g, c, e⟩
  have HY := hid' hy
  have HM := hid' hmin
  have HKZ := hid' hk
  have HFF := hid' hf
  clear h hx hck hy hmin hk hf
  go_enter Try.func11, Try.ntmps11
  go_wp2_with fail
  refine (own_any G w).mono ?_
  rintro e w' ⟨rfl, rfl⟩
  go_wp2_with fail
  refine HF.out.mono ?_
  rintro e w1 ⟨vo, rfl, hone, rfl⟩
  clear HF
  have HO := hid' hone
  clear hone
  go_wp2_with fail
  refine HCK.out.mono ?_
  rintro e w2 ⟨rfl, hb2⟩
  clear HCK
  have H2 := hid' (HH.out.on hb2)
  have X2 := hid' (HX.out.on hb2)
  have HLE := hid' (le_one (f z) x vo _ w2 (HO.out.on hb2) X2.out hle)
  go_wp2_with fail
  refine HLE.out.mono ?_
  rintro e w4 ⟨rfl, hb4⟩
  clear HLE
  have H4 := hid' (H2.out.on hb4)
  have X4 := hid' (X2.out.on hb4)
  have HB := hid' (hb2.trans (hb4.mono hb2.size))
  clear hb2 hb4 H2 X2 HH HX HO
  go_wp2
  refine PT.wp_region_tail 7 (PB.phi [PB.E (.pointer (some ⟨G, 0, none⟩)), PB.E (.pointer (some ⟨G, 0, none⟩)), PB.E (.pointer (some ⟨G, 1, none⟩)), PB.E (.map (some M)), PB.E (.int .i64 z), PB.E (.slice (some ⟨g, 0, none⟩) 1 c), One x]) mixed (by kernel_rfl)
    (PB.phi_lasts _ ⟨PB.E_lasts _, PB.E_lasts _, PB.E_lasts _, PB.E_lasts _, PB.E_lasts _, PB.E_lasts _, one_lasts _, trivial⟩) ?_ ?_
  · refine ⟨?_, ?_, ?_, ?_, ?_, ?_, ?_, trivial⟩ <;> intro A W hB hS hA hF
    · exact Or.inl (PB.does_move (PB.wanted_free rfl) rfl (hS.slots 7 rfl))
    · exact Or.inl (PB.does_run (PB.wanted_free rfl) (runT_nil W (hA 0 rfl)) rfl)
    · exact Or.inl (PB.does_run (PB.wanted_free rfl) (runT_field1 W (hA 1 rfl)) rfl)
    · exact Or.inl (PB.does_run (PB.wanted_free rfl) (runT_loadM W (hA 2 rfl) ((H4.out).on hB).cellsG.2.1) rfl)
    · exact Or.inl (PB.does_move (PB.wanted_free rfl) rfl (hS.slots 1 rfl))
    · exact Or.inl (PB.does_move (PB.wanted_free rfl) rfl (hS.slots 2 rfl))
    · exact Or.inl (PB.does_call #[.slice (some ⟨g, 0, none⟩) 1 c] (PB.wanted_free rfl) rfl Try.func18 rfl rfl (by show [PB.slot A 36] = _; rw [show PB.slot A 36 = .slice (some ⟨g, 0, none⟩) 1 c from (hA 5 rfl)]) (clone_newB x _ W (X4.out.on hB)))
  · intro A W hB hS hL
    have h_31 : PB.slot A 31 = .pointer (some ⟨G, 0, none⟩) := hL 0 (by decide)
    have h_32 : PB.slot A 32 = .pointer (some ⟨G, 0, none⟩) := hL 1 (by decide)
    have h_33 : PB.slot A 33 = .pointer (some ⟨G, 1, none⟩) := hL 2 (by decide)
    have h_34 : PB.slot A 34 = .map (some M) := hL 3 (by decide)
    have h_35 : PB.slot A 35 = .int .i64 z := hL 4 (by decide)
    have h_36 : PB.slot A 36 = .slice (some ⟨g, 0, none⟩) 1 c := hL 5 (by decide)
    have hu : One x (PB.slot A 37) W := hL 6 (by decide)
    have q_7 : PB.slot A 7 = .pointer (some ⟨G, 0, none⟩) := hS.slots 7 rfl
    have hA := PT.frame_of (A := A) (n := 40) hS.size
    have hd : A.defers = [] := hS.defers
    rw [hd] at hA
    obtain ⟨fr, hf⟩ : ∃ f, PB.slot A = f := ⟨_, rfl⟩
    rw [hf] at hA h_31 h_32 h_33 h_34 h_35 h_36 q_7 hu
    rw [hA]
    clear hA hf hd hL hS
    simp only [List.range, List.range.loop, List.map_cons, List.map_nil, List.drop_succ_cons, List.drop_zero, h_31, h_32, h_33, h_34, h_35, h_36, q_7]
    clear h_31 h_32 h_33 h_34 h_35 h_36 q_7
    obtain ⟨u5, hu5⟩ : ∃ q, fr 37 = q := ⟨_, rfl⟩
    rw [hu5] at hu ⊢
    clear hu5
    have H5 := hid' (H4.out.on hB)
    obtain ⟨D5, hown5, hc5, hk5, hv5⟩ := H5.out.mp
    have HK5 := hid' hk5
    have HV5 := hid' hv5
    have HC5 := hid' hc5
    have HU := hid' hu
    have KB := hid' hB
    clear hk5 hv5 hc5 hu hB
    have hkey := key3 hz
    have hmax : nn < maxLen := by unfold maxLen; omega
    go_wp2_with (first | (at_mapUpdate; refine wpList_mapUpdate_own _ rfl _ _ _ 40 rfl 3 32 keyed3 Try.underlying40 heldR M nn D5 rfl hown5 hmax _ _ (.int .i64 z) rfl rfl hkey (.held u5) [] rfl ?_; intro w6 hown6 hg6) | fail)
    have H6 := hid' (H5.out.put hown5 HC5.out HK5.out HV5.out hz hown6 hg6 (f' := f') (cnt' := cnt) (by rw [hfz]; exact HU.out) HFF.out (fun _ => rfl) (fun e => absurd HKZ.out e))
    have HFO := hid' (follow_any H6.out (by omega) hpos y HY.out HM.out hcy hly)
    have K6 : Hid (Kp G S M w1 w6) := (Kp.of_below HB.out).trans ((Kp.of_below KB.out).trans (Kp.of_grown hg6))
    clear hown6 hg6 hown5 HY HM
    go_wp2_with fail
    refine HFO.out.mono ?_
    rintro e w7 ⟨rfl, h7, k7⟩
    clear HFO
    go_wp2
    go_ret
    exact ⟨rfl, h7, K6.out.trans k7⟩


end Go.Proofs.Ytlamcgeboclkjaa
