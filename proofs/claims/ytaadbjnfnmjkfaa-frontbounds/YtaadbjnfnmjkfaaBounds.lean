/-
  What is proved here: the law FrontBounds answers true at every two lists of times and any time.
-/
import Derived.Test.YtaadbjnfnmjkfaaJoin
import Derived.Test.YtaadbjnfnmjkfaaTimes
namespace Go.Proofs.Ytaadbjnfnmjkfaa
open Go.RowKit Go.Proofs
set_option linter.unusedVariables false
set_option linter.unusedSimpArgs false

/-- LessEq, as a bool. -/
def leB (f g : List T) : Bool := g.all fun y => advB f y

theorem leB_iff (f g : List T) : leB f g = true ↔ leT f g := by
  simp [leB, leT, advB_iff]

theorem FLE_newB (f g : List T) (u v : Value) (w : World) (hu : IsL f u w) (hv : IsL g v w) (hf : f.length ≤ 1000000000) (hg : g.length ≤ 1000000000) :
    Calls Try.prog 17 #[u, v] w fun e w' => ∃ x, e = .returned x ∧ Below w.heap.size w w' ∧ PB.E (.bool (leB f g)) x w' :=
  (FLE_any w f g u v hu hv hf hg).mono fun e w' ⟨b, he, hb, hB⟩ => ⟨_, he, hB, congrArg Value.bool (bool_eq (hb.trans (leB_iff f g).symm))⟩

theorem Meet_newB (f g : List T) (u v : Value) (w : World) (hu : IsL f u w) (hv : IsL g v w) (hf : f.length ≤ 100000) (hg : g.length ≤ 100000) :
    Calls Try.prog 19 #[u, v] w fun e w' => ∃ x, e = .returned x ∧ Below w.heap.size w w' ∧ IsSteps (f ++ g) x w' :=
  (Meet_any w f g u v hu hv hf hg).mono fun e w' ⟨x, s, he, h1, h2, h3, hb⟩ => ⟨x, he, hb, s, h1, by rw [List.length_append]; exact h2, h3⟩

theorem Join_newB (f g : List T) (u v : Value) (w : World) (hu : IsL f u w) (hv : IsL g v w) (hf : f.length ≤ 100000) (hg : g.length ≤ 100000) :
    Calls Try.prog 21 #[u, v] w fun e w' => ∃ x, e = .returned x ∧ Below w.heap.size w w' ∧ IsJoin f g x w' :=
  (Join_any w f g u v hu hv hf hg).mono fun e w' ⟨x, he, h1, hb⟩ => ⟨x, he, hb, h1⟩

theorem adv_both (f g : List T) (t : T) : advB (f ++ g) t = (advB f t || advB g t) := by simp [advB]

theorem AheadM_newB {f g : List T} {t : T} {a b : Bool} (ha : advB f t = a) (hb : advB g t = b) (v : Value) (w : World) (h : IsSteps (f ++ g) v w) (hl : (f ++ g).length < 4611686018427387904) : Calls Try.prog 23 #[v, .agg #[.int .i64 t.1, .int .i64 t.2]] w fun e w' => ∃ v, e = .returned v ∧ Below w.heap.size w w' ∧ PB.E (.bool (a || b)) v w' := by
  have := AheadS_newB (f ++ g) t v w h hl
  rw [adv_both, ha, hb] at this
  exact this

theorem AheadJ_newB {f g : List T} {t : T} {a b : Bool} (ha : advB f t = a) (hb : advB g t = b) (v : Value) (w : World) (h : IsJoin f g v w) : Calls Try.prog 23 #[v, .agg #[.int .i64 t.1, .int .i64 t.2]] w fun e w' => ∃ v, e = .returned v ∧ Below w.heap.size w w' ∧ PB.E (.bool (a && b)) v w' := by
  obtain ⟨J, s, h1, h2, h3, h4⟩ := h
  have e : advB s t = (a && b) := bool_eq (by rw [advB_iff, h1.adv, h2, ← advB_iff, ← advB_iff, ha, hb]; simp)
  have := Ahead_newB s t v w h4 (by omega)
  rw [e] at this
  exact this

theorem FLE_meet {f g : List T} (u v : Value) (w : World) (hu : IsSteps (f ++ g) u w) (hv : IsL f v w) (hf : f.length ≤ 100000) (hg : g.length ≤ 100000) :
    Calls Try.prog 17 #[u, v] w fun e w' => ∃ x, e = .returned x ∧ Below w.heap.size w w' ∧ PB.E (.bool true) x w' := by
  obtain ⟨s, h1, h2, h3⟩ := hu
  rw [List.length_append] at h2
  refine (FLE_any w s f u v h3 hv (by omega) (by omega)).mono fun e w' ⟨b, he, hb, hB⟩ => ⟨_, he, hB, congrArg Value.bool (hb.2 fun y hy => ?_)⟩
  exact (h1.adv y).2 ⟨y, List.mem_append_left _ hy, le2_refl y⟩

theorem FLE_join {f g : List T} (u v : Value) (w : World) (hu : IsL f u w) (hv : IsJoin f g v w) (hf : f.length ≤ 100000) :
    Calls Try.prog 17 #[u, v] w fun e w' => ∃ x, e = .returned x ∧ Below w.heap.size w w' ∧ PB.E (.bool true) x w' := by
  obtain ⟨J, s, h1, h2, h3, h4⟩ := hv
  refine (FLE_any w f s u v hu h4 (by omega) (by omega)).mono fun e w' ⟨b, he, hb, hB⟩ => ⟨_, he, hB, congrArg Value.bool (hb.2 fun y hy => ?_)⟩
  exact ((h2 y).1 ((h1.adv y).1 ⟨y, hy, le2_refl y⟩)).1

theorem le_adv {f g : List T} {t : T} (h : leB f g = true) (hb : advB g t = true) : advB f t = true := by
  rw [leB_iff] at h
  rw [advB_iff] at hb ⊢
  obtain ⟨y, hy, hc⟩ := hb
  obtain ⟨x, hx, hxy⟩ := h y hy
  exact ⟨x, hx, le2_trans hxy hc⟩

theorem Ahead_is {l : List T} {t : T} {b : Bool} (h : advB l t = b) (v : Value) (w : World) (hv : IsL l v w) (hl : l.length < 4611686018427387904) : Calls Try.prog 23 #[v, .agg #[.int .i64 t.1, .int .i64 t.2]] w fun e w' => ∃ v, e = .returned v ∧ Below w.heap.size w w' ∧ PB.E (.bool b) v w' := by
  rw [← h]; exact Ahead_newB l t v w hv hl

theorem FLE_is {f g : List T} {c : Bool} (h : leB f g = c) (u v : Value) (w : World) (hu : IsL f u w) (hv : IsL g v w) (hf : f.length ≤ 1000000000) (hg : g.length ≤ 1000000000) :
    Calls Try.prog 17 #[u, v] w fun e w' => ∃ x, e = .returned x ∧ Below w.heap.size w w' ∧ PB.E (.bool c) x w' := by
  rw [← h]; exact FLE_newB f g u v w hu hv hf hg

set_option maxRecDepth 40000 in
set_option maxHeartbeats 8000000 in
theorem bounds_walk (w : World) (a : Option Addr) (ca : Nat) (f : List T) (b : Option Addr) (cb : Nat) (g : List T) (t : T) (hu : IsL f (.slice a f.length ca) w) (hv : IsL g (.slice b g.length cb) w) :
    Calls Try.prog 6 #[.slice a f.length ca, .slice b g.length cb, .agg #[.int .i64 t.1, .int .i64 t.2]] w fun e w' => e = .returned (.bool true) ∧ Below w.heap.size w w' := by
  obtain ⟨t1, t2⟩ := t
  have mixed : Try.prog.follows .mixedOrders = true := by kernel_rfl
  obtain ⟨n, hn⟩ : ∃ n, f.length = n := ⟨_, rfl⟩
  obtain ⟨m, hm⟩ : ∃ m, g.length = m := ⟨_, rfl⟩
  rw [hn] at hu ⊢
  rw [hm] at hv ⊢
  have hb0 : Below w.heap.size w (w.alloc (.cells #[.int .i64 t1, .int .i64 t2] 32)) := (Below.refl _ w).alloc (Nat.le_refl _) _
  have HBX : Hid (Box (w.alloc (.cells #[.int .i64 t1, .int .i64 t2] 32)) w.heap.size (t1, t2)) := Box.new w (t1, t2)
  have HMU := hid' (much_any (w.alloc (.cells #[.int .i64 t1, .int .i64 t2] 32)) a b n m ca cb)
  obtain ⟨W0, hW0⟩ : ∃ W0, w.alloc (.cells #[.int .i64 t1, .int .i64 t2] 32) = W0 := ⟨_, rfl⟩
  have HW0 := hid' hW0
  rw [hW0] at hb0 HBX HMU
  have HU : Hid (∀ W, Below W0.heap.size W0 W → IsL f (.slice a n ca) W) := fun W hW => hu.on (hb0.trans (hW.mono hb0.size))
  have HV : Hid (∀ W, Below W0.heap.size W0 W → IsL g (.slice b m cb) W) := fun W hW => hv.on (hb0.trans (hW.mono hb0.size))
  clear hW0
  by_cases hbig : 40 < n ∨ 40 < m
  · have e : (decide (40 < n) || decide (40 < m)) = true := by simpa using hbig
    rw [e] at HMU
    have HLV := hid' (live_any W0)
    clear hbig e hu hv hn hm
    go_enter Try.func6, Try.ntmps6
    go_wp2_with fail
    rw [HW0.out]
    refine HMU.out.mono ?_
    rintro e w1 ⟨rfl, rfl⟩
    go_wp2_with fail
    refine HLV.out.mono ?_
    rintro e w2 ⟨rfl, hb⟩
    go_wp2
    go_ret
    exact ⟨rfl, hb0.trans (hb.mono hb0.size)⟩
  · have e : (decide (40 < n) || decide (40 < m)) = false := by simp; omega
    rw [e] at HMU
    have HF : Hid (f.length ≤ 100000) := by unfold Hid; omega
    have HG : Hid (g.length ≤ 100000) := by unfold Hid; omega
    have HF2 : Hid (f.length < 4611686018427387904) := by unfold Hid; omega
    have HG2 : Hid (g.length < 4611686018427387904) := by unfold Hid; omega
    have HFG : Hid ((f ++ g).length < 4611686018427387904) := by unfold Hid; rw [List.length_append]; omega
    have HF3 : Hid (f.length ≤ 1000000000) := by unfold Hid; omega
    have HG3 : Hid (g.length ≤ 1000000000) := by unfold Hid; omega
    obtain ⟨p, hp⟩ : ∃ p, advB f (t1, t2) = p := ⟨_, rfl⟩
    obtain ⟨q, hq⟩ : ∃ q, advB g (t1, t2) = q := ⟨_, rfl⟩
    obtain ⟨c, hc⟩ : ∃ c, leB f g = c := ⟨_, rfl⟩
    have HP := hid' hp
    have HQ := hid' hq
    have HC := hid' hc
    clear hbig e hu hv hn hm hp hq hc
    go_enter Try.func6, Try.ntmps6
    go_wp2_with fail
    rw [HW0.out]
    refine HMU.out.mono ?_
    rintro e w1 ⟨rfl, rfl⟩
    clear HMU HW0
    go_wp2_with fail
    refine PT.wp_region_tail 8 (PB.phi [PB.E (.slice a n ca), PB.E (.agg #[.int .i64 t1, .int .i64 t2]), PB.E (.bool p), PB.E (.slice b m cb), PB.E (.agg #[.int .i64 t1, .int .i64 t2]), PB.E (.bool q), PB.E (.bool p), PB.E (.bool q)]) mixed (by kernel_rfl)
      (PB.phi_lasts _ ⟨PB.E_lasts _, PB.E_lasts _, PB.E_lasts _, PB.E_lasts _, PB.E_lasts _, PB.E_lasts _, PB.E_lasts _, PB.E_lasts _, trivial⟩) ?_ ?_
    · refine ⟨?_, ?_, ?_, ?_, ?_, ?_, ?_, ?_, trivial⟩ <;> intro A W hB hS hA hF
      · exact Or.inl (PB.does_move (PB.wanted_free rfl) rfl (hS.slots 0 rfl))
      · exact Or.inl (PB.does_run (PB.wanted_free rfl) (run_box W (hS.slots 5 rfl) (HBX.out.on hB)) rfl)
      · exact Or.inl (PB.does_call #[.slice a n ca, .agg #[.int .i64 t1, .int .i64 t2]] (PB.wanted_free rfl) rfl Try.func23 rfl rfl (by show [PB.slot A 13, PB.slot A 14] = _; rw [show PB.slot A 13 = .slice a n ca from (hA 0 rfl), show PB.slot A 14 = .agg #[.int .i64 t1, .int .i64 t2] from (hA 1 rfl)]) (Ahead_is HP.out _ W (HU.out W hB) HF2.out))
      · exact Or.inl (PB.does_move (PB.wanted_free rfl) rfl (hS.slots 1 rfl))
      · exact Or.inl (PB.does_run (PB.wanted_free rfl) (run_box W (hS.slots 5 rfl) (HBX.out.on hB)) rfl)
      · exact Or.inl (PB.does_call #[.slice b m cb, .agg #[.int .i64 t1, .int .i64 t2]] (PB.wanted_free rfl) rfl Try.func23 rfl rfl (by show [PB.slot A 16, PB.slot A 17] = _; rw [show PB.slot A 16 = .slice b m cb from (hA 3 rfl), show PB.slot A 17 = .agg #[.int .i64 t1, .int .i64 t2] from (hA 4 rfl)]) (Ahead_is HQ.out _ W (HV.out W hB) HG2.out))
      · exact Or.inl (PB.does_assign (PB.wanted_free rfl) rfl (hA 2 rfl))
      · exact Or.inl (PB.does_assign (PB.wanted_free rfl) rfl (hA 5 rfl))
    · intro A W hB hS hL
      have h_13 : PB.slot A 13 = .slice a n ca := hL 0 (by decide)
      have h_14 : PB.slot A 14 = .agg #[.int .i64 t1, .int .i64 t2] := hL 1 (by decide)
      have h_15 : PB.slot A 15 = .bool p := hL 2 (by decide)
      have h_16 : PB.slot A 16 = .slice b m cb := hL 3 (by decide)
      have h_17 : PB.slot A 17 = .agg #[.int .i64 t1, .int .i64 t2] := hL 4 (by decide)
      have h_18 : PB.slot A 18 = .bool q := hL 5 (by decide)
      have h_7 : PB.slot A 7 = .bool p := hL 6 (by decide)
      have h_8 : PB.slot A 8 = .bool q := hL 7 (by decide)
      have q_0 : PB.slot A 0 = .slice a n ca := hS.slots 0 rfl
      have q_1 : PB.slot A 1 = .slice b m cb := hS.slots 1 rfl
      have q_5 : PB.slot A 5 = .pointer (some ⟨w.heap.size, 0, none⟩) := hS.slots 5 rfl
      have q_6 : PB.slot A 6 = .bool false := hS.slots 6 rfl
      have hA := PT.frame_of (A := A) (n := 71) hS.size
      have hd : A.defers = [] := hS.defers
      rw [hd] at hA
      obtain ⟨fr, hf⟩ : ∃ f, PB.slot A = f := ⟨_, rfl⟩
      rw [hf] at hA h_13 h_14 h_15 h_16 h_17 h_18 h_7 h_8 q_0 q_1 q_5 q_6
      rw [hA]
      clear hA hf hd hL hS
      simp only [List.range, List.range.loop, List.map_cons, List.map_nil, List.drop_succ_cons, List.drop_zero, h_13, h_14, h_15, h_16, h_17, h_18, h_7, h_8, q_0, q_1, q_5, q_6]
      clear h_13 h_14 h_15 h_16 h_17 h_18 h_7 h_8 q_0 q_1 q_5 q_6
      have hb1 := hB
      clear hB
      cases p with
      | false =>
        cases q with
        | false =>
          cases c with
          | false =>
            go_wp2_with fail
            refine PT.wp_region_tail 53 (PB.phi [PB.E (.slice a n ca), PB.E (.slice b m cb), IsSteps (f ++ g), PB.E (.agg #[.int .i64 t1, .int .i64 t2]), PB.E (.bool false), PB.E (.bool false), PB.E (.bool false), PB.E (.bool false), PB.E (.bool false), PB.E (.bool true), PB.E (.bool true), PB.E (.slice a n ca), PB.E (.slice b m cb), IsJoin f g, PB.E (.agg #[.int .i64 t1, .int .i64 t2]), PB.E (.bool false), PB.E (.bool false), PB.E (.bool false), PB.E undef, PB.E (.bool false), PB.E (.bool true), PB.E (.bool true), PB.E (.bool true), PB.E (.slice a n ca), PB.E (.slice b m cb), PB.E (.bool false), PB.E (.bool true), PB.E (.bool true), PB.E undef, PB.E undef, PB.E (.bool true), PB.E (.bool true), PB.E undef, PB.E (.bool true), PB.E (.bool true), PB.E (.bool true), PB.E (.slice a n ca), PB.E (.slice b m cb), IsSteps (f ++ g), PB.E (.slice a n ca), PB.E (.bool true), PB.E (.bool true), PB.E (.bool true), PB.E (.slice a n ca), PB.E (.slice a n ca), PB.E (.slice b m cb), IsJoin f g, PB.E (.bool true), PB.E (.bool true), PB.E (.bool true), PB.E (.bool true), PB.E (.bool true), PB.E (.bool true)]) mixed (by kernel_rfl)
              (PB.phi_lasts _ ⟨PB.E_lasts _, PB.E_lasts _, isSteps_lasts _, PB.E_lasts _, PB.E_lasts _, PB.E_lasts _, PB.E_lasts _, PB.E_lasts _, PB.E_lasts _, PB.E_lasts _, PB.E_lasts _, PB.E_lasts _, PB.E_lasts _, isJoin_lasts _ _, PB.E_lasts _, PB.E_lasts _, PB.E_lasts _, PB.E_lasts _, PB.E_lasts _, PB.E_lasts _, PB.E_lasts _, PB.E_lasts _, PB.E_lasts _, PB.E_lasts _, PB.E_lasts _, PB.E_lasts _, PB.E_lasts _, PB.E_lasts _, PB.E_lasts _, PB.E_lasts _, PB.E_lasts _, PB.E_lasts _, PB.E_lasts _, PB.E_lasts _, PB.E_lasts _, PB.E_lasts _, PB.E_lasts _, PB.E_lasts _, isSteps_lasts _, PB.E_lasts _, PB.E_lasts _, PB.E_lasts _, PB.E_lasts _, PB.E_lasts _, PB.E_lasts _, PB.E_lasts _, isJoin_lasts _ _, PB.E_lasts _, PB.E_lasts _, PB.E_lasts _, PB.E_lasts _, PB.E_lasts _, PB.E_lasts _, trivial⟩) ?_ ?_
            · refine ⟨?_, ?_, ?_, ?_, ?_, ?_, ?_, ?_, ?_, ?_, ?_, ?_, ?_, ?_, ?_, ?_, ?_, ?_, ?_, ?_, ?_, ?_, ?_, ?_, ?_, ?_, ?_, ?_, ?_, ?_, ?_, ?_, ?_, ?_, ?_, ?_, ?_, ?_, ?_, ?_, ?_, ?_, ?_, ?_, ?_, ?_, ?_, ?_, ?_, ?_, ?_, ?_, ?_, trivial⟩ <;> intro A W hB hS hA hF
              · exact Or.inl (PB.does_move (PB.wanted_free rfl) rfl (hS.slots 0 rfl))
              · exact Or.inl (PB.does_move (PB.wanted_free rfl) rfl (hS.slots 1 rfl))
              · exact Or.inl (PB.does_call #[.slice a n ca, .slice b m cb] (PB.wanted_free rfl) rfl Try.func19 rfl rfl (by show [PB.slot A 19, PB.slot A 20] = _; rw [show PB.slot A 19 = .slice a n ca from (hA 0 rfl), show PB.slot A 20 = .slice b m cb from (hA 1 rfl)]) (Meet_newB f g _ _ W (HU.out W (hb1.trans (hB.mono hb1.size))) (HV.out W (hb1.trans (hB.mono hb1.size))) HF.out HG.out))
              · exact Or.inl (PB.does_run (PB.wanted_free rfl) (run_box W (hS.slots 5 rfl) (HBX.out.on (hb1.trans (hB.mono hb1.size)))) rfl)
              · exact Or.inl (PB.does_call #[PB.slot A 21, .agg #[.int .i64 t1, .int .i64 t2]] (PB.wanted_free rfl) rfl Try.func23 rfl rfl (by show [PB.slot A 21, PB.slot A 22] = _; rw [show PB.slot A 22 = .agg #[.int .i64 t1, .int .i64 t2] from (hA 3 rfl)]) (AheadM_newB HP.out HQ.out _ W (hA 2 rfl) HFG.out))
              · exact Or.inl (PB.does_move (PB.wanted_free rfl) rfl (hS.slots 7 rfl))
              · exact Or.inl (PB.does_move (PB.wanted_free rfl) rfl (hA 5 rfl))
              · exact Or.inl (PB.does_move (PB.wanted_by rfl rfl (hA 6 rfl)) rfl (hS.slots 8 rfl))
              · exact Or.inl (PB.does_run (PB.wanted_free rfl) (run_pick_else W (hA 6 rfl) (hA 7 rfl)) rfl)
              · exact Or.inl (PB.does_bin (PB.wanted_free rfl) rfl (hA 4 rfl) (hA 8 rfl) (run_eqB W _ _ _ _) rfl)
              · exact Or.inl (PB.does_move (PB.wanted_free rfl) rfl (hA 9 rfl))
              · exact Or.inl (PB.does_move (PB.wanted_by rfl rfl (hA 10 rfl)) rfl (hS.slots 0 rfl))
              · exact Or.inl (PB.does_move (PB.wanted_by rfl rfl (hA 10 rfl)) rfl (hS.slots 1 rfl))
              · exact Or.inl (PB.does_call #[.slice a n ca, .slice b m cb] (PB.wanted_by rfl rfl (hA 10 rfl)) rfl Try.func21 rfl rfl (by show [PB.slot A 30, PB.slot A 31] = _; rw [show PB.slot A 30 = .slice a n ca from (hA 11 rfl), show PB.slot A 31 = .slice b m cb from (hA 12 rfl)]) (Join_newB f g _ _ W (HU.out W (hb1.trans (hB.mono hb1.size))) (HV.out W (hb1.trans (hB.mono hb1.size))) HF.out HG.out))
              · exact Or.inl (PB.does_run (PB.wanted_by rfl rfl (hA 10 rfl)) (run_box W (hS.slots 5 rfl) (HBX.out.on (hb1.trans (hB.mono hb1.size)))) rfl)
              · exact Or.inl (PB.does_call #[PB.slot A 32, .agg #[.int .i64 t1, .int .i64 t2]] (PB.wanted_by rfl rfl (hA 10 rfl)) rfl Try.func23 rfl rfl (by show [PB.slot A 32, PB.slot A 33] = _; rw [show PB.slot A 33 = .agg #[.int .i64 t1, .int .i64 t2] from (hA 14 rfl)]) (AheadJ_newB HP.out HQ.out _ W (hA 13 rfl)))
              · exact Or.inl (PB.does_move (PB.wanted_by rfl rfl (hA 10 rfl)) rfl (hS.slots 7 rfl))
              · exact Or.inl (PB.does_move (PB.wanted_by rfl rfl (hA 10 rfl)) rfl (hA 16 rfl))
              · exact Or.inr ⟨PT.pass_by rfl rfl (hA 17 rfl) (by decide), rfl⟩
              · exact Or.inl (PB.does_run (PB.wanted_by rfl rfl (hA 10 rfl)) (run_pick_elseC W (hA 17 rfl)) rfl)
              · exact Or.inl (PB.does_bin (PB.wanted_by rfl rfl (hA 10 rfl)) rfl (hA 15 rfl) (hA 19 rfl) (run_eqB W _ _ _ _) rfl)
              · exact Or.inl (PB.does_run (PB.wanted_free rfl) (run_pick_then W (hA 10 rfl) (hA 20 rfl)) rfl)
              · exact Or.inl (PB.does_move (PB.wanted_free rfl) rfl (hA 21 rfl))
              · exact Or.inl (PB.does_move (PB.wanted_by rfl rfl (hA 22 rfl)) rfl (hS.slots 0 rfl))
              · exact Or.inl (PB.does_move (PB.wanted_by rfl rfl (hA 22 rfl)) rfl (hS.slots 1 rfl))
              · exact Or.inl (PB.does_call #[.slice a n ca, .slice b m cb] (PB.wanted_by rfl rfl (hA 22 rfl)) rfl Try.func17 rfl rfl (by show [PB.slot A 42, PB.slot A 43] = _; rw [show PB.slot A 42 = .slice a n ca from (hA 23 rfl), show PB.slot A 43 = .slice b m cb from (hA 24 rfl)]) (FLE_is HC.out _ _ W (HU.out W (hb1.trans (hB.mono hb1.size))) (HV.out W (hb1.trans (hB.mono hb1.size))) HF3.out HG3.out))
              · exact Or.inl (PB.does_run (PB.wanted_by rfl rfl (hA 22 rfl)) (run_not W (hA 25 rfl)) rfl)
              · exact Or.inl (PB.does_move (PB.wanted_by rfl rfl (hA 22 rfl)) rfl (hA 26 rfl))
              · exact Or.inr ⟨PT.pass_by rfl rfl (hA 27 rfl) (by decide), rfl⟩
              · exact Or.inr ⟨PT.pass_by rfl rfl (hA 27 rfl) (by decide), rfl⟩
              · exact Or.inl (PB.does_run (PB.wanted_by rfl rfl (hA 22 rfl)) (run_pick_const W (hA 27 rfl)) rfl)
              · exact Or.inl (PB.does_move (PB.wanted_by rfl rfl (hA 22 rfl)) rfl (hA 30 rfl))
              · exact Or.inr ⟨PT.pass_by rfl rfl (hA 31 rfl) (by decide), rfl⟩
              · exact Or.inl (PB.does_run (PB.wanted_by rfl rfl (hA 22 rfl)) (run_pick_const W (hA 31 rfl)) rfl)
              · exact Or.inl (PB.does_run (PB.wanted_free rfl) (run_pick_then W (hA 22 rfl) (hA 33 rfl)) rfl)
              · exact Or.inl (PB.does_move (PB.wanted_free rfl) rfl (hA 34 rfl))
              · exact Or.inl (PB.does_move (PB.wanted_by rfl rfl (hA 35 rfl)) rfl (hS.slots 0 rfl))
              · exact Or.inl (PB.does_move (PB.wanted_by rfl rfl (hA 35 rfl)) rfl (hS.slots 1 rfl))
              · exact Or.inl (PB.does_call #[.slice a n ca, .slice b m cb] (PB.wanted_by rfl rfl (hA 35 rfl)) rfl Try.func19 rfl rfl (by show [PB.slot A 55, PB.slot A 56] = _; rw [show PB.slot A 55 = .slice a n ca from (hA 36 rfl), show PB.slot A 56 = .slice b m cb from (hA 37 rfl)]) (Meet_newB f g _ _ W (HU.out W (hb1.trans (hB.mono hb1.size))) (HV.out W (hb1.trans (hB.mono hb1.size))) HF.out HG.out))
              · exact Or.inl (PB.does_move (PB.wanted_by rfl rfl (hA 35 rfl)) rfl (hS.slots 0 rfl))
              · exact Or.inl (PB.does_call #[PB.slot A 57, .slice a n ca] (PB.wanted_by rfl rfl (hA 35 rfl)) rfl Try.func17 rfl rfl (by show [PB.slot A 57, PB.slot A 58] = _; rw [show PB.slot A 58 = .slice a n ca from (hA 39 rfl)]) (FLE_meet _ _ W (hA 38 rfl) (HU.out W (hb1.trans (hB.mono hb1.size))) HF.out HG.out))
              · exact Or.inl (PB.does_run (PB.wanted_free rfl) (run_pick_then W (hA 35 rfl) (hA 40 rfl)) rfl)
              · exact Or.inl (PB.does_move (PB.wanted_free rfl) rfl (hA 41 rfl))
              · exact Or.inl (PB.does_move (PB.wanted_by rfl rfl (hA 42 rfl)) rfl (hS.slots 0 rfl))
              · exact Or.inl (PB.does_move (PB.wanted_by rfl rfl (hA 42 rfl)) rfl (hS.slots 0 rfl))
              · exact Or.inl (PB.does_move (PB.wanted_by rfl rfl (hA 42 rfl)) rfl (hS.slots 1 rfl))
              · exact Or.inl (PB.does_call #[.slice a n ca, .slice b m cb] (PB.wanted_by rfl rfl (hA 42 rfl)) rfl Try.func21 rfl rfl (by show [PB.slot A 63, PB.slot A 64] = _; rw [show PB.slot A 63 = .slice a n ca from (hA 44 rfl), show PB.slot A 64 = .slice b m cb from (hA 45 rfl)]) (Join_newB f g _ _ W (HU.out W (hb1.trans (hB.mono hb1.size))) (HV.out W (hb1.trans (hB.mono hb1.size))) HF.out HG.out))
              · exact Or.inl (PB.does_call #[.slice a n ca, PB.slot A 65] (PB.wanted_by rfl rfl (hA 42 rfl)) rfl Try.func17 rfl rfl (by show [PB.slot A 62, PB.slot A 65] = _; rw [show PB.slot A 62 = .slice a n ca from (hA 43 rfl)]) (FLE_join _ _ W (HU.out W (hb1.trans (hB.mono hb1.size))) (hA 46 rfl) HF.out))
              · exact Or.inl (PB.does_run (PB.wanted_free rfl) (run_pick_then W (hA 42 rfl) (hA 47 rfl)) rfl)
              · exact Or.inl (PB.does_move (PB.wanted_free rfl) rfl (hA 48 rfl))
              · exact Or.inl (PB.does_call #[] (PB.wanted_by rfl rfl (hA 49 rfl)) rfl Try.func10 rfl rfl rfl (live_newB W))
              · exact Or.inl (PB.does_run (PB.wanted_free rfl) (run_pick_then W (hA 49 rfl) (hA 50 rfl)) rfl)
              · exact Or.inl (PB.does_assign (PB.wanted_free rfl) rfl (hA 51 rfl))
            · intro A W hB hS hL
              have h_19 : PB.slot A 19 = .slice a n ca := hL 0 (by decide)
              have h_20 : PB.slot A 20 = .slice b m cb := hL 1 (by decide)
              have h_22 : PB.slot A 22 = .agg #[.int .i64 t1, .int .i64 t2] := hL 3 (by decide)
              have h_23 : PB.slot A 23 = .bool false := hL 4 (by decide)
              have h_24 : PB.slot A 24 = .bool false := hL 5 (by decide)
              have h_25 : PB.slot A 25 = .bool false := hL 6 (by decide)
              have h_26 : PB.slot A 26 = .bool false := hL 7 (by decide)
              have h_27 : PB.slot A 27 = .bool false := hL 8 (by decide)
              have h_28 : PB.slot A 28 = .bool true := hL 9 (by decide)
              have h_29 : PB.slot A 29 = .bool true := hL 10 (by decide)
              have h_30 : PB.slot A 30 = .slice a n ca := hL 11 (by decide)
              have h_31 : PB.slot A 31 = .slice b m cb := hL 12 (by decide)
              have h_33 : PB.slot A 33 = .agg #[.int .i64 t1, .int .i64 t2] := hL 14 (by decide)
              have h_34 : PB.slot A 34 = .bool false := hL 15 (by decide)
              have h_35 : PB.slot A 35 = .bool false := hL 16 (by decide)
              have h_36 : PB.slot A 36 = .bool false := hL 17 (by decide)
              have h_37 : PB.slot A 37 = undef := hL 18 (by decide)
              have h_38 : PB.slot A 38 = .bool false := hL 19 (by decide)
              have h_39 : PB.slot A 39 = .bool true := hL 20 (by decide)
              have h_40 : PB.slot A 40 = .bool true := hL 21 (by decide)
              have h_41 : PB.slot A 41 = .bool true := hL 22 (by decide)
              have h_42 : PB.slot A 42 = .slice a n ca := hL 23 (by decide)
              have h_43 : PB.slot A 43 = .slice b m cb := hL 24 (by decide)
              have h_44 : PB.slot A 44 = .bool false := hL 25 (by decide)
              have h_45 : PB.slot A 45 = .bool true := hL 26 (by decide)
              have h_46 : PB.slot A 46 = .bool true := hL 27 (by decide)
              have h_47 : PB.slot A 47 = undef := hL 28 (by decide)
              have h_48 : PB.slot A 48 = undef := hL 29 (by decide)
              have h_49 : PB.slot A 49 = .bool true := hL 30 (by decide)
              have h_50 : PB.slot A 50 = .bool true := hL 31 (by decide)
              have h_51 : PB.slot A 51 = undef := hL 32 (by decide)
              have h_52 : PB.slot A 52 = .bool true := hL 33 (by decide)
              have h_53 : PB.slot A 53 = .bool true := hL 34 (by decide)
              have h_54 : PB.slot A 54 = .bool true := hL 35 (by decide)
              have h_55 : PB.slot A 55 = .slice a n ca := hL 36 (by decide)
              have h_56 : PB.slot A 56 = .slice b m cb := hL 37 (by decide)
              have h_58 : PB.slot A 58 = .slice a n ca := hL 39 (by decide)
              have h_59 : PB.slot A 59 = .bool true := hL 40 (by decide)
              have h_60 : PB.slot A 60 = .bool true := hL 41 (by decide)
              have h_61 : PB.slot A 61 = .bool true := hL 42 (by decide)
              have h_62 : PB.slot A 62 = .slice a n ca := hL 43 (by decide)
              have h_63 : PB.slot A 63 = .slice a n ca := hL 44 (by decide)
              have h_64 : PB.slot A 64 = .slice b m cb := hL 45 (by decide)
              have h_66 : PB.slot A 66 = .bool true := hL 47 (by decide)
              have h_67 : PB.slot A 67 = .bool true := hL 48 (by decide)
              have h_68 : PB.slot A 68 = .bool true := hL 49 (by decide)
              have h_69 : PB.slot A 69 = .bool true := hL 50 (by decide)
              have h_70 : PB.slot A 70 = .bool true := hL 51 (by decide)
              have h_6 : PB.slot A 6 = .bool true := hL 52 (by decide)
              have hA := PT.frame_of (A := A) (n := 71) hS.size
              have hd : A.defers = [] := hS.defers
              rw [hd] at hA
              obtain ⟨fr, hf⟩ : ∃ f, PB.slot A = f := ⟨_, rfl⟩
              rw [hf] at hA h_19 h_20 h_22 h_23 h_24 h_25 h_26 h_27 h_28 h_29 h_30 h_31 h_33 h_34 h_35 h_36 h_37 h_38 h_39 h_40 h_41 h_42 h_43 h_44 h_45 h_46 h_47 h_48 h_49 h_50 h_51 h_52 h_53 h_54 h_55 h_56 h_58 h_59 h_60 h_61 h_62 h_63 h_64 h_66 h_67 h_68 h_69 h_70 h_6
              rw [hA]
              clear hA hf hd hL hS
              simp only [List.range, List.range.loop, List.map_cons, List.map_nil, List.drop_succ_cons, List.drop_zero, h_19, h_20, h_22, h_23, h_24, h_25, h_26, h_27, h_28, h_29, h_30, h_31, h_33, h_34, h_35, h_36, h_37, h_38, h_39, h_40, h_41, h_42, h_43, h_44, h_45, h_46, h_47, h_48, h_49, h_50, h_51, h_52, h_53, h_54, h_55, h_56, h_58, h_59, h_60, h_61, h_62, h_63, h_64, h_66, h_67, h_68, h_69, h_70, h_6]
              clear h_19 h_20 h_22 h_23 h_24 h_25 h_26 h_27 h_28 h_29 h_30 h_31 h_33 h_34 h_35 h_36 h_37 h_38 h_39 h_40 h_41 h_42 h_43 h_44 h_45 h_46 h_47 h_48 h_49 h_50 h_51 h_52 h_53 h_54 h_55 h_56 h_58 h_59 h_60 h_61 h_62 h_63 h_64 h_66 h_67 h_68 h_69 h_70 h_6
              go_wp2
              go_ret
              have hb2 := hb0.trans (hb1.mono hb0.size)
              exact ⟨rfl, hb2.trans (hB.mono hb2.size)⟩
          | true =>
            go_wp2_with fail
            refine PT.wp_region_tail 53 (PB.phi [PB.E (.slice a n ca), PB.E (.slice b m cb), IsSteps (f ++ g), PB.E (.agg #[.int .i64 t1, .int .i64 t2]), PB.E (.bool false), PB.E (.bool false), PB.E (.bool false), PB.E (.bool false), PB.E (.bool false), PB.E (.bool true), PB.E (.bool true), PB.E (.slice a n ca), PB.E (.slice b m cb), IsJoin f g, PB.E (.agg #[.int .i64 t1, .int .i64 t2]), PB.E (.bool false), PB.E (.bool false), PB.E (.bool false), PB.E undef, PB.E (.bool false), PB.E (.bool true), PB.E (.bool true), PB.E (.bool true), PB.E (.slice a n ca), PB.E (.slice b m cb), PB.E (.bool true), PB.E (.bool false), PB.E (.bool false), PB.E (.bool false), PB.E (.bool true), PB.E (.bool true), PB.E (.bool true), PB.E undef, PB.E (.bool true), PB.E (.bool true), PB.E (.bool true), PB.E (.slice a n ca), PB.E (.slice b m cb), IsSteps (f ++ g), PB.E (.slice a n ca), PB.E (.bool true), PB.E (.bool true), PB.E (.bool true), PB.E (.slice a n ca), PB.E (.slice a n ca), PB.E (.slice b m cb), IsJoin f g, PB.E (.bool true), PB.E (.bool true), PB.E (.bool true), PB.E (.bool true), PB.E (.bool true), PB.E (.bool true)]) mixed (by kernel_rfl)
              (PB.phi_lasts _ ⟨PB.E_lasts _, PB.E_lasts _, isSteps_lasts _, PB.E_lasts _, PB.E_lasts _, PB.E_lasts _, PB.E_lasts _, PB.E_lasts _, PB.E_lasts _, PB.E_lasts _, PB.E_lasts _, PB.E_lasts _, PB.E_lasts _, isJoin_lasts _ _, PB.E_lasts _, PB.E_lasts _, PB.E_lasts _, PB.E_lasts _, PB.E_lasts _, PB.E_lasts _, PB.E_lasts _, PB.E_lasts _, PB.E_lasts _, PB.E_lasts _, PB.E_lasts _, PB.E_lasts _, PB.E_lasts _, PB.E_lasts _, PB.E_lasts _, PB.E_lasts _, PB.E_lasts _, PB.E_lasts _, PB.E_lasts _, PB.E_lasts _, PB.E_lasts _, PB.E_lasts _, PB.E_lasts _, PB.E_lasts _, isSteps_lasts _, PB.E_lasts _, PB.E_lasts _, PB.E_lasts _, PB.E_lasts _, PB.E_lasts _, PB.E_lasts _, PB.E_lasts _, isJoin_lasts _ _, PB.E_lasts _, PB.E_lasts _, PB.E_lasts _, PB.E_lasts _, PB.E_lasts _, PB.E_lasts _, trivial⟩) ?_ ?_
            · refine ⟨?_, ?_, ?_, ?_, ?_, ?_, ?_, ?_, ?_, ?_, ?_, ?_, ?_, ?_, ?_, ?_, ?_, ?_, ?_, ?_, ?_, ?_, ?_, ?_, ?_, ?_, ?_, ?_, ?_, ?_, ?_, ?_, ?_, ?_, ?_, ?_, ?_, ?_, ?_, ?_, ?_, ?_, ?_, ?_, ?_, ?_, ?_, ?_, ?_, ?_, ?_, ?_, ?_, trivial⟩ <;> intro A W hB hS hA hF
              · exact Or.inl (PB.does_move (PB.wanted_free rfl) rfl (hS.slots 0 rfl))
              · exact Or.inl (PB.does_move (PB.wanted_free rfl) rfl (hS.slots 1 rfl))
              · exact Or.inl (PB.does_call #[.slice a n ca, .slice b m cb] (PB.wanted_free rfl) rfl Try.func19 rfl rfl (by show [PB.slot A 19, PB.slot A 20] = _; rw [show PB.slot A 19 = .slice a n ca from (hA 0 rfl), show PB.slot A 20 = .slice b m cb from (hA 1 rfl)]) (Meet_newB f g _ _ W (HU.out W (hb1.trans (hB.mono hb1.size))) (HV.out W (hb1.trans (hB.mono hb1.size))) HF.out HG.out))
              · exact Or.inl (PB.does_run (PB.wanted_free rfl) (run_box W (hS.slots 5 rfl) (HBX.out.on (hb1.trans (hB.mono hb1.size)))) rfl)
              · exact Or.inl (PB.does_call #[PB.slot A 21, .agg #[.int .i64 t1, .int .i64 t2]] (PB.wanted_free rfl) rfl Try.func23 rfl rfl (by show [PB.slot A 21, PB.slot A 22] = _; rw [show PB.slot A 22 = .agg #[.int .i64 t1, .int .i64 t2] from (hA 3 rfl)]) (AheadM_newB HP.out HQ.out _ W (hA 2 rfl) HFG.out))
              · exact Or.inl (PB.does_move (PB.wanted_free rfl) rfl (hS.slots 7 rfl))
              · exact Or.inl (PB.does_move (PB.wanted_free rfl) rfl (hA 5 rfl))
              · exact Or.inl (PB.does_move (PB.wanted_by rfl rfl (hA 6 rfl)) rfl (hS.slots 8 rfl))
              · exact Or.inl (PB.does_run (PB.wanted_free rfl) (run_pick_else W (hA 6 rfl) (hA 7 rfl)) rfl)
              · exact Or.inl (PB.does_bin (PB.wanted_free rfl) rfl (hA 4 rfl) (hA 8 rfl) (run_eqB W _ _ _ _) rfl)
              · exact Or.inl (PB.does_move (PB.wanted_free rfl) rfl (hA 9 rfl))
              · exact Or.inl (PB.does_move (PB.wanted_by rfl rfl (hA 10 rfl)) rfl (hS.slots 0 rfl))
              · exact Or.inl (PB.does_move (PB.wanted_by rfl rfl (hA 10 rfl)) rfl (hS.slots 1 rfl))
              · exact Or.inl (PB.does_call #[.slice a n ca, .slice b m cb] (PB.wanted_by rfl rfl (hA 10 rfl)) rfl Try.func21 rfl rfl (by show [PB.slot A 30, PB.slot A 31] = _; rw [show PB.slot A 30 = .slice a n ca from (hA 11 rfl), show PB.slot A 31 = .slice b m cb from (hA 12 rfl)]) (Join_newB f g _ _ W (HU.out W (hb1.trans (hB.mono hb1.size))) (HV.out W (hb1.trans (hB.mono hb1.size))) HF.out HG.out))
              · exact Or.inl (PB.does_run (PB.wanted_by rfl rfl (hA 10 rfl)) (run_box W (hS.slots 5 rfl) (HBX.out.on (hb1.trans (hB.mono hb1.size)))) rfl)
              · exact Or.inl (PB.does_call #[PB.slot A 32, .agg #[.int .i64 t1, .int .i64 t2]] (PB.wanted_by rfl rfl (hA 10 rfl)) rfl Try.func23 rfl rfl (by show [PB.slot A 32, PB.slot A 33] = _; rw [show PB.slot A 33 = .agg #[.int .i64 t1, .int .i64 t2] from (hA 14 rfl)]) (AheadJ_newB HP.out HQ.out _ W (hA 13 rfl)))
              · exact Or.inl (PB.does_move (PB.wanted_by rfl rfl (hA 10 rfl)) rfl (hS.slots 7 rfl))
              · exact Or.inl (PB.does_move (PB.wanted_by rfl rfl (hA 10 rfl)) rfl (hA 16 rfl))
              · exact Or.inr ⟨PT.pass_by rfl rfl (hA 17 rfl) (by decide), rfl⟩
              · exact Or.inl (PB.does_run (PB.wanted_by rfl rfl (hA 10 rfl)) (run_pick_elseC W (hA 17 rfl)) rfl)
              · exact Or.inl (PB.does_bin (PB.wanted_by rfl rfl (hA 10 rfl)) rfl (hA 15 rfl) (hA 19 rfl) (run_eqB W _ _ _ _) rfl)
              · exact Or.inl (PB.does_run (PB.wanted_free rfl) (run_pick_then W (hA 10 rfl) (hA 20 rfl)) rfl)
              · exact Or.inl (PB.does_move (PB.wanted_free rfl) rfl (hA 21 rfl))
              · exact Or.inl (PB.does_move (PB.wanted_by rfl rfl (hA 22 rfl)) rfl (hS.slots 0 rfl))
              · exact Or.inl (PB.does_move (PB.wanted_by rfl rfl (hA 22 rfl)) rfl (hS.slots 1 rfl))
              · exact Or.inl (PB.does_call #[.slice a n ca, .slice b m cb] (PB.wanted_by rfl rfl (hA 22 rfl)) rfl Try.func17 rfl rfl (by show [PB.slot A 42, PB.slot A 43] = _; rw [show PB.slot A 42 = .slice a n ca from (hA 23 rfl), show PB.slot A 43 = .slice b m cb from (hA 24 rfl)]) (FLE_is HC.out _ _ W (HU.out W (hb1.trans (hB.mono hb1.size))) (HV.out W (hb1.trans (hB.mono hb1.size))) HF3.out HG3.out))
              · exact Or.inl (PB.does_run (PB.wanted_by rfl rfl (hA 22 rfl)) (run_not W (hA 25 rfl)) rfl)
              · exact Or.inl (PB.does_move (PB.wanted_by rfl rfl (hA 22 rfl)) rfl (hA 26 rfl))
              · exact Or.inl (PB.does_move (PB.wanted_by rfl rfl (hA 27 rfl)) rfl (hS.slots 8 rfl))
              · exact Or.inl (PB.does_run (PB.wanted_by rfl rfl (hA 27 rfl)) (run_not W (hA 28 rfl)) rfl)
              · exact Or.inl (PB.does_run (PB.wanted_by rfl rfl (hA 22 rfl)) (run_pick_else W (hA 27 rfl) (hA 29 rfl)) rfl)
              · exact Or.inl (PB.does_move (PB.wanted_by rfl rfl (hA 22 rfl)) rfl (hA 30 rfl))
              · exact Or.inr ⟨PT.pass_by rfl rfl (hA 31 rfl) (by decide), rfl⟩
              · exact Or.inl (PB.does_run (PB.wanted_by rfl rfl (hA 22 rfl)) (run_pick_const W (hA 31 rfl)) rfl)
              · exact Or.inl (PB.does_run (PB.wanted_free rfl) (run_pick_then W (hA 22 rfl) (hA 33 rfl)) rfl)
              · exact Or.inl (PB.does_move (PB.wanted_free rfl) rfl (hA 34 rfl))
              · exact Or.inl (PB.does_move (PB.wanted_by rfl rfl (hA 35 rfl)) rfl (hS.slots 0 rfl))
              · exact Or.inl (PB.does_move (PB.wanted_by rfl rfl (hA 35 rfl)) rfl (hS.slots 1 rfl))
              · exact Or.inl (PB.does_call #[.slice a n ca, .slice b m cb] (PB.wanted_by rfl rfl (hA 35 rfl)) rfl Try.func19 rfl rfl (by show [PB.slot A 55, PB.slot A 56] = _; rw [show PB.slot A 55 = .slice a n ca from (hA 36 rfl), show PB.slot A 56 = .slice b m cb from (hA 37 rfl)]) (Meet_newB f g _ _ W (HU.out W (hb1.trans (hB.mono hb1.size))) (HV.out W (hb1.trans (hB.mono hb1.size))) HF.out HG.out))
              · exact Or.inl (PB.does_move (PB.wanted_by rfl rfl (hA 35 rfl)) rfl (hS.slots 0 rfl))
              · exact Or.inl (PB.does_call #[PB.slot A 57, .slice a n ca] (PB.wanted_by rfl rfl (hA 35 rfl)) rfl Try.func17 rfl rfl (by show [PB.slot A 57, PB.slot A 58] = _; rw [show PB.slot A 58 = .slice a n ca from (hA 39 rfl)]) (FLE_meet _ _ W (hA 38 rfl) (HU.out W (hb1.trans (hB.mono hb1.size))) HF.out HG.out))
              · exact Or.inl (PB.does_run (PB.wanted_free rfl) (run_pick_then W (hA 35 rfl) (hA 40 rfl)) rfl)
              · exact Or.inl (PB.does_move (PB.wanted_free rfl) rfl (hA 41 rfl))
              · exact Or.inl (PB.does_move (PB.wanted_by rfl rfl (hA 42 rfl)) rfl (hS.slots 0 rfl))
              · exact Or.inl (PB.does_move (PB.wanted_by rfl rfl (hA 42 rfl)) rfl (hS.slots 0 rfl))
              · exact Or.inl (PB.does_move (PB.wanted_by rfl rfl (hA 42 rfl)) rfl (hS.slots 1 rfl))
              · exact Or.inl (PB.does_call #[.slice a n ca, .slice b m cb] (PB.wanted_by rfl rfl (hA 42 rfl)) rfl Try.func21 rfl rfl (by show [PB.slot A 63, PB.slot A 64] = _; rw [show PB.slot A 63 = .slice a n ca from (hA 44 rfl), show PB.slot A 64 = .slice b m cb from (hA 45 rfl)]) (Join_newB f g _ _ W (HU.out W (hb1.trans (hB.mono hb1.size))) (HV.out W (hb1.trans (hB.mono hb1.size))) HF.out HG.out))
              · exact Or.inl (PB.does_call #[.slice a n ca, PB.slot A 65] (PB.wanted_by rfl rfl (hA 42 rfl)) rfl Try.func17 rfl rfl (by show [PB.slot A 62, PB.slot A 65] = _; rw [show PB.slot A 62 = .slice a n ca from (hA 43 rfl)]) (FLE_join _ _ W (HU.out W (hb1.trans (hB.mono hb1.size))) (hA 46 rfl) HF.out))
              · exact Or.inl (PB.does_run (PB.wanted_free rfl) (run_pick_then W (hA 42 rfl) (hA 47 rfl)) rfl)
              · exact Or.inl (PB.does_move (PB.wanted_free rfl) rfl (hA 48 rfl))
              · exact Or.inl (PB.does_call #[] (PB.wanted_by rfl rfl (hA 49 rfl)) rfl Try.func10 rfl rfl rfl (live_newB W))
              · exact Or.inl (PB.does_run (PB.wanted_free rfl) (run_pick_then W (hA 49 rfl) (hA 50 rfl)) rfl)
              · exact Or.inl (PB.does_assign (PB.wanted_free rfl) rfl (hA 51 rfl))
            · intro A W hB hS hL
              have h_19 : PB.slot A 19 = .slice a n ca := hL 0 (by decide)
              have h_20 : PB.slot A 20 = .slice b m cb := hL 1 (by decide)
              have h_22 : PB.slot A 22 = .agg #[.int .i64 t1, .int .i64 t2] := hL 3 (by decide)
              have h_23 : PB.slot A 23 = .bool false := hL 4 (by decide)
              have h_24 : PB.slot A 24 = .bool false := hL 5 (by decide)
              have h_25 : PB.slot A 25 = .bool false := hL 6 (by decide)
              have h_26 : PB.slot A 26 = .bool false := hL 7 (by decide)
              have h_27 : PB.slot A 27 = .bool false := hL 8 (by decide)
              have h_28 : PB.slot A 28 = .bool true := hL 9 (by decide)
              have h_29 : PB.slot A 29 = .bool true := hL 10 (by decide)
              have h_30 : PB.slot A 30 = .slice a n ca := hL 11 (by decide)
              have h_31 : PB.slot A 31 = .slice b m cb := hL 12 (by decide)
              have h_33 : PB.slot A 33 = .agg #[.int .i64 t1, .int .i64 t2] := hL 14 (by decide)
              have h_34 : PB.slot A 34 = .bool false := hL 15 (by decide)
              have h_35 : PB.slot A 35 = .bool false := hL 16 (by decide)
              have h_36 : PB.slot A 36 = .bool false := hL 17 (by decide)
              have h_37 : PB.slot A 37 = undef := hL 18 (by decide)
              have h_38 : PB.slot A 38 = .bool false := hL 19 (by decide)
              have h_39 : PB.slot A 39 = .bool true := hL 20 (by decide)
              have h_40 : PB.slot A 40 = .bool true := hL 21 (by decide)
              have h_41 : PB.slot A 41 = .bool true := hL 22 (by decide)
              have h_42 : PB.slot A 42 = .slice a n ca := hL 23 (by decide)
              have h_43 : PB.slot A 43 = .slice b m cb := hL 24 (by decide)
              have h_44 : PB.slot A 44 = .bool true := hL 25 (by decide)
              have h_45 : PB.slot A 45 = .bool false := hL 26 (by decide)
              have h_46 : PB.slot A 46 = .bool false := hL 27 (by decide)
              have h_47 : PB.slot A 47 = .bool false := hL 28 (by decide)
              have h_48 : PB.slot A 48 = .bool true := hL 29 (by decide)
              have h_49 : PB.slot A 49 = .bool true := hL 30 (by decide)
              have h_50 : PB.slot A 50 = .bool true := hL 31 (by decide)
              have h_51 : PB.slot A 51 = undef := hL 32 (by decide)
              have h_52 : PB.slot A 52 = .bool true := hL 33 (by decide)
              have h_53 : PB.slot A 53 = .bool true := hL 34 (by decide)
              have h_54 : PB.slot A 54 = .bool true := hL 35 (by decide)
              have h_55 : PB.slot A 55 = .slice a n ca := hL 36 (by decide)
              have h_56 : PB.slot A 56 = .slice b m cb := hL 37 (by decide)
              have h_58 : PB.slot A 58 = .slice a n ca := hL 39 (by decide)
              have h_59 : PB.slot A 59 = .bool true := hL 40 (by decide)
              have h_60 : PB.slot A 60 = .bool true := hL 41 (by decide)
              have h_61 : PB.slot A 61 = .bool true := hL 42 (by decide)
              have h_62 : PB.slot A 62 = .slice a n ca := hL 43 (by decide)
              have h_63 : PB.slot A 63 = .slice a n ca := hL 44 (by decide)
              have h_64 : PB.slot A 64 = .slice b m cb := hL 45 (by decide)
              have h_66 : PB.slot A 66 = .bool true := hL 47 (by decide)
              have h_67 : PB.slot A 67 = .bool true := hL 48 (by decide)
              have h_68 : PB.slot A 68 = .bool true := hL 49 (by decide)
              have h_69 : PB.slot A 69 = .bool true := hL 50 (by decide)
              have h_70 : PB.slot A 70 = .bool true := hL 51 (by decide)
              have h_6 : PB.slot A 6 = .bool true := hL 52 (by decide)
              have hA := PT.frame_of (A := A) (n := 71) hS.size
              have hd : A.defers = [] := hS.defers
              rw [hd] at hA
              obtain ⟨fr, hf⟩ : ∃ f, PB.slot A = f := ⟨_, rfl⟩
              rw [hf] at hA h_19 h_20 h_22 h_23 h_24 h_25 h_26 h_27 h_28 h_29 h_30 h_31 h_33 h_34 h_35 h_36 h_37 h_38 h_39 h_40 h_41 h_42 h_43 h_44 h_45 h_46 h_47 h_48 h_49 h_50 h_51 h_52 h_53 h_54 h_55 h_56 h_58 h_59 h_60 h_61 h_62 h_63 h_64 h_66 h_67 h_68 h_69 h_70 h_6
              rw [hA]
              clear hA hf hd hL hS
              simp only [List.range, List.range.loop, List.map_cons, List.map_nil, List.drop_succ_cons, List.drop_zero, h_19, h_20, h_22, h_23, h_24, h_25, h_26, h_27, h_28, h_29, h_30, h_31, h_33, h_34, h_35, h_36, h_37, h_38, h_39, h_40, h_41, h_42, h_43, h_44, h_45, h_46, h_47, h_48, h_49, h_50, h_51, h_52, h_53, h_54, h_55, h_56, h_58, h_59, h_60, h_61, h_62, h_63, h_64, h_66, h_67, h_68, h_69, h_70, h_6]
              clear h_19 h_20 h_22 h_23 h_24 h_25 h_26 h_27 h_28 h_29 h_30 h_31 h_33 h_34 h_35 h_36 h_37 h_38 h_39 h_40 h_41 h_42 h_43 h_44 h_45 h_46 h_47 h_48 h_49 h_50 h_51 h_52 h_53 h_54 h_55 h_56 h_58 h_59 h_60 h_61 h_62 h_63 h_64 h_66 h_67 h_68 h_69 h_70 h_6
              go_wp2
              go_ret
              have hb2 := hb0.trans (hb1.mono hb0.size)
              exact ⟨rfl, hb2.trans (hB.mono hb2.size)⟩
        | true =>
          cases c with
          | false =>
            go_wp2_with fail
            refine PT.wp_region_tail 53 (PB.phi [PB.E (.slice a n ca), PB.E (.slice b m cb), IsSteps (f ++ g), PB.E (.agg #[.int .i64 t1, .int .i64 t2]), PB.E (.bool true), PB.E (.bool false), PB.E (.bool false), PB.E (.bool true), PB.E (.bool true), PB.E (.bool true), PB.E (.bool true), PB.E (.slice a n ca), PB.E (.slice b m cb), IsJoin f g, PB.E (.agg #[.int .i64 t1, .int .i64 t2]), PB.E (.bool false), PB.E (.bool false), PB.E (.bool false), PB.E undef, PB.E (.bool false), PB.E (.bool true), PB.E (.bool true), PB.E (.bool true), PB.E (.slice a n ca), PB.E (.slice b m cb), PB.E (.bool false), PB.E (.bool true), PB.E (.bool true), PB.E undef, PB.E undef, PB.E (.bool true), PB.E (.bool true), PB.E undef, PB.E (.bool true), PB.E (.bool true), PB.E (.bool true), PB.E (.slice a n ca), PB.E (.slice b m cb), IsSteps (f ++ g), PB.E (.slice a n ca), PB.E (.bool true), PB.E (.bool true), PB.E (.bool true), PB.E (.slice a n ca), PB.E (.slice a n ca), PB.E (.slice b m cb), IsJoin f g, PB.E (.bool true), PB.E (.bool true), PB.E (.bool true), PB.E (.bool true), PB.E (.bool true), PB.E (.bool true)]) mixed (by kernel_rfl)
              (PB.phi_lasts _ ⟨PB.E_lasts _, PB.E_lasts _, isSteps_lasts _, PB.E_lasts _, PB.E_lasts _, PB.E_lasts _, PB.E_lasts _, PB.E_lasts _, PB.E_lasts _, PB.E_lasts _, PB.E_lasts _, PB.E_lasts _, PB.E_lasts _, isJoin_lasts _ _, PB.E_lasts _, PB.E_lasts _, PB.E_lasts _, PB.E_lasts _, PB.E_lasts _, PB.E_lasts _, PB.E_lasts _, PB.E_lasts _, PB.E_lasts _, PB.E_lasts _, PB.E_lasts _, PB.E_lasts _, PB.E_lasts _, PB.E_lasts _, PB.E_lasts _, PB.E_lasts _, PB.E_lasts _, PB.E_lasts _, PB.E_lasts _, PB.E_lasts _, PB.E_lasts _, PB.E_lasts _, PB.E_lasts _, PB.E_lasts _, isSteps_lasts _, PB.E_lasts _, PB.E_lasts _, PB.E_lasts _, PB.E_lasts _, PB.E_lasts _, PB.E_lasts _, PB.E_lasts _, isJoin_lasts _ _, PB.E_lasts _, PB.E_lasts _, PB.E_lasts _, PB.E_lasts _, PB.E_lasts _, PB.E_lasts _, trivial⟩) ?_ ?_
            · refine ⟨?_, ?_, ?_, ?_, ?_, ?_, ?_, ?_, ?_, ?_, ?_, ?_, ?_, ?_, ?_, ?_, ?_, ?_, ?_, ?_, ?_, ?_, ?_, ?_, ?_, ?_, ?_, ?_, ?_, ?_, ?_, ?_, ?_, ?_, ?_, ?_, ?_, ?_, ?_, ?_, ?_, ?_, ?_, ?_, ?_, ?_, ?_, ?_, ?_, ?_, ?_, ?_, ?_, trivial⟩ <;> intro A W hB hS hA hF
              · exact Or.inl (PB.does_move (PB.wanted_free rfl) rfl (hS.slots 0 rfl))
              · exact Or.inl (PB.does_move (PB.wanted_free rfl) rfl (hS.slots 1 rfl))
              · exact Or.inl (PB.does_call #[.slice a n ca, .slice b m cb] (PB.wanted_free rfl) rfl Try.func19 rfl rfl (by show [PB.slot A 19, PB.slot A 20] = _; rw [show PB.slot A 19 = .slice a n ca from (hA 0 rfl), show PB.slot A 20 = .slice b m cb from (hA 1 rfl)]) (Meet_newB f g _ _ W (HU.out W (hb1.trans (hB.mono hb1.size))) (HV.out W (hb1.trans (hB.mono hb1.size))) HF.out HG.out))
              · exact Or.inl (PB.does_run (PB.wanted_free rfl) (run_box W (hS.slots 5 rfl) (HBX.out.on (hb1.trans (hB.mono hb1.size)))) rfl)
              · exact Or.inl (PB.does_call #[PB.slot A 21, .agg #[.int .i64 t1, .int .i64 t2]] (PB.wanted_free rfl) rfl Try.func23 rfl rfl (by show [PB.slot A 21, PB.slot A 22] = _; rw [show PB.slot A 22 = .agg #[.int .i64 t1, .int .i64 t2] from (hA 3 rfl)]) (AheadM_newB HP.out HQ.out _ W (hA 2 rfl) HFG.out))
              · exact Or.inl (PB.does_move (PB.wanted_free rfl) rfl (hS.slots 7 rfl))
              · exact Or.inl (PB.does_move (PB.wanted_free rfl) rfl (hA 5 rfl))
              · exact Or.inl (PB.does_move (PB.wanted_by rfl rfl (hA 6 rfl)) rfl (hS.slots 8 rfl))
              · exact Or.inl (PB.does_run (PB.wanted_free rfl) (run_pick_else W (hA 6 rfl) (hA 7 rfl)) rfl)
              · exact Or.inl (PB.does_bin (PB.wanted_free rfl) rfl (hA 4 rfl) (hA 8 rfl) (run_eqB W _ _ _ _) rfl)
              · exact Or.inl (PB.does_move (PB.wanted_free rfl) rfl (hA 9 rfl))
              · exact Or.inl (PB.does_move (PB.wanted_by rfl rfl (hA 10 rfl)) rfl (hS.slots 0 rfl))
              · exact Or.inl (PB.does_move (PB.wanted_by rfl rfl (hA 10 rfl)) rfl (hS.slots 1 rfl))
              · exact Or.inl (PB.does_call #[.slice a n ca, .slice b m cb] (PB.wanted_by rfl rfl (hA 10 rfl)) rfl Try.func21 rfl rfl (by show [PB.slot A 30, PB.slot A 31] = _; rw [show PB.slot A 30 = .slice a n ca from (hA 11 rfl), show PB.slot A 31 = .slice b m cb from (hA 12 rfl)]) (Join_newB f g _ _ W (HU.out W (hb1.trans (hB.mono hb1.size))) (HV.out W (hb1.trans (hB.mono hb1.size))) HF.out HG.out))
              · exact Or.inl (PB.does_run (PB.wanted_by rfl rfl (hA 10 rfl)) (run_box W (hS.slots 5 rfl) (HBX.out.on (hb1.trans (hB.mono hb1.size)))) rfl)
              · exact Or.inl (PB.does_call #[PB.slot A 32, .agg #[.int .i64 t1, .int .i64 t2]] (PB.wanted_by rfl rfl (hA 10 rfl)) rfl Try.func23 rfl rfl (by show [PB.slot A 32, PB.slot A 33] = _; rw [show PB.slot A 33 = .agg #[.int .i64 t1, .int .i64 t2] from (hA 14 rfl)]) (AheadJ_newB HP.out HQ.out _ W (hA 13 rfl)))
              · exact Or.inl (PB.does_move (PB.wanted_by rfl rfl (hA 10 rfl)) rfl (hS.slots 7 rfl))
              · exact Or.inl (PB.does_move (PB.wanted_by rfl rfl (hA 10 rfl)) rfl (hA 16 rfl))
              · exact Or.inr ⟨PT.pass_by rfl rfl (hA 17 rfl) (by decide), rfl⟩
              · exact Or.inl (PB.does_run (PB.wanted_by rfl rfl (hA 10 rfl)) (run_pick_elseC W (hA 17 rfl)) rfl)
              · exact Or.inl (PB.does_bin (PB.wanted_by rfl rfl (hA 10 rfl)) rfl (hA 15 rfl) (hA 19 rfl) (run_eqB W _ _ _ _) rfl)
              · exact Or.inl (PB.does_run (PB.wanted_free rfl) (run_pick_then W (hA 10 rfl) (hA 20 rfl)) rfl)
              · exact Or.inl (PB.does_move (PB.wanted_free rfl) rfl (hA 21 rfl))
              · exact Or.inl (PB.does_move (PB.wanted_by rfl rfl (hA 22 rfl)) rfl (hS.slots 0 rfl))
              · exact Or.inl (PB.does_move (PB.wanted_by rfl rfl (hA 22 rfl)) rfl (hS.slots 1 rfl))
              · exact Or.inl (PB.does_call #[.slice a n ca, .slice b m cb] (PB.wanted_by rfl rfl (hA 22 rfl)) rfl Try.func17 rfl rfl (by show [PB.slot A 42, PB.slot A 43] = _; rw [show PB.slot A 42 = .slice a n ca from (hA 23 rfl), show PB.slot A 43 = .slice b m cb from (hA 24 rfl)]) (FLE_is HC.out _ _ W (HU.out W (hb1.trans (hB.mono hb1.size))) (HV.out W (hb1.trans (hB.mono hb1.size))) HF3.out HG3.out))
              · exact Or.inl (PB.does_run (PB.wanted_by rfl rfl (hA 22 rfl)) (run_not W (hA 25 rfl)) rfl)
              · exact Or.inl (PB.does_move (PB.wanted_by rfl rfl (hA 22 rfl)) rfl (hA 26 rfl))
              · exact Or.inr ⟨PT.pass_by rfl rfl (hA 27 rfl) (by decide), rfl⟩
              · exact Or.inr ⟨PT.pass_by rfl rfl (hA 27 rfl) (by decide), rfl⟩
              · exact Or.inl (PB.does_run (PB.wanted_by rfl rfl (hA 22 rfl)) (run_pick_const W (hA 27 rfl)) rfl)
              · exact Or.inl (PB.does_move (PB.wanted_by rfl rfl (hA 22 rfl)) rfl (hA 30 rfl))
              · exact Or.inr ⟨PT.pass_by rfl rfl (hA 31 rfl) (by decide), rfl⟩
              · exact Or.inl (PB.does_run (PB.wanted_by rfl rfl (hA 22 rfl)) (run_pick_const W (hA 31 rfl)) rfl)
              · exact Or.inl (PB.does_run (PB.wanted_free rfl) (run_pick_then W (hA 22 rfl) (hA 33 rfl)) rfl)
              · exact Or.inl (PB.does_move (PB.wanted_free rfl) rfl (hA 34 rfl))
              · exact Or.inl (PB.does_move (PB.wanted_by rfl rfl (hA 35 rfl)) rfl (hS.slots 0 rfl))
              · exact Or.inl (PB.does_move (PB.wanted_by rfl rfl (hA 35 rfl)) rfl (hS.slots 1 rfl))
              · exact Or.inl (PB.does_call #[.slice a n ca, .slice b m cb] (PB.wanted_by rfl rfl (hA 35 rfl)) rfl Try.func19 rfl rfl (by show [PB.slot A 55, PB.slot A 56] = _; rw [show PB.slot A 55 = .slice a n ca from (hA 36 rfl), show PB.slot A 56 = .slice b m cb from (hA 37 rfl)]) (Meet_newB f g _ _ W (HU.out W (hb1.trans (hB.mono hb1.size))) (HV.out W (hb1.trans (hB.mono hb1.size))) HF.out HG.out))
              · exact Or.inl (PB.does_move (PB.wanted_by rfl rfl (hA 35 rfl)) rfl (hS.slots 0 rfl))
              · exact Or.inl (PB.does_call #[PB.slot A 57, .slice a n ca] (PB.wanted_by rfl rfl (hA 35 rfl)) rfl Try.func17 rfl rfl (by show [PB.slot A 57, PB.slot A 58] = _; rw [show PB.slot A 58 = .slice a n ca from (hA 39 rfl)]) (FLE_meet _ _ W (hA 38 rfl) (HU.out W (hb1.trans (hB.mono hb1.size))) HF.out HG.out))
              · exact Or.inl (PB.does_run (PB.wanted_free rfl) (run_pick_then W (hA 35 rfl) (hA 40 rfl)) rfl)
              · exact Or.inl (PB.does_move (PB.wanted_free rfl) rfl (hA 41 rfl))
              · exact Or.inl (PB.does_move (PB.wanted_by rfl rfl (hA 42 rfl)) rfl (hS.slots 0 rfl))
              · exact Or.inl (PB.does_move (PB.wanted_by rfl rfl (hA 42 rfl)) rfl (hS.slots 0 rfl))
              · exact Or.inl (PB.does_move (PB.wanted_by rfl rfl (hA 42 rfl)) rfl (hS.slots 1 rfl))
              · exact Or.inl (PB.does_call #[.slice a n ca, .slice b m cb] (PB.wanted_by rfl rfl (hA 42 rfl)) rfl Try.func21 rfl rfl (by show [PB.slot A 63, PB.slot A 64] = _; rw [show PB.slot A 63 = .slice a n ca from (hA 44 rfl), show PB.slot A 64 = .slice b m cb from (hA 45 rfl)]) (Join_newB f g _ _ W (HU.out W (hb1.trans (hB.mono hb1.size))) (HV.out W (hb1.trans (hB.mono hb1.size))) HF.out HG.out))
              · exact Or.inl (PB.does_call #[.slice a n ca, PB.slot A 65] (PB.wanted_by rfl rfl (hA 42 rfl)) rfl Try.func17 rfl rfl (by show [PB.slot A 62, PB.slot A 65] = _; rw [show PB.slot A 62 = .slice a n ca from (hA 43 rfl)]) (FLE_join _ _ W (HU.out W (hb1.trans (hB.mono hb1.size))) (hA 46 rfl) HF.out))
              · exact Or.inl (PB.does_run (PB.wanted_free rfl) (run_pick_then W (hA 42 rfl) (hA 47 rfl)) rfl)
              · exact Or.inl (PB.does_move (PB.wanted_free rfl) rfl (hA 48 rfl))
              · exact Or.inl (PB.does_call #[] (PB.wanted_by rfl rfl (hA 49 rfl)) rfl Try.func10 rfl rfl rfl (live_newB W))
              · exact Or.inl (PB.does_run (PB.wanted_free rfl) (run_pick_then W (hA 49 rfl) (hA 50 rfl)) rfl)
              · exact Or.inl (PB.does_assign (PB.wanted_free rfl) rfl (hA 51 rfl))
            · intro A W hB hS hL
              have h_19 : PB.slot A 19 = .slice a n ca := hL 0 (by decide)
              have h_20 : PB.slot A 20 = .slice b m cb := hL 1 (by decide)
              have h_22 : PB.slot A 22 = .agg #[.int .i64 t1, .int .i64 t2] := hL 3 (by decide)
              have h_23 : PB.slot A 23 = .bool true := hL 4 (by decide)
              have h_24 : PB.slot A 24 = .bool false := hL 5 (by decide)
              have h_25 : PB.slot A 25 = .bool false := hL 6 (by decide)
              have h_26 : PB.slot A 26 = .bool true := hL 7 (by decide)
              have h_27 : PB.slot A 27 = .bool true := hL 8 (by decide)
              have h_28 : PB.slot A 28 = .bool true := hL 9 (by decide)
              have h_29 : PB.slot A 29 = .bool true := hL 10 (by decide)
              have h_30 : PB.slot A 30 = .slice a n ca := hL 11 (by decide)
              have h_31 : PB.slot A 31 = .slice b m cb := hL 12 (by decide)
              have h_33 : PB.slot A 33 = .agg #[.int .i64 t1, .int .i64 t2] := hL 14 (by decide)
              have h_34 : PB.slot A 34 = .bool false := hL 15 (by decide)
              have h_35 : PB.slot A 35 = .bool false := hL 16 (by decide)
              have h_36 : PB.slot A 36 = .bool false := hL 17 (by decide)
              have h_37 : PB.slot A 37 = undef := hL 18 (by decide)
              have h_38 : PB.slot A 38 = .bool false := hL 19 (by decide)
              have h_39 : PB.slot A 39 = .bool true := hL 20 (by decide)
              have h_40 : PB.slot A 40 = .bool true := hL 21 (by decide)
              have h_41 : PB.slot A 41 = .bool true := hL 22 (by decide)
              have h_42 : PB.slot A 42 = .slice a n ca := hL 23 (by decide)
              have h_43 : PB.slot A 43 = .slice b m cb := hL 24 (by decide)
              have h_44 : PB.slot A 44 = .bool false := hL 25 (by decide)
              have h_45 : PB.slot A 45 = .bool true := hL 26 (by decide)
              have h_46 : PB.slot A 46 = .bool true := hL 27 (by decide)
              have h_47 : PB.slot A 47 = undef := hL 28 (by decide)
              have h_48 : PB.slot A 48 = undef := hL 29 (by decide)
              have h_49 : PB.slot A 49 = .bool true := hL 30 (by decide)
              have h_50 : PB.slot A 50 = .bool true := hL 31 (by decide)
              have h_51 : PB.slot A 51 = undef := hL 32 (by decide)
              have h_52 : PB.slot A 52 = .bool true := hL 33 (by decide)
              have h_53 : PB.slot A 53 = .bool true := hL 34 (by decide)
              have h_54 : PB.slot A 54 = .bool true := hL 35 (by decide)
              have h_55 : PB.slot A 55 = .slice a n ca := hL 36 (by decide)
              have h_56 : PB.slot A 56 = .slice b m cb := hL 37 (by decide)
              have h_58 : PB.slot A 58 = .slice a n ca := hL 39 (by decide)
              have h_59 : PB.slot A 59 = .bool true := hL 40 (by decide)
              have h_60 : PB.slot A 60 = .bool true := hL 41 (by decide)
              have h_61 : PB.slot A 61 = .bool true := hL 42 (by decide)
              have h_62 : PB.slot A 62 = .slice a n ca := hL 43 (by decide)
              have h_63 : PB.slot A 63 = .slice a n ca := hL 44 (by decide)
              have h_64 : PB.slot A 64 = .slice b m cb := hL 45 (by decide)
              have h_66 : PB.slot A 66 = .bool true := hL 47 (by decide)
              have h_67 : PB.slot A 67 = .bool true := hL 48 (by decide)
              have h_68 : PB.slot A 68 = .bool true := hL 49 (by decide)
              have h_69 : PB.slot A 69 = .bool true := hL 50 (by decide)
              have h_70 : PB.slot A 70 = .bool true := hL 51 (by decide)
              have h_6 : PB.slot A 6 = .bool true := hL 52 (by decide)
              have hA := PT.frame_of (A := A) (n := 71) hS.size
              have hd : A.defers = [] := hS.defers
              rw [hd] at hA
              obtain ⟨fr, hf⟩ : ∃ f, PB.slot A = f := ⟨_, rfl⟩
              rw [hf] at hA h_19 h_20 h_22 h_23 h_24 h_25 h_26 h_27 h_28 h_29 h_30 h_31 h_33 h_34 h_35 h_36 h_37 h_38 h_39 h_40 h_41 h_42 h_43 h_44 h_45 h_46 h_47 h_48 h_49 h_50 h_51 h_52 h_53 h_54 h_55 h_56 h_58 h_59 h_60 h_61 h_62 h_63 h_64 h_66 h_67 h_68 h_69 h_70 h_6
              rw [hA]
              clear hA hf hd hL hS
              simp only [List.range, List.range.loop, List.map_cons, List.map_nil, List.drop_succ_cons, List.drop_zero, h_19, h_20, h_22, h_23, h_24, h_25, h_26, h_27, h_28, h_29, h_30, h_31, h_33, h_34, h_35, h_36, h_37, h_38, h_39, h_40, h_41, h_42, h_43, h_44, h_45, h_46, h_47, h_48, h_49, h_50, h_51, h_52, h_53, h_54, h_55, h_56, h_58, h_59, h_60, h_61, h_62, h_63, h_64, h_66, h_67, h_68, h_69, h_70, h_6]
              clear h_19 h_20 h_22 h_23 h_24 h_25 h_26 h_27 h_28 h_29 h_30 h_31 h_33 h_34 h_35 h_36 h_37 h_38 h_39 h_40 h_41 h_42 h_43 h_44 h_45 h_46 h_47 h_48 h_49 h_50 h_51 h_52 h_53 h_54 h_55 h_56 h_58 h_59 h_60 h_61 h_62 h_63 h_64 h_66 h_67 h_68 h_69 h_70 h_6
              go_wp2
              go_ret
              have hb2 := hb0.trans (hb1.mono hb0.size)
              exact ⟨rfl, hb2.trans (hB.mono hb2.size)⟩
          | true =>
            have := le_adv HC.out HQ.out
            rw [HP.out] at this; cases this
      | true =>
        cases q with
        | false =>
          cases c with
          | false =>
            go_wp2_with fail
            refine PT.wp_region_tail 53 (PB.phi [PB.E (.slice a n ca), PB.E (.slice b m cb), IsSteps (f ++ g), PB.E (.agg #[.int .i64 t1, .int .i64 t2]), PB.E (.bool true), PB.E (.bool true), PB.E (.bool true), PB.E undef, PB.E (.bool true), PB.E (.bool true), PB.E (.bool true), PB.E (.slice a n ca), PB.E (.slice b m cb), IsJoin f g, PB.E (.agg #[.int .i64 t1, .int .i64 t2]), PB.E (.bool false), PB.E (.bool true), PB.E (.bool true), PB.E (.bool false), PB.E (.bool false), PB.E (.bool true), PB.E (.bool true), PB.E (.bool true), PB.E (.slice a n ca), PB.E (.slice b m cb), PB.E (.bool false), PB.E (.bool true), PB.E (.bool true), PB.E undef, PB.E undef, PB.E (.bool true), PB.E (.bool true), PB.E undef, PB.E (.bool true), PB.E (.bool true), PB.E (.bool true), PB.E (.slice a n ca), PB.E (.slice b m cb), IsSteps (f ++ g), PB.E (.slice a n ca), PB.E (.bool true), PB.E (.bool true), PB.E (.bool true), PB.E (.slice a n ca), PB.E (.slice a n ca), PB.E (.slice b m cb), IsJoin f g, PB.E (.bool true), PB.E (.bool true), PB.E (.bool true), PB.E (.bool true), PB.E (.bool true), PB.E (.bool true)]) mixed (by kernel_rfl)
              (PB.phi_lasts _ ⟨PB.E_lasts _, PB.E_lasts _, isSteps_lasts _, PB.E_lasts _, PB.E_lasts _, PB.E_lasts _, PB.E_lasts _, PB.E_lasts _, PB.E_lasts _, PB.E_lasts _, PB.E_lasts _, PB.E_lasts _, PB.E_lasts _, isJoin_lasts _ _, PB.E_lasts _, PB.E_lasts _, PB.E_lasts _, PB.E_lasts _, PB.E_lasts _, PB.E_lasts _, PB.E_lasts _, PB.E_lasts _, PB.E_lasts _, PB.E_lasts _, PB.E_lasts _, PB.E_lasts _, PB.E_lasts _, PB.E_lasts _, PB.E_lasts _, PB.E_lasts _, PB.E_lasts _, PB.E_lasts _, PB.E_lasts _, PB.E_lasts _, PB.E_lasts _, PB.E_lasts _, PB.E_lasts _, PB.E_lasts _, isSteps_lasts _, PB.E_lasts _, PB.E_lasts _, PB.E_lasts _, PB.E_lasts _, PB.E_lasts _, PB.E_lasts _, PB.E_lasts _, isJoin_lasts _ _, PB.E_lasts _, PB.E_lasts _, PB.E_lasts _, PB.E_lasts _, PB.E_lasts _, PB.E_lasts _, trivial⟩) ?_ ?_
            · refine ⟨?_, ?_, ?_, ?_, ?_, ?_, ?_, ?_, ?_, ?_, ?_, ?_, ?_, ?_, ?_, ?_, ?_, ?_, ?_, ?_, ?_, ?_, ?_, ?_, ?_, ?_, ?_, ?_, ?_, ?_, ?_, ?_, ?_, ?_, ?_, ?_, ?_, ?_, ?_, ?_, ?_, ?_, ?_, ?_, ?_, ?_, ?_, ?_, ?_, ?_, ?_, ?_, ?_, trivial⟩ <;> intro A W hB hS hA hF
              · exact Or.inl (PB.does_move (PB.wanted_free rfl) rfl (hS.slots 0 rfl))
              · exact Or.inl (PB.does_move (PB.wanted_free rfl) rfl (hS.slots 1 rfl))
              · exact Or.inl (PB.does_call #[.slice a n ca, .slice b m cb] (PB.wanted_free rfl) rfl Try.func19 rfl rfl (by show [PB.slot A 19, PB.slot A 20] = _; rw [show PB.slot A 19 = .slice a n ca from (hA 0 rfl), show PB.slot A 20 = .slice b m cb from (hA 1 rfl)]) (Meet_newB f g _ _ W (HU.out W (hb1.trans (hB.mono hb1.size))) (HV.out W (hb1.trans (hB.mono hb1.size))) HF.out HG.out))
              · exact Or.inl (PB.does_run (PB.wanted_free rfl) (run_box W (hS.slots 5 rfl) (HBX.out.on (hb1.trans (hB.mono hb1.size)))) rfl)
              · exact Or.inl (PB.does_call #[PB.slot A 21, .agg #[.int .i64 t1, .int .i64 t2]] (PB.wanted_free rfl) rfl Try.func23 rfl rfl (by show [PB.slot A 21, PB.slot A 22] = _; rw [show PB.slot A 22 = .agg #[.int .i64 t1, .int .i64 t2] from (hA 3 rfl)]) (AheadM_newB HP.out HQ.out _ W (hA 2 rfl) HFG.out))
              · exact Or.inl (PB.does_move (PB.wanted_free rfl) rfl (hS.slots 7 rfl))
              · exact Or.inl (PB.does_move (PB.wanted_free rfl) rfl (hA 5 rfl))
              · exact Or.inr ⟨PT.pass_by rfl rfl (hA 6 rfl) (by decide), rfl⟩
              · exact Or.inl (PB.does_run (PB.wanted_free rfl) (run_pick_const W (hA 6 rfl)) rfl)
              · exact Or.inl (PB.does_bin (PB.wanted_free rfl) rfl (hA 4 rfl) (hA 8 rfl) (run_eqB W _ _ _ _) rfl)
              · exact Or.inl (PB.does_move (PB.wanted_free rfl) rfl (hA 9 rfl))
              · exact Or.inl (PB.does_move (PB.wanted_by rfl rfl (hA 10 rfl)) rfl (hS.slots 0 rfl))
              · exact Or.inl (PB.does_move (PB.wanted_by rfl rfl (hA 10 rfl)) rfl (hS.slots 1 rfl))
              · exact Or.inl (PB.does_call #[.slice a n ca, .slice b m cb] (PB.wanted_by rfl rfl (hA 10 rfl)) rfl Try.func21 rfl rfl (by show [PB.slot A 30, PB.slot A 31] = _; rw [show PB.slot A 30 = .slice a n ca from (hA 11 rfl), show PB.slot A 31 = .slice b m cb from (hA 12 rfl)]) (Join_newB f g _ _ W (HU.out W (hb1.trans (hB.mono hb1.size))) (HV.out W (hb1.trans (hB.mono hb1.size))) HF.out HG.out))
              · exact Or.inl (PB.does_run (PB.wanted_by rfl rfl (hA 10 rfl)) (run_box W (hS.slots 5 rfl) (HBX.out.on (hb1.trans (hB.mono hb1.size)))) rfl)
              · exact Or.inl (PB.does_call #[PB.slot A 32, .agg #[.int .i64 t1, .int .i64 t2]] (PB.wanted_by rfl rfl (hA 10 rfl)) rfl Try.func23 rfl rfl (by show [PB.slot A 32, PB.slot A 33] = _; rw [show PB.slot A 33 = .agg #[.int .i64 t1, .int .i64 t2] from (hA 14 rfl)]) (AheadJ_newB HP.out HQ.out _ W (hA 13 rfl)))
              · exact Or.inl (PB.does_move (PB.wanted_by rfl rfl (hA 10 rfl)) rfl (hS.slots 7 rfl))
              · exact Or.inl (PB.does_move (PB.wanted_by rfl rfl (hA 10 rfl)) rfl (hA 16 rfl))
              · exact Or.inl (PB.does_move (PB.wanted_by rfl rfl (hA 17 rfl)) rfl (hS.slots 8 rfl))
              · exact Or.inl (PB.does_run (PB.wanted_by rfl rfl (hA 10 rfl)) (run_pick_then W (hA 17 rfl) (hA 18 rfl)) rfl)
              · exact Or.inl (PB.does_bin (PB.wanted_by rfl rfl (hA 10 rfl)) rfl (hA 15 rfl) (hA 19 rfl) (run_eqB W _ _ _ _) rfl)
              · exact Or.inl (PB.does_run (PB.wanted_free rfl) (run_pick_then W (hA 10 rfl) (hA 20 rfl)) rfl)
              · exact Or.inl (PB.does_move (PB.wanted_free rfl) rfl (hA 21 rfl))
              · exact Or.inl (PB.does_move (PB.wanted_by rfl rfl (hA 22 rfl)) rfl (hS.slots 0 rfl))
              · exact Or.inl (PB.does_move (PB.wanted_by rfl rfl (hA 22 rfl)) rfl (hS.slots 1 rfl))
              · exact Or.inl (PB.does_call #[.slice a n ca, .slice b m cb] (PB.wanted_by rfl rfl (hA 22 rfl)) rfl Try.func17 rfl rfl (by show [PB.slot A 42, PB.slot A 43] = _; rw [show PB.slot A 42 = .slice a n ca from (hA 23 rfl), show PB.slot A 43 = .slice b m cb from (hA 24 rfl)]) (FLE_is HC.out _ _ W (HU.out W (hb1.trans (hB.mono hb1.size))) (HV.out W (hb1.trans (hB.mono hb1.size))) HF3.out HG3.out))
              · exact Or.inl (PB.does_run (PB.wanted_by rfl rfl (hA 22 rfl)) (run_not W (hA 25 rfl)) rfl)
              · exact Or.inl (PB.does_move (PB.wanted_by rfl rfl (hA 22 rfl)) rfl (hA 26 rfl))
              · exact Or.inr ⟨PT.pass_by rfl rfl (hA 27 rfl) (by decide), rfl⟩
              · exact Or.inr ⟨PT.pass_by rfl rfl (hA 27 rfl) (by decide), rfl⟩
              · exact Or.inl (PB.does_run (PB.wanted_by rfl rfl (hA 22 rfl)) (run_pick_const W (hA 27 rfl)) rfl)
              · exact Or.inl (PB.does_move (PB.wanted_by rfl rfl (hA 22 rfl)) rfl (hA 30 rfl))
              · exact Or.inr ⟨PT.pass_by rfl rfl (hA 31 rfl) (by decide), rfl⟩
              · exact Or.inl (PB.does_run (PB.wanted_by rfl rfl (hA 22 rfl)) (run_pick_const W (hA 31 rfl)) rfl)
              · exact Or.inl (PB.does_run (PB.wanted_free rfl) (run_pick_then W (hA 22 rfl) (hA 33 rfl)) rfl)
              · exact Or.inl (PB.does_move (PB.wanted_free rfl) rfl (hA 34 rfl))
              · exact Or.inl (PB.does_move (PB.wanted_by rfl rfl (hA 35 rfl)) rfl (hS.slots 0 rfl))
              · exact Or.inl (PB.does_move (PB.wanted_by rfl rfl (hA 35 rfl)) rfl (hS.slots 1 rfl))
              · exact Or.inl (PB.does_call #[.slice a n ca, .slice b m cb] (PB.wanted_by rfl rfl (hA 35 rfl)) rfl Try.func19 rfl rfl (by show [PB.slot A 55, PB.slot A 56] = _; rw [show PB.slot A 55 = .slice a n ca from (hA 36 rfl), show PB.slot A 56 = .slice b m cb from (hA 37 rfl)]) (Meet_newB f g _ _ W (HU.out W (hb1.trans (hB.mono hb1.size))) (HV.out W (hb1.trans (hB.mono hb1.size))) HF.out HG.out))
              · exact Or.inl (PB.does_move (PB.wanted_by rfl rfl (hA 35 rfl)) rfl (hS.slots 0 rfl))
              · exact Or.inl (PB.does_call #[PB.slot A 57, .slice a n ca] (PB.wanted_by rfl rfl (hA 35 rfl)) rfl Try.func17 rfl rfl (by show [PB.slot A 57, PB.slot A 58] = _; rw [show PB.slot A 58 = .slice a n ca from (hA 39 rfl)]) (FLE_meet _ _ W (hA 38 rfl) (HU.out W (hb1.trans (hB.mono hb1.size))) HF.out HG.out))
              · exact Or.inl (PB.does_run (PB.wanted_free rfl) (run_pick_then W (hA 35 rfl) (hA 40 rfl)) rfl)
              · exact Or.inl (PB.does_move (PB.wanted_free rfl) rfl (hA 41 rfl))
              · exact Or.inl (PB.does_move (PB.wanted_by rfl rfl (hA 42 rfl)) rfl (hS.slots 0 rfl))
              · exact Or.inl (PB.does_move (PB.wanted_by rfl rfl (hA 42 rfl)) rfl (hS.slots 0 rfl))
              · exact Or.inl (PB.does_move (PB.wanted_by rfl rfl (hA 42 rfl)) rfl (hS.slots 1 rfl))
              · exact Or.inl (PB.does_call #[.slice a n ca, .slice b m cb] (PB.wanted_by rfl rfl (hA 42 rfl)) rfl Try.func21 rfl rfl (by show [PB.slot A 63, PB.slot A 64] = _; rw [show PB.slot A 63 = .slice a n ca from (hA 44 rfl), show PB.slot A 64 = .slice b m cb from (hA 45 rfl)]) (Join_newB f g _ _ W (HU.out W (hb1.trans (hB.mono hb1.size))) (HV.out W (hb1.trans (hB.mono hb1.size))) HF.out HG.out))
              · exact Or.inl (PB.does_call #[.slice a n ca, PB.slot A 65] (PB.wanted_by rfl rfl (hA 42 rfl)) rfl Try.func17 rfl rfl (by show [PB.slot A 62, PB.slot A 65] = _; rw [show PB.slot A 62 = .slice a n ca from (hA 43 rfl)]) (FLE_join _ _ W (HU.out W (hb1.trans (hB.mono hb1.size))) (hA 46 rfl) HF.out))
              · exact Or.inl (PB.does_run (PB.wanted_free rfl) (run_pick_then W (hA 42 rfl) (hA 47 rfl)) rfl)
              · exact Or.inl (PB.does_move (PB.wanted_free rfl) rfl (hA 48 rfl))
              · exact Or.inl (PB.does_call #[] (PB.wanted_by rfl rfl (hA 49 rfl)) rfl Try.func10 rfl rfl rfl (live_newB W))
              · exact Or.inl (PB.does_run (PB.wanted_free rfl) (run_pick_then W (hA 49 rfl) (hA 50 rfl)) rfl)
              · exact Or.inl (PB.does_assign (PB.wanted_free rfl) rfl (hA 51 rfl))
            · intro A W hB hS hL
              have h_19 : PB.slot A 19 = .slice a n ca := hL 0 (by decide)
              have h_20 : PB.slot A 20 = .slice b m cb := hL 1 (by decide)
              have h_22 : PB.slot A 22 = .agg #[.int .i64 t1, .int .i64 t2] := hL 3 (by decide)
              have h_23 : PB.slot A 23 = .bool true := hL 4 (by decide)
              have h_24 : PB.slot A 24 = .bool true := hL 5 (by decide)
              have h_25 : PB.slot A 25 = .bool true := hL 6 (by decide)
              have h_26 : PB.slot A 26 = undef := hL 7 (by decide)
              have h_27 : PB.slot A 27 = .bool true := hL 8 (by decide)
              have h_28 : PB.slot A 28 = .bool true := hL 9 (by decide)
              have h_29 : PB.slot A 29 = .bool true := hL 10 (by decide)
              have h_30 : PB.slot A 30 = .slice a n ca := hL 11 (by decide)
              have h_31 : PB.slot A 31 = .slice b m cb := hL 12 (by decide)
              have h_33 : PB.slot A 33 = .agg #[.int .i64 t1, .int .i64 t2] := hL 14 (by decide)
              have h_34 : PB.slot A 34 = .bool false := hL 15 (by decide)
              have h_35 : PB.slot A 35 = .bool true := hL 16 (by decide)
              have h_36 : PB.slot A 36 = .bool true := hL 17 (by decide)
              have h_37 : PB.slot A 37 = .bool false := hL 18 (by decide)
              have h_38 : PB.slot A 38 = .bool false := hL 19 (by decide)
              have h_39 : PB.slot A 39 = .bool true := hL 20 (by decide)
              have h_40 : PB.slot A 40 = .bool true := hL 21 (by decide)
              have h_41 : PB.slot A 41 = .bool true := hL 22 (by decide)
              have h_42 : PB.slot A 42 = .slice a n ca := hL 23 (by decide)
              have h_43 : PB.slot A 43 = .slice b m cb := hL 24 (by decide)
              have h_44 : PB.slot A 44 = .bool false := hL 25 (by decide)
              have h_45 : PB.slot A 45 = .bool true := hL 26 (by decide)
              have h_46 : PB.slot A 46 = .bool true := hL 27 (by decide)
              have h_47 : PB.slot A 47 = undef := hL 28 (by decide)
              have h_48 : PB.slot A 48 = undef := hL 29 (by decide)
              have h_49 : PB.slot A 49 = .bool true := hL 30 (by decide)
              have h_50 : PB.slot A 50 = .bool true := hL 31 (by decide)
              have h_51 : PB.slot A 51 = undef := hL 32 (by decide)
              have h_52 : PB.slot A 52 = .bool true := hL 33 (by decide)
              have h_53 : PB.slot A 53 = .bool true := hL 34 (by decide)
              have h_54 : PB.slot A 54 = .bool true := hL 35 (by decide)
              have h_55 : PB.slot A 55 = .slice a n ca := hL 36 (by decide)
              have h_56 : PB.slot A 56 = .slice b m cb := hL 37 (by decide)
              have h_58 : PB.slot A 58 = .slice a n ca := hL 39 (by decide)
              have h_59 : PB.slot A 59 = .bool true := hL 40 (by decide)
              have h_60 : PB.slot A 60 = .bool true := hL 41 (by decide)
              have h_61 : PB.slot A 61 = .bool true := hL 42 (by decide)
              have h_62 : PB.slot A 62 = .slice a n ca := hL 43 (by decide)
              have h_63 : PB.slot A 63 = .slice a n ca := hL 44 (by decide)
              have h_64 : PB.slot A 64 = .slice b m cb := hL 45 (by decide)
              have h_66 : PB.slot A 66 = .bool true := hL 47 (by decide)
              have h_67 : PB.slot A 67 = .bool true := hL 48 (by decide)
              have h_68 : PB.slot A 68 = .bool true := hL 49 (by decide)
              have h_69 : PB.slot A 69 = .bool true := hL 50 (by decide)
              have h_70 : PB.slot A 70 = .bool true := hL 51 (by decide)
              have h_6 : PB.slot A 6 = .bool true := hL 52 (by decide)
              have hA := PT.frame_of (A := A) (n := 71) hS.size
              have hd : A.defers = [] := hS.defers
              rw [hd] at hA
              obtain ⟨fr, hf⟩ : ∃ f, PB.slot A = f := ⟨_, rfl⟩
              rw [hf] at hA h_19 h_20 h_22 h_23 h_24 h_25 h_26 h_27 h_28 h_29 h_30 h_31 h_33 h_34 h_35 h_36 h_37 h_38 h_39 h_40 h_41 h_42 h_43 h_44 h_45 h_46 h_47 h_48 h_49 h_50 h_51 h_52 h_53 h_54 h_55 h_56 h_58 h_59 h_60 h_61 h_62 h_63 h_64 h_66 h_67 h_68 h_69 h_70 h_6
              rw [hA]
              clear hA hf hd hL hS
              simp only [List.range, List.range.loop, List.map_cons, List.map_nil, List.drop_succ_cons, List.drop_zero, h_19, h_20, h_22, h_23, h_24, h_25, h_26, h_27, h_28, h_29, h_30, h_31, h_33, h_34, h_35, h_36, h_37, h_38, h_39, h_40, h_41, h_42, h_43, h_44, h_45, h_46, h_47, h_48, h_49, h_50, h_51, h_52, h_53, h_54, h_55, h_56, h_58, h_59, h_60, h_61, h_62, h_63, h_64, h_66, h_67, h_68, h_69, h_70, h_6]
              clear h_19 h_20 h_22 h_23 h_24 h_25 h_26 h_27 h_28 h_29 h_30 h_31 h_33 h_34 h_35 h_36 h_37 h_38 h_39 h_40 h_41 h_42 h_43 h_44 h_45 h_46 h_47 h_48 h_49 h_50 h_51 h_52 h_53 h_54 h_55 h_56 h_58 h_59 h_60 h_61 h_62 h_63 h_64 h_66 h_67 h_68 h_69 h_70 h_6
              go_wp2
              go_ret
              have hb2 := hb0.trans (hb1.mono hb0.size)
              exact ⟨rfl, hb2.trans (hB.mono hb2.size)⟩
          | true =>
            go_wp2_with fail
            refine PT.wp_region_tail 53 (PB.phi [PB.E (.slice a n ca), PB.E (.slice b m cb), IsSteps (f ++ g), PB.E (.agg #[.int .i64 t1, .int .i64 t2]), PB.E (.bool true), PB.E (.bool true), PB.E (.bool true), PB.E undef, PB.E (.bool true), PB.E (.bool true), PB.E (.bool true), PB.E (.slice a n ca), PB.E (.slice b m cb), IsJoin f g, PB.E (.agg #[.int .i64 t1, .int .i64 t2]), PB.E (.bool false), PB.E (.bool true), PB.E (.bool true), PB.E (.bool false), PB.E (.bool false), PB.E (.bool true), PB.E (.bool true), PB.E (.bool true), PB.E (.slice a n ca), PB.E (.slice b m cb), PB.E (.bool true), PB.E (.bool false), PB.E (.bool false), PB.E (.bool false), PB.E (.bool true), PB.E (.bool true), PB.E (.bool true), PB.E undef, PB.E (.bool true), PB.E (.bool true), PB.E (.bool true), PB.E (.slice a n ca), PB.E (.slice b m cb), IsSteps (f ++ g), PB.E (.slice a n ca), PB.E (.bool true), PB.E (.bool true), PB.E (.bool true), PB.E (.slice a n ca), PB.E (.slice a n ca), PB.E (.slice b m cb), IsJoin f g, PB.E (.bool true), PB.E (.bool true), PB.E (.bool true), PB.E (.bool true), PB.E (.bool true), PB.E (.bool true)]) mixed (by kernel_rfl)
              (PB.phi_lasts _ ⟨PB.E_lasts _, PB.E_lasts _, isSteps_lasts _, PB.E_lasts _, PB.E_lasts _, PB.E_lasts _, PB.E_lasts _, PB.E_lasts _, PB.E_lasts _, PB.E_lasts _, PB.E_lasts _, PB.E_lasts _, PB.E_lasts _, isJoin_lasts _ _, PB.E_lasts _, PB.E_lasts _, PB.E_lasts _, PB.E_lasts _, PB.E_lasts _, PB.E_lasts _, PB.E_lasts _, PB.E_lasts _, PB.E_lasts _, PB.E_lasts _, PB.E_lasts _, PB.E_lasts _, PB.E_lasts _, PB.E_lasts _, PB.E_lasts _, PB.E_lasts _, PB.E_lasts _, PB.E_lasts _, PB.E_lasts _, PB.E_lasts _, PB.E_lasts _, PB.E_lasts _, PB.E_lasts _, PB.E_lasts _, isSteps_lasts _, PB.E_lasts _, PB.E_lasts _, PB.E_lasts _, PB.E_lasts _, PB.E_lasts _, PB.E_lasts _, PB.E_lasts _, isJoin_lasts _ _, PB.E_lasts _, PB.E_lasts _, PB.E_lasts _, PB.E_lasts _, PB.E_lasts _, PB.E_lasts _, trivial⟩) ?_ ?_
            · refine ⟨?_, ?_, ?_, ?_, ?_, ?_, ?_, ?_, ?_, ?_, ?_, ?_, ?_, ?_, ?_, ?_, ?_, ?_, ?_, ?_, ?_, ?_, ?_, ?_, ?_, ?_, ?_, ?_, ?_, ?_, ?_, ?_, ?_, ?_, ?_, ?_, ?_, ?_, ?_, ?_, ?_, ?_, ?_, ?_, ?_, ?_, ?_, ?_, ?_, ?_, ?_, ?_, ?_, trivial⟩ <;> intro A W hB hS hA hF
              · exact Or.inl (PB.does_move (PB.wanted_free rfl) rfl (hS.slots 0 rfl))
              · exact Or.inl (PB.does_move (PB.wanted_free rfl) rfl (hS.slots 1 rfl))
              · exact Or.inl (PB.does_call #[.slice a n ca, .slice b m cb] (PB.wanted_free rfl) rfl Try.func19 rfl rfl (by show [PB.slot A 19, PB.slot A 20] = _; rw [show PB.slot A 19 = .slice a n ca from (hA 0 rfl), show PB.slot A 20 = .slice b m cb from (hA 1 rfl)]) (Meet_newB f g _ _ W (HU.out W (hb1.trans (hB.mono hb1.size))) (HV.out W (hb1.trans (hB.mono hb1.size))) HF.out HG.out))
              · exact Or.inl (PB.does_run (PB.wanted_free rfl) (run_box W (hS.slots 5 rfl) (HBX.out.on (hb1.trans (hB.mono hb1.size)))) rfl)
              · exact Or.inl (PB.does_call #[PB.slot A 21, .agg #[.int .i64 t1, .int .i64 t2]] (PB.wanted_free rfl) rfl Try.func23 rfl rfl (by show [PB.slot A 21, PB.slot A 22] = _; rw [show PB.slot A 22 = .agg #[.int .i64 t1, .int .i64 t2] from (hA 3 rfl)]) (AheadM_newB HP.out HQ.out _ W (hA 2 rfl) HFG.out))
              · exact Or.inl (PB.does_move (PB.wanted_free rfl) rfl (hS.slots 7 rfl))
              · exact Or.inl (PB.does_move (PB.wanted_free rfl) rfl (hA 5 rfl))
              · exact Or.inr ⟨PT.pass_by rfl rfl (hA 6 rfl) (by decide), rfl⟩
              · exact Or.inl (PB.does_run (PB.wanted_free rfl) (run_pick_const W (hA 6 rfl)) rfl)
              · exact Or.inl (PB.does_bin (PB.wanted_free rfl) rfl (hA 4 rfl) (hA 8 rfl) (run_eqB W _ _ _ _) rfl)
              · exact Or.inl (PB.does_move (PB.wanted_free rfl) rfl (hA 9 rfl))
              · exact Or.inl (PB.does_move (PB.wanted_by rfl rfl (hA 10 rfl)) rfl (hS.slots 0 rfl))
              · exact Or.inl (PB.does_move (PB.wanted_by rfl rfl (hA 10 rfl)) rfl (hS.slots 1 rfl))
              · exact Or.inl (PB.does_call #[.slice a n ca, .slice b m cb] (PB.wanted_by rfl rfl (hA 10 rfl)) rfl Try.func21 rfl rfl (by show [PB.slot A 30, PB.slot A 31] = _; rw [show PB.slot A 30 = .slice a n ca from (hA 11 rfl), show PB.slot A 31 = .slice b m cb from (hA 12 rfl)]) (Join_newB f g _ _ W (HU.out W (hb1.trans (hB.mono hb1.size))) (HV.out W (hb1.trans (hB.mono hb1.size))) HF.out HG.out))
              · exact Or.inl (PB.does_run (PB.wanted_by rfl rfl (hA 10 rfl)) (run_box W (hS.slots 5 rfl) (HBX.out.on (hb1.trans (hB.mono hb1.size)))) rfl)
              · exact Or.inl (PB.does_call #[PB.slot A 32, .agg #[.int .i64 t1, .int .i64 t2]] (PB.wanted_by rfl rfl (hA 10 rfl)) rfl Try.func23 rfl rfl (by show [PB.slot A 32, PB.slot A 33] = _; rw [show PB.slot A 33 = .agg #[.int .i64 t1, .int .i64 t2] from (hA 14 rfl)]) (AheadJ_newB HP.out HQ.out _ W (hA 13 rfl)))
              · exact Or.inl (PB.does_move (PB.wanted_by rfl rfl (hA 10 rfl)) rfl (hS.slots 7 rfl))
              · exact Or.inl (PB.does_move (PB.wanted_by rfl rfl (hA 10 rfl)) rfl (hA 16 rfl))
              · exact Or.inl (PB.does_move (PB.wanted_by rfl rfl (hA 17 rfl)) rfl (hS.slots 8 rfl))
              · exact Or.inl (PB.does_run (PB.wanted_by rfl rfl (hA 10 rfl)) (run_pick_then W (hA 17 rfl) (hA 18 rfl)) rfl)
              · exact Or.inl (PB.does_bin (PB.wanted_by rfl rfl (hA 10 rfl)) rfl (hA 15 rfl) (hA 19 rfl) (run_eqB W _ _ _ _) rfl)
              · exact Or.inl (PB.does_run (PB.wanted_free rfl) (run_pick_then W (hA 10 rfl) (hA 20 rfl)) rfl)
              · exact Or.inl (PB.does_move (PB.wanted_free rfl) rfl (hA 21 rfl))
              · exact Or.inl (PB.does_move (PB.wanted_by rfl rfl (hA 22 rfl)) rfl (hS.slots 0 rfl))
              · exact Or.inl (PB.does_move (PB.wanted_by rfl rfl (hA 22 rfl)) rfl (hS.slots 1 rfl))
              · exact Or.inl (PB.does_call #[.slice a n ca, .slice b m cb] (PB.wanted_by rfl rfl (hA 22 rfl)) rfl Try.func17 rfl rfl (by show [PB.slot A 42, PB.slot A 43] = _; rw [show PB.slot A 42 = .slice a n ca from (hA 23 rfl), show PB.slot A 43 = .slice b m cb from (hA 24 rfl)]) (FLE_is HC.out _ _ W (HU.out W (hb1.trans (hB.mono hb1.size))) (HV.out W (hb1.trans (hB.mono hb1.size))) HF3.out HG3.out))
              · exact Or.inl (PB.does_run (PB.wanted_by rfl rfl (hA 22 rfl)) (run_not W (hA 25 rfl)) rfl)
              · exact Or.inl (PB.does_move (PB.wanted_by rfl rfl (hA 22 rfl)) rfl (hA 26 rfl))
              · exact Or.inl (PB.does_move (PB.wanted_by rfl rfl (hA 27 rfl)) rfl (hS.slots 8 rfl))
              · exact Or.inl (PB.does_run (PB.wanted_by rfl rfl (hA 27 rfl)) (run_not W (hA 28 rfl)) rfl)
              · exact Or.inl (PB.does_run (PB.wanted_by rfl rfl (hA 22 rfl)) (run_pick_else W (hA 27 rfl) (hA 29 rfl)) rfl)
              · exact Or.inl (PB.does_move (PB.wanted_by rfl rfl (hA 22 rfl)) rfl (hA 30 rfl))
              · exact Or.inr ⟨PT.pass_by rfl rfl (hA 31 rfl) (by decide), rfl⟩
              · exact Or.inl (PB.does_run (PB.wanted_by rfl rfl (hA 22 rfl)) (run_pick_const W (hA 31 rfl)) rfl)
              · exact Or.inl (PB.does_run (PB.wanted_free rfl) (run_pick_then W (hA 22 rfl) (hA 33 rfl)) rfl)
              · exact Or.inl (PB.does_move (PB.wanted_free rfl) rfl (hA 34 rfl))
              · exact Or.inl (PB.does_move (PB.wanted_by rfl rfl (hA 35 rfl)) rfl (hS.slots 0 rfl))
              · exact Or.inl (PB.does_move (PB.wanted_by rfl rfl (hA 35 rfl)) rfl (hS.slots 1 rfl))
              · exact Or.inl (PB.does_call #[.slice a n ca, .slice b m cb] (PB.wanted_by rfl rfl (hA 35 rfl)) rfl Try.func19 rfl rfl (by show [PB.slot A 55, PB.slot A 56] = _; rw [show PB.slot A 55 = .slice a n ca from (hA 36 rfl), show PB.slot A 56 = .slice b m cb from (hA 37 rfl)]) (Meet_newB f g _ _ W (HU.out W (hb1.trans (hB.mono hb1.size))) (HV.out W (hb1.trans (hB.mono hb1.size))) HF.out HG.out))
              · exact Or.inl (PB.does_move (PB.wanted_by rfl rfl (hA 35 rfl)) rfl (hS.slots 0 rfl))
              · exact Or.inl (PB.does_call #[PB.slot A 57, .slice a n ca] (PB.wanted_by rfl rfl (hA 35 rfl)) rfl Try.func17 rfl rfl (by show [PB.slot A 57, PB.slot A 58] = _; rw [show PB.slot A 58 = .slice a n ca from (hA 39 rfl)]) (FLE_meet _ _ W (hA 38 rfl) (HU.out W (hb1.trans (hB.mono hb1.size))) HF.out HG.out))
              · exact Or.inl (PB.does_run (PB.wanted_free rfl) (run_pick_then W (hA 35 rfl) (hA 40 rfl)) rfl)
              · exact Or.inl (PB.does_move (PB.wanted_free rfl) rfl (hA 41 rfl))
              · exact Or.inl (PB.does_move (PB.wanted_by rfl rfl (hA 42 rfl)) rfl (hS.slots 0 rfl))
              · exact Or.inl (PB.does_move (PB.wanted_by rfl rfl (hA 42 rfl)) rfl (hS.slots 0 rfl))
              · exact Or.inl (PB.does_move (PB.wanted_by rfl rfl (hA 42 rfl)) rfl (hS.slots 1 rfl))
              · exact Or.inl (PB.does_call #[.slice a n ca, .slice b m cb] (PB.wanted_by rfl rfl (hA 42 rfl)) rfl Try.func21 rfl rfl (by show [PB.slot A 63, PB.slot A 64] = _; rw [show PB.slot A 63 = .slice a n ca from (hA 44 rfl), show PB.slot A 64 = .slice b m cb from (hA 45 rfl)]) (Join_newB f g _ _ W (HU.out W (hb1.trans (hB.mono hb1.size))) (HV.out W (hb1.trans (hB.mono hb1.size))) HF.out HG.out))
              · exact Or.inl (PB.does_call #[.slice a n ca, PB.slot A 65] (PB.wanted_by rfl rfl (hA 42 rfl)) rfl Try.func17 rfl rfl (by show [PB.slot A 62, PB.slot A 65] = _; rw [show PB.slot A 62 = .slice a n ca from (hA 43 rfl)]) (FLE_join _ _ W (HU.out W (hb1.trans (hB.mono hb1.size))) (hA 46 rfl) HF.out))
              · exact Or.inl (PB.does_run (PB.wanted_free rfl) (run_pick_then W (hA 42 rfl) (hA 47 rfl)) rfl)
              · exact Or.inl (PB.does_move (PB.wanted_free rfl) rfl (hA 48 rfl))
              · exact Or.inl (PB.does_call #[] (PB.wanted_by rfl rfl (hA 49 rfl)) rfl Try.func10 rfl rfl rfl (live_newB W))
              · exact Or.inl (PB.does_run (PB.wanted_free rfl) (run_pick_then W (hA 49 rfl) (hA 50 rfl)) rfl)
              · exact Or.inl (PB.does_assign (PB.wanted_free rfl) rfl (hA 51 rfl))
            · intro A W hB hS hL
              have h_19 : PB.slot A 19 = .slice a n ca := hL 0 (by decide)
              have h_20 : PB.slot A 20 = .slice b m cb := hL 1 (by decide)
              have h_22 : PB.slot A 22 = .agg #[.int .i64 t1, .int .i64 t2] := hL 3 (by decide)
              have h_23 : PB.slot A 23 = .bool true := hL 4 (by decide)
              have h_24 : PB.slot A 24 = .bool true := hL 5 (by decide)
              have h_25 : PB.slot A 25 = .bool true := hL 6 (by decide)
              have h_26 : PB.slot A 26 = undef := hL 7 (by decide)
              have h_27 : PB.slot A 27 = .bool true := hL 8 (by decide)
              have h_28 : PB.slot A 28 = .bool true := hL 9 (by decide)
              have h_29 : PB.slot A 29 = .bool true := hL 10 (by decide)
              have h_30 : PB.slot A 30 = .slice a n ca := hL 11 (by decide)
              have h_31 : PB.slot A 31 = .slice b m cb := hL 12 (by decide)
              have h_33 : PB.slot A 33 = .agg #[.int .i64 t1, .int .i64 t2] := hL 14 (by decide)
              have h_34 : PB.slot A 34 = .bool false := hL 15 (by decide)
              have h_35 : PB.slot A 35 = .bool true := hL 16 (by decide)
              have h_36 : PB.slot A 36 = .bool true := hL 17 (by decide)
              have h_37 : PB.slot A 37 = .bool false := hL 18 (by decide)
              have h_38 : PB.slot A 38 = .bool false := hL 19 (by decide)
              have h_39 : PB.slot A 39 = .bool true := hL 20 (by decide)
              have h_40 : PB.slot A 40 = .bool true := hL 21 (by decide)
              have h_41 : PB.slot A 41 = .bool true := hL 22 (by decide)
              have h_42 : PB.slot A 42 = .slice a n ca := hL 23 (by decide)
              have h_43 : PB.slot A 43 = .slice b m cb := hL 24 (by decide)
              have h_44 : PB.slot A 44 = .bool true := hL 25 (by decide)
              have h_45 : PB.slot A 45 = .bool false := hL 26 (by decide)
              have h_46 : PB.slot A 46 = .bool false := hL 27 (by decide)
              have h_47 : PB.slot A 47 = .bool false := hL 28 (by decide)
              have h_48 : PB.slot A 48 = .bool true := hL 29 (by decide)
              have h_49 : PB.slot A 49 = .bool true := hL 30 (by decide)
              have h_50 : PB.slot A 50 = .bool true := hL 31 (by decide)
              have h_51 : PB.slot A 51 = undef := hL 32 (by decide)
              have h_52 : PB.slot A 52 = .bool true := hL 33 (by decide)
              have h_53 : PB.slot A 53 = .bool true := hL 34 (by decide)
              have h_54 : PB.slot A 54 = .bool true := hL 35 (by decide)
              have h_55 : PB.slot A 55 = .slice a n ca := hL 36 (by decide)
              have h_56 : PB.slot A 56 = .slice b m cb := hL 37 (by decide)
              have h_58 : PB.slot A 58 = .slice a n ca := hL 39 (by decide)
              have h_59 : PB.slot A 59 = .bool true := hL 40 (by decide)
              have h_60 : PB.slot A 60 = .bool true := hL 41 (by decide)
              have h_61 : PB.slot A 61 = .bool true := hL 42 (by decide)
              have h_62 : PB.slot A 62 = .slice a n ca := hL 43 (by decide)
              have h_63 : PB.slot A 63 = .slice a n ca := hL 44 (by decide)
              have h_64 : PB.slot A 64 = .slice b m cb := hL 45 (by decide)
              have h_66 : PB.slot A 66 = .bool true := hL 47 (by decide)
              have h_67 : PB.slot A 67 = .bool true := hL 48 (by decide)
              have h_68 : PB.slot A 68 = .bool true := hL 49 (by decide)
              have h_69 : PB.slot A 69 = .bool true := hL 50 (by decide)
              have h_70 : PB.slot A 70 = .bool true := hL 51 (by decide)
              have h_6 : PB.slot A 6 = .bool true := hL 52 (by decide)
              have hA := PT.frame_of (A := A) (n := 71) hS.size
              have hd : A.defers = [] := hS.defers
              rw [hd] at hA
              obtain ⟨fr, hf⟩ : ∃ f, PB.slot A = f := ⟨_, rfl⟩
              rw [hf] at hA h_19 h_20 h_22 h_23 h_24 h_25 h_26 h_27 h_28 h_29 h_30 h_31 h_33 h_34 h_35 h_36 h_37 h_38 h_39 h_40 h_41 h_42 h_43 h_44 h_45 h_46 h_47 h_48 h_49 h_50 h_51 h_52 h_53 h_54 h_55 h_56 h_58 h_59 h_60 h_61 h_62 h_63 h_64 h_66 h_67 h_68 h_69 h_70 h_6
              rw [hA]
              clear hA hf hd hL hS
              simp only [List.range, List.range.loop, List.map_cons, List.map_nil, List.drop_succ_cons, List.drop_zero, h_19, h_20, h_22, h_23, h_24, h_25, h_26, h_27, h_28, h_29, h_30, h_31, h_33, h_34, h_35, h_36, h_37, h_38, h_39, h_40, h_41, h_42, h_43, h_44, h_45, h_46, h_47, h_48, h_49, h_50, h_51, h_52, h_53, h_54, h_55, h_56, h_58, h_59, h_60, h_61, h_62, h_63, h_64, h_66, h_67, h_68, h_69, h_70, h_6]
              clear h_19 h_20 h_22 h_23 h_24 h_25 h_26 h_27 h_28 h_29 h_30 h_31 h_33 h_34 h_35 h_36 h_37 h_38 h_39 h_40 h_41 h_42 h_43 h_44 h_45 h_46 h_47 h_48 h_49 h_50 h_51 h_52 h_53 h_54 h_55 h_56 h_58 h_59 h_60 h_61 h_62 h_63 h_64 h_66 h_67 h_68 h_69 h_70 h_6
              go_wp2
              go_ret
              have hb2 := hb0.trans (hb1.mono hb0.size)
              exact ⟨rfl, hb2.trans (hB.mono hb2.size)⟩
        | true =>
          cases c with
          | false =>
            go_wp2_with fail
            refine PT.wp_region_tail 53 (PB.phi [PB.E (.slice a n ca), PB.E (.slice b m cb), IsSteps (f ++ g), PB.E (.agg #[.int .i64 t1, .int .i64 t2]), PB.E (.bool true), PB.E (.bool true), PB.E (.bool true), PB.E undef, PB.E (.bool true), PB.E (.bool true), PB.E (.bool true), PB.E (.slice a n ca), PB.E (.slice b m cb), IsJoin f g, PB.E (.agg #[.int .i64 t1, .int .i64 t2]), PB.E (.bool true), PB.E (.bool true), PB.E (.bool true), PB.E (.bool true), PB.E (.bool true), PB.E (.bool true), PB.E (.bool true), PB.E (.bool true), PB.E (.slice a n ca), PB.E (.slice b m cb), PB.E (.bool false), PB.E (.bool true), PB.E (.bool true), PB.E undef, PB.E undef, PB.E (.bool true), PB.E (.bool true), PB.E undef, PB.E (.bool true), PB.E (.bool true), PB.E (.bool true), PB.E (.slice a n ca), PB.E (.slice b m cb), IsSteps (f ++ g), PB.E (.slice a n ca), PB.E (.bool true), PB.E (.bool true), PB.E (.bool true), PB.E (.slice a n ca), PB.E (.slice a n ca), PB.E (.slice b m cb), IsJoin f g, PB.E (.bool true), PB.E (.bool true), PB.E (.bool true), PB.E (.bool true), PB.E (.bool true), PB.E (.bool true)]) mixed (by kernel_rfl)
              (PB.phi_lasts _ ⟨PB.E_lasts _, PB.E_lasts _, isSteps_lasts _, PB.E_lasts _, PB.E_lasts _, PB.E_lasts _, PB.E_lasts _, PB.E_lasts _, PB.E_lasts _, PB.E_lasts _, PB.E_lasts _, PB.E_lasts _, PB.E_lasts _, isJoin_lasts _ _, PB.E_lasts _, PB.E_lasts _, PB.E_lasts _, PB.E_lasts _, PB.E_lasts _, PB.E_lasts _, PB.E_lasts _, PB.E_lasts _, PB.E_lasts _, PB.E_lasts _, PB.E_lasts _, PB.E_lasts _, PB.E_lasts _, PB.E_lasts _, PB.E_lasts _, PB.E_lasts _, PB.E_lasts _, PB.E_lasts _, PB.E_lasts _, PB.E_lasts _, PB.E_lasts _, PB.E_lasts _, PB.E_lasts _, PB.E_lasts _, isSteps_lasts _, PB.E_lasts _, PB.E_lasts _, PB.E_lasts _, PB.E_lasts _, PB.E_lasts _, PB.E_lasts _, PB.E_lasts _, isJoin_lasts _ _, PB.E_lasts _, PB.E_lasts _, PB.E_lasts _, PB.E_lasts _, PB.E_lasts _, PB.E_lasts _, trivial⟩) ?_ ?_
            · refine ⟨?_, ?_, ?_, ?_, ?_, ?_, ?_, ?_, ?_, ?_, ?_, ?_, ?_, ?_, ?_, ?_, ?_, ?_, ?_, ?_, ?_, ?_, ?_, ?_, ?_, ?_, ?_, ?_, ?_, ?_, ?_, ?_, ?_, ?_, ?_, ?_, ?_, ?_, ?_, ?_, ?_, ?_, ?_, ?_, ?_, ?_, ?_, ?_, ?_, ?_, ?_, ?_, ?_, trivial⟩ <;> intro A W hB hS hA hF
              · exact Or.inl (PB.does_move (PB.wanted_free rfl) rfl (hS.slots 0 rfl))
              · exact Or.inl (PB.does_move (PB.wanted_free rfl) rfl (hS.slots 1 rfl))
              · exact Or.inl (PB.does_call #[.slice a n ca, .slice b m cb] (PB.wanted_free rfl) rfl Try.func19 rfl rfl (by show [PB.slot A 19, PB.slot A 20] = _; rw [show PB.slot A 19 = .slice a n ca from (hA 0 rfl), show PB.slot A 20 = .slice b m cb from (hA 1 rfl)]) (Meet_newB f g _ _ W (HU.out W (hb1.trans (hB.mono hb1.size))) (HV.out W (hb1.trans (hB.mono hb1.size))) HF.out HG.out))
              · exact Or.inl (PB.does_run (PB.wanted_free rfl) (run_box W (hS.slots 5 rfl) (HBX.out.on (hb1.trans (hB.mono hb1.size)))) rfl)
              · exact Or.inl (PB.does_call #[PB.slot A 21, .agg #[.int .i64 t1, .int .i64 t2]] (PB.wanted_free rfl) rfl Try.func23 rfl rfl (by show [PB.slot A 21, PB.slot A 22] = _; rw [show PB.slot A 22 = .agg #[.int .i64 t1, .int .i64 t2] from (hA 3 rfl)]) (AheadM_newB HP.out HQ.out _ W (hA 2 rfl) HFG.out))
              · exact Or.inl (PB.does_move (PB.wanted_free rfl) rfl (hS.slots 7 rfl))
              · exact Or.inl (PB.does_move (PB.wanted_free rfl) rfl (hA 5 rfl))
              · exact Or.inr ⟨PT.pass_by rfl rfl (hA 6 rfl) (by decide), rfl⟩
              · exact Or.inl (PB.does_run (PB.wanted_free rfl) (run_pick_const W (hA 6 rfl)) rfl)
              · exact Or.inl (PB.does_bin (PB.wanted_free rfl) rfl (hA 4 rfl) (hA 8 rfl) (run_eqB W _ _ _ _) rfl)
              · exact Or.inl (PB.does_move (PB.wanted_free rfl) rfl (hA 9 rfl))
              · exact Or.inl (PB.does_move (PB.wanted_by rfl rfl (hA 10 rfl)) rfl (hS.slots 0 rfl))
              · exact Or.inl (PB.does_move (PB.wanted_by rfl rfl (hA 10 rfl)) rfl (hS.slots 1 rfl))
              · exact Or.inl (PB.does_call #[.slice a n ca, .slice b m cb] (PB.wanted_by rfl rfl (hA 10 rfl)) rfl Try.func21 rfl rfl (by show [PB.slot A 30, PB.slot A 31] = _; rw [show PB.slot A 30 = .slice a n ca from (hA 11 rfl), show PB.slot A 31 = .slice b m cb from (hA 12 rfl)]) (Join_newB f g _ _ W (HU.out W (hb1.trans (hB.mono hb1.size))) (HV.out W (hb1.trans (hB.mono hb1.size))) HF.out HG.out))
              · exact Or.inl (PB.does_run (PB.wanted_by rfl rfl (hA 10 rfl)) (run_box W (hS.slots 5 rfl) (HBX.out.on (hb1.trans (hB.mono hb1.size)))) rfl)
              · exact Or.inl (PB.does_call #[PB.slot A 32, .agg #[.int .i64 t1, .int .i64 t2]] (PB.wanted_by rfl rfl (hA 10 rfl)) rfl Try.func23 rfl rfl (by show [PB.slot A 32, PB.slot A 33] = _; rw [show PB.slot A 33 = .agg #[.int .i64 t1, .int .i64 t2] from (hA 14 rfl)]) (AheadJ_newB HP.out HQ.out _ W (hA 13 rfl)))
              · exact Or.inl (PB.does_move (PB.wanted_by rfl rfl (hA 10 rfl)) rfl (hS.slots 7 rfl))
              · exact Or.inl (PB.does_move (PB.wanted_by rfl rfl (hA 10 rfl)) rfl (hA 16 rfl))
              · exact Or.inl (PB.does_move (PB.wanted_by rfl rfl (hA 17 rfl)) rfl (hS.slots 8 rfl))
              · exact Or.inl (PB.does_run (PB.wanted_by rfl rfl (hA 10 rfl)) (run_pick_then W (hA 17 rfl) (hA 18 rfl)) rfl)
              · exact Or.inl (PB.does_bin (PB.wanted_by rfl rfl (hA 10 rfl)) rfl (hA 15 rfl) (hA 19 rfl) (run_eqB W _ _ _ _) rfl)
              · exact Or.inl (PB.does_run (PB.wanted_free rfl) (run_pick_then W (hA 10 rfl) (hA 20 rfl)) rfl)
              · exact Or.inl (PB.does_move (PB.wanted_free rfl) rfl (hA 21 rfl))
              · exact Or.inl (PB.does_move (PB.wanted_by rfl rfl (hA 22 rfl)) rfl (hS.slots 0 rfl))
              · exact Or.inl (PB.does_move (PB.wanted_by rfl rfl (hA 22 rfl)) rfl (hS.slots 1 rfl))
              · exact Or.inl (PB.does_call #[.slice a n ca, .slice b m cb] (PB.wanted_by rfl rfl (hA 22 rfl)) rfl Try.func17 rfl rfl (by show [PB.slot A 42, PB.slot A 43] = _; rw [show PB.slot A 42 = .slice a n ca from (hA 23 rfl), show PB.slot A 43 = .slice b m cb from (hA 24 rfl)]) (FLE_is HC.out _ _ W (HU.out W (hb1.trans (hB.mono hb1.size))) (HV.out W (hb1.trans (hB.mono hb1.size))) HF3.out HG3.out))
              · exact Or.inl (PB.does_run (PB.wanted_by rfl rfl (hA 22 rfl)) (run_not W (hA 25 rfl)) rfl)
              · exact Or.inl (PB.does_move (PB.wanted_by rfl rfl (hA 22 rfl)) rfl (hA 26 rfl))
              · exact Or.inr ⟨PT.pass_by rfl rfl (hA 27 rfl) (by decide), rfl⟩
              · exact Or.inr ⟨PT.pass_by rfl rfl (hA 27 rfl) (by decide), rfl⟩
              · exact Or.inl (PB.does_run (PB.wanted_by rfl rfl (hA 22 rfl)) (run_pick_const W (hA 27 rfl)) rfl)
              · exact Or.inl (PB.does_move (PB.wanted_by rfl rfl (hA 22 rfl)) rfl (hA 30 rfl))
              · exact Or.inr ⟨PT.pass_by rfl rfl (hA 31 rfl) (by decide), rfl⟩
              · exact Or.inl (PB.does_run (PB.wanted_by rfl rfl (hA 22 rfl)) (run_pick_const W (hA 31 rfl)) rfl)
              · exact Or.inl (PB.does_run (PB.wanted_free rfl) (run_pick_then W (hA 22 rfl) (hA 33 rfl)) rfl)
              · exact Or.inl (PB.does_move (PB.wanted_free rfl) rfl (hA 34 rfl))
              · exact Or.inl (PB.does_move (PB.wanted_by rfl rfl (hA 35 rfl)) rfl (hS.slots 0 rfl))
              · exact Or.inl (PB.does_move (PB.wanted_by rfl rfl (hA 35 rfl)) rfl (hS.slots 1 rfl))
              · exact Or.inl (PB.does_call #[.slice a n ca, .slice b m cb] (PB.wanted_by rfl rfl (hA 35 rfl)) rfl Try.func19 rfl rfl (by show [PB.slot A 55, PB.slot A 56] = _; rw [show PB.slot A 55 = .slice a n ca from (hA 36 rfl), show PB.slot A 56 = .slice b m cb from (hA 37 rfl)]) (Meet_newB f g _ _ W (HU.out W (hb1.trans (hB.mono hb1.size))) (HV.out W (hb1.trans (hB.mono hb1.size))) HF.out HG.out))
              · exact Or.inl (PB.does_move (PB.wanted_by rfl rfl (hA 35 rfl)) rfl (hS.slots 0 rfl))
              · exact Or.inl (PB.does_call #[PB.slot A 57, .slice a n ca] (PB.wanted_by rfl rfl (hA 35 rfl)) rfl Try.func17 rfl rfl (by show [PB.slot A 57, PB.slot A 58] = _; rw [show PB.slot A 58 = .slice a n ca from (hA 39 rfl)]) (FLE_meet _ _ W (hA 38 rfl) (HU.out W (hb1.trans (hB.mono hb1.size))) HF.out HG.out))
              · exact Or.inl (PB.does_run (PB.wanted_free rfl) (run_pick_then W (hA 35 rfl) (hA 40 rfl)) rfl)
              · exact Or.inl (PB.does_move (PB.wanted_free rfl) rfl (hA 41 rfl))
              · exact Or.inl (PB.does_move (PB.wanted_by rfl rfl (hA 42 rfl)) rfl (hS.slots 0 rfl))
              · exact Or.inl (PB.does_move (PB.wanted_by rfl rfl (hA 42 rfl)) rfl (hS.slots 0 rfl))
              · exact Or.inl (PB.does_move (PB.wanted_by rfl rfl (hA 42 rfl)) rfl (hS.slots 1 rfl))
              · exact Or.inl (PB.does_call #[.slice a n ca, .slice b m cb] (PB.wanted_by rfl rfl (hA 42 rfl)) rfl Try.func21 rfl rfl (by show [PB.slot A 63, PB.slot A 64] = _; rw [show PB.slot A 63 = .slice a n ca from (hA 44 rfl), show PB.slot A 64 = .slice b m cb from (hA 45 rfl)]) (Join_newB f g _ _ W (HU.out W (hb1.trans (hB.mono hb1.size))) (HV.out W (hb1.trans (hB.mono hb1.size))) HF.out HG.out))
              · exact Or.inl (PB.does_call #[.slice a n ca, PB.slot A 65] (PB.wanted_by rfl rfl (hA 42 rfl)) rfl Try.func17 rfl rfl (by show [PB.slot A 62, PB.slot A 65] = _; rw [show PB.slot A 62 = .slice a n ca from (hA 43 rfl)]) (FLE_join _ _ W (HU.out W (hb1.trans (hB.mono hb1.size))) (hA 46 rfl) HF.out))
              · exact Or.inl (PB.does_run (PB.wanted_free rfl) (run_pick_then W (hA 42 rfl) (hA 47 rfl)) rfl)
              · exact Or.inl (PB.does_move (PB.wanted_free rfl) rfl (hA 48 rfl))
              · exact Or.inl (PB.does_call #[] (PB.wanted_by rfl rfl (hA 49 rfl)) rfl Try.func10 rfl rfl rfl (live_newB W))
              · exact Or.inl (PB.does_run (PB.wanted_free rfl) (run_pick_then W (hA 49 rfl) (hA 50 rfl)) rfl)
              · exact Or.inl (PB.does_assign (PB.wanted_free rfl) rfl (hA 51 rfl))
            · intro A W hB hS hL
              have h_19 : PB.slot A 19 = .slice a n ca := hL 0 (by decide)
              have h_20 : PB.slot A 20 = .slice b m cb := hL 1 (by decide)
              have h_22 : PB.slot A 22 = .agg #[.int .i64 t1, .int .i64 t2] := hL 3 (by decide)
              have h_23 : PB.slot A 23 = .bool true := hL 4 (by decide)
              have h_24 : PB.slot A 24 = .bool true := hL 5 (by decide)
              have h_25 : PB.slot A 25 = .bool true := hL 6 (by decide)
              have h_26 : PB.slot A 26 = undef := hL 7 (by decide)
              have h_27 : PB.slot A 27 = .bool true := hL 8 (by decide)
              have h_28 : PB.slot A 28 = .bool true := hL 9 (by decide)
              have h_29 : PB.slot A 29 = .bool true := hL 10 (by decide)
              have h_30 : PB.slot A 30 = .slice a n ca := hL 11 (by decide)
              have h_31 : PB.slot A 31 = .slice b m cb := hL 12 (by decide)
              have h_33 : PB.slot A 33 = .agg #[.int .i64 t1, .int .i64 t2] := hL 14 (by decide)
              have h_34 : PB.slot A 34 = .bool true := hL 15 (by decide)
              have h_35 : PB.slot A 35 = .bool true := hL 16 (by decide)
              have h_36 : PB.slot A 36 = .bool true := hL 17 (by decide)
              have h_37 : PB.slot A 37 = .bool true := hL 18 (by decide)
              have h_38 : PB.slot A 38 = .bool true := hL 19 (by decide)
              have h_39 : PB.slot A 39 = .bool true := hL 20 (by decide)
              have h_40 : PB.slot A 40 = .bool true := hL 21 (by decide)
              have h_41 : PB.slot A 41 = .bool true := hL 22 (by decide)
              have h_42 : PB.slot A 42 = .slice a n ca := hL 23 (by decide)
              have h_43 : PB.slot A 43 = .slice b m cb := hL 24 (by decide)
              have h_44 : PB.slot A 44 = .bool false := hL 25 (by decide)
              have h_45 : PB.slot A 45 = .bool true := hL 26 (by decide)
              have h_46 : PB.slot A 46 = .bool true := hL 27 (by decide)
              have h_47 : PB.slot A 47 = undef := hL 28 (by decide)
              have h_48 : PB.slot A 48 = undef := hL 29 (by decide)
              have h_49 : PB.slot A 49 = .bool true := hL 30 (by decide)
              have h_50 : PB.slot A 50 = .bool true := hL 31 (by decide)
              have h_51 : PB.slot A 51 = undef := hL 32 (by decide)
              have h_52 : PB.slot A 52 = .bool true := hL 33 (by decide)
              have h_53 : PB.slot A 53 = .bool true := hL 34 (by decide)
              have h_54 : PB.slot A 54 = .bool true := hL 35 (by decide)
              have h_55 : PB.slot A 55 = .slice a n ca := hL 36 (by decide)
              have h_56 : PB.slot A 56 = .slice b m cb := hL 37 (by decide)
              have h_58 : PB.slot A 58 = .slice a n ca := hL 39 (by decide)
              have h_59 : PB.slot A 59 = .bool true := hL 40 (by decide)
              have h_60 : PB.slot A 60 = .bool true := hL 41 (by decide)
              have h_61 : PB.slot A 61 = .bool true := hL 42 (by decide)
              have h_62 : PB.slot A 62 = .slice a n ca := hL 43 (by decide)
              have h_63 : PB.slot A 63 = .slice a n ca := hL 44 (by decide)
              have h_64 : PB.slot A 64 = .slice b m cb := hL 45 (by decide)
              have h_66 : PB.slot A 66 = .bool true := hL 47 (by decide)
              have h_67 : PB.slot A 67 = .bool true := hL 48 (by decide)
              have h_68 : PB.slot A 68 = .bool true := hL 49 (by decide)
              have h_69 : PB.slot A 69 = .bool true := hL 50 (by decide)
              have h_70 : PB.slot A 70 = .bool true := hL 51 (by decide)
              have h_6 : PB.slot A 6 = .bool true := hL 52 (by decide)
              have hA := PT.frame_of (A := A) (n := 71) hS.size
              have hd : A.defers = [] := hS.defers
              rw [hd] at hA
              obtain ⟨fr, hf⟩ : ∃ f, PB.slot A = f := ⟨_, rfl⟩
              rw [hf] at hA h_19 h_20 h_22 h_23 h_24 h_25 h_26 h_27 h_28 h_29 h_30 h_31 h_33 h_34 h_35 h_36 h_37 h_38 h_39 h_40 h_41 h_42 h_43 h_44 h_45 h_46 h_47 h_48 h_49 h_50 h_51 h_52 h_53 h_54 h_55 h_56 h_58 h_59 h_60 h_61 h_62 h_63 h_64 h_66 h_67 h_68 h_69 h_70 h_6
              rw [hA]
              clear hA hf hd hL hS
              simp only [List.range, List.range.loop, List.map_cons, List.map_nil, List.drop_succ_cons, List.drop_zero, h_19, h_20, h_22, h_23, h_24, h_25, h_26, h_27, h_28, h_29, h_30, h_31, h_33, h_34, h_35, h_36, h_37, h_38, h_39, h_40, h_41, h_42, h_43, h_44, h_45, h_46, h_47, h_48, h_49, h_50, h_51, h_52, h_53, h_54, h_55, h_56, h_58, h_59, h_60, h_61, h_62, h_63, h_64, h_66, h_67, h_68, h_69, h_70, h_6]
              clear h_19 h_20 h_22 h_23 h_24 h_25 h_26 h_27 h_28 h_29 h_30 h_31 h_33 h_34 h_35 h_36 h_37 h_38 h_39 h_40 h_41 h_42 h_43 h_44 h_45 h_46 h_47 h_48 h_49 h_50 h_51 h_52 h_53 h_54 h_55 h_56 h_58 h_59 h_60 h_61 h_62 h_63 h_64 h_66 h_67 h_68 h_69 h_70 h_6
              go_wp2
              go_ret
              have hb2 := hb0.trans (hb1.mono hb0.size)
              exact ⟨rfl, hb2.trans (hB.mono hb2.size)⟩
          | true =>
            go_wp2_with fail
            refine PT.wp_region_tail 53 (PB.phi [PB.E (.slice a n ca), PB.E (.slice b m cb), IsSteps (f ++ g), PB.E (.agg #[.int .i64 t1, .int .i64 t2]), PB.E (.bool true), PB.E (.bool true), PB.E (.bool true), PB.E undef, PB.E (.bool true), PB.E (.bool true), PB.E (.bool true), PB.E (.slice a n ca), PB.E (.slice b m cb), IsJoin f g, PB.E (.agg #[.int .i64 t1, .int .i64 t2]), PB.E (.bool true), PB.E (.bool true), PB.E (.bool true), PB.E (.bool true), PB.E (.bool true), PB.E (.bool true), PB.E (.bool true), PB.E (.bool true), PB.E (.slice a n ca), PB.E (.slice b m cb), PB.E (.bool true), PB.E (.bool false), PB.E (.bool false), PB.E (.bool true), PB.E (.bool false), PB.E (.bool false), PB.E (.bool false), PB.E (.bool true), PB.E (.bool true), PB.E (.bool true), PB.E (.bool true), PB.E (.slice a n ca), PB.E (.slice b m cb), IsSteps (f ++ g), PB.E (.slice a n ca), PB.E (.bool true), PB.E (.bool true), PB.E (.bool true), PB.E (.slice a n ca), PB.E (.slice a n ca), PB.E (.slice b m cb), IsJoin f g, PB.E (.bool true), PB.E (.bool true), PB.E (.bool true), PB.E (.bool true), PB.E (.bool true), PB.E (.bool true)]) mixed (by kernel_rfl)
              (PB.phi_lasts _ ⟨PB.E_lasts _, PB.E_lasts _, isSteps_lasts _, PB.E_lasts _, PB.E_lasts _, PB.E_lasts _, PB.E_lasts _, PB.E_lasts _, PB.E_lasts _, PB.E_lasts _, PB.E_lasts _, PB.E_lasts _, PB.E_lasts _, isJoin_lasts _ _, PB.E_lasts _, PB.E_lasts _, PB.E_lasts _, PB.E_lasts _, PB.E_lasts _, PB.E_lasts _, PB.E_lasts _, PB.E_lasts _, PB.E_lasts _, PB.E_lasts _, PB.E_lasts _, PB.E_lasts _, PB.E_lasts _, PB.E_lasts _, PB.E_lasts _, PB.E_lasts _, PB.E_lasts _, PB.E_lasts _, PB.E_lasts _, PB.E_lasts _, PB.E_lasts _, PB.E_lasts _, PB.E_lasts _, PB.E_lasts _, isSteps_lasts _, PB.E_lasts _, PB.E_lasts _, PB.E_lasts _, PB.E_lasts _, PB.E_lasts _, PB.E_lasts _, PB.E_lasts _, isJoin_lasts _ _, PB.E_lasts _, PB.E_lasts _, PB.E_lasts _, PB.E_lasts _, PB.E_lasts _, PB.E_lasts _, trivial⟩) ?_ ?_
            · refine ⟨?_, ?_, ?_, ?_, ?_, ?_, ?_, ?_, ?_, ?_, ?_, ?_, ?_, ?_, ?_, ?_, ?_, ?_, ?_, ?_, ?_, ?_, ?_, ?_, ?_, ?_, ?_, ?_, ?_, ?_, ?_, ?_, ?_, ?_, ?_, ?_, ?_, ?_, ?_, ?_, ?_, ?_, ?_, ?_, ?_, ?_, ?_, ?_, ?_, ?_, ?_, ?_, ?_, trivial⟩ <;> intro A W hB hS hA hF
              · exact Or.inl (PB.does_move (PB.wanted_free rfl) rfl (hS.slots 0 rfl))
              · exact Or.inl (PB.does_move (PB.wanted_free rfl) rfl (hS.slots 1 rfl))
              · exact Or.inl (PB.does_call #[.slice a n ca, .slice b m cb] (PB.wanted_free rfl) rfl Try.func19 rfl rfl (by show [PB.slot A 19, PB.slot A 20] = _; rw [show PB.slot A 19 = .slice a n ca from (hA 0 rfl), show PB.slot A 20 = .slice b m cb from (hA 1 rfl)]) (Meet_newB f g _ _ W (HU.out W (hb1.trans (hB.mono hb1.size))) (HV.out W (hb1.trans (hB.mono hb1.size))) HF.out HG.out))
              · exact Or.inl (PB.does_run (PB.wanted_free rfl) (run_box W (hS.slots 5 rfl) (HBX.out.on (hb1.trans (hB.mono hb1.size)))) rfl)
              · exact Or.inl (PB.does_call #[PB.slot A 21, .agg #[.int .i64 t1, .int .i64 t2]] (PB.wanted_free rfl) rfl Try.func23 rfl rfl (by show [PB.slot A 21, PB.slot A 22] = _; rw [show PB.slot A 22 = .agg #[.int .i64 t1, .int .i64 t2] from (hA 3 rfl)]) (AheadM_newB HP.out HQ.out _ W (hA 2 rfl) HFG.out))
              · exact Or.inl (PB.does_move (PB.wanted_free rfl) rfl (hS.slots 7 rfl))
              · exact Or.inl (PB.does_move (PB.wanted_free rfl) rfl (hA 5 rfl))
              · exact Or.inr ⟨PT.pass_by rfl rfl (hA 6 rfl) (by decide), rfl⟩
              · exact Or.inl (PB.does_run (PB.wanted_free rfl) (run_pick_const W (hA 6 rfl)) rfl)
              · exact Or.inl (PB.does_bin (PB.wanted_free rfl) rfl (hA 4 rfl) (hA 8 rfl) (run_eqB W _ _ _ _) rfl)
              · exact Or.inl (PB.does_move (PB.wanted_free rfl) rfl (hA 9 rfl))
              · exact Or.inl (PB.does_move (PB.wanted_by rfl rfl (hA 10 rfl)) rfl (hS.slots 0 rfl))
              · exact Or.inl (PB.does_move (PB.wanted_by rfl rfl (hA 10 rfl)) rfl (hS.slots 1 rfl))
              · exact Or.inl (PB.does_call #[.slice a n ca, .slice b m cb] (PB.wanted_by rfl rfl (hA 10 rfl)) rfl Try.func21 rfl rfl (by show [PB.slot A 30, PB.slot A 31] = _; rw [show PB.slot A 30 = .slice a n ca from (hA 11 rfl), show PB.slot A 31 = .slice b m cb from (hA 12 rfl)]) (Join_newB f g _ _ W (HU.out W (hb1.trans (hB.mono hb1.size))) (HV.out W (hb1.trans (hB.mono hb1.size))) HF.out HG.out))
              · exact Or.inl (PB.does_run (PB.wanted_by rfl rfl (hA 10 rfl)) (run_box W (hS.slots 5 rfl) (HBX.out.on (hb1.trans (hB.mono hb1.size)))) rfl)
              · exact Or.inl (PB.does_call #[PB.slot A 32, .agg #[.int .i64 t1, .int .i64 t2]] (PB.wanted_by rfl rfl (hA 10 rfl)) rfl Try.func23 rfl rfl (by show [PB.slot A 32, PB.slot A 33] = _; rw [show PB.slot A 33 = .agg #[.int .i64 t1, .int .i64 t2] from (hA 14 rfl)]) (AheadJ_newB HP.out HQ.out _ W (hA 13 rfl)))
              · exact Or.inl (PB.does_move (PB.wanted_by rfl rfl (hA 10 rfl)) rfl (hS.slots 7 rfl))
              · exact Or.inl (PB.does_move (PB.wanted_by rfl rfl (hA 10 rfl)) rfl (hA 16 rfl))
              · exact Or.inl (PB.does_move (PB.wanted_by rfl rfl (hA 17 rfl)) rfl (hS.slots 8 rfl))
              · exact Or.inl (PB.does_run (PB.wanted_by rfl rfl (hA 10 rfl)) (run_pick_then W (hA 17 rfl) (hA 18 rfl)) rfl)
              · exact Or.inl (PB.does_bin (PB.wanted_by rfl rfl (hA 10 rfl)) rfl (hA 15 rfl) (hA 19 rfl) (run_eqB W _ _ _ _) rfl)
              · exact Or.inl (PB.does_run (PB.wanted_free rfl) (run_pick_then W (hA 10 rfl) (hA 20 rfl)) rfl)
              · exact Or.inl (PB.does_move (PB.wanted_free rfl) rfl (hA 21 rfl))
              · exact Or.inl (PB.does_move (PB.wanted_by rfl rfl (hA 22 rfl)) rfl (hS.slots 0 rfl))
              · exact Or.inl (PB.does_move (PB.wanted_by rfl rfl (hA 22 rfl)) rfl (hS.slots 1 rfl))
              · exact Or.inl (PB.does_call #[.slice a n ca, .slice b m cb] (PB.wanted_by rfl rfl (hA 22 rfl)) rfl Try.func17 rfl rfl (by show [PB.slot A 42, PB.slot A 43] = _; rw [show PB.slot A 42 = .slice a n ca from (hA 23 rfl), show PB.slot A 43 = .slice b m cb from (hA 24 rfl)]) (FLE_is HC.out _ _ W (HU.out W (hb1.trans (hB.mono hb1.size))) (HV.out W (hb1.trans (hB.mono hb1.size))) HF3.out HG3.out))
              · exact Or.inl (PB.does_run (PB.wanted_by rfl rfl (hA 22 rfl)) (run_not W (hA 25 rfl)) rfl)
              · exact Or.inl (PB.does_move (PB.wanted_by rfl rfl (hA 22 rfl)) rfl (hA 26 rfl))
              · exact Or.inl (PB.does_move (PB.wanted_by rfl rfl (hA 27 rfl)) rfl (hS.slots 8 rfl))
              · exact Or.inl (PB.does_run (PB.wanted_by rfl rfl (hA 27 rfl)) (run_not W (hA 28 rfl)) rfl)
              · exact Or.inl (PB.does_run (PB.wanted_by rfl rfl (hA 22 rfl)) (run_pick_else W (hA 27 rfl) (hA 29 rfl)) rfl)
              · exact Or.inl (PB.does_move (PB.wanted_by rfl rfl (hA 22 rfl)) rfl (hA 30 rfl))
              · exact Or.inl (PB.does_move (PB.wanted_by rfl rfl (hA 31 rfl)) rfl (hS.slots 7 rfl))
              · exact Or.inl (PB.does_run (PB.wanted_by rfl rfl (hA 22 rfl)) (run_pick_else W (hA 31 rfl) (hA 32 rfl)) rfl)
              · exact Or.inl (PB.does_run (PB.wanted_free rfl) (run_pick_then W (hA 22 rfl) (hA 33 rfl)) rfl)
              · exact Or.inl (PB.does_move (PB.wanted_free rfl) rfl (hA 34 rfl))
              · exact Or.inl (PB.does_move (PB.wanted_by rfl rfl (hA 35 rfl)) rfl (hS.slots 0 rfl))
              · exact Or.inl (PB.does_move (PB.wanted_by rfl rfl (hA 35 rfl)) rfl (hS.slots 1 rfl))
              · exact Or.inl (PB.does_call #[.slice a n ca, .slice b m cb] (PB.wanted_by rfl rfl (hA 35 rfl)) rfl Try.func19 rfl rfl (by show [PB.slot A 55, PB.slot A 56] = _; rw [show PB.slot A 55 = .slice a n ca from (hA 36 rfl), show PB.slot A 56 = .slice b m cb from (hA 37 rfl)]) (Meet_newB f g _ _ W (HU.out W (hb1.trans (hB.mono hb1.size))) (HV.out W (hb1.trans (hB.mono hb1.size))) HF.out HG.out))
              · exact Or.inl (PB.does_move (PB.wanted_by rfl rfl (hA 35 rfl)) rfl (hS.slots 0 rfl))
              · exact Or.inl (PB.does_call #[PB.slot A 57, .slice a n ca] (PB.wanted_by rfl rfl (hA 35 rfl)) rfl Try.func17 rfl rfl (by show [PB.slot A 57, PB.slot A 58] = _; rw [show PB.slot A 58 = .slice a n ca from (hA 39 rfl)]) (FLE_meet _ _ W (hA 38 rfl) (HU.out W (hb1.trans (hB.mono hb1.size))) HF.out HG.out))
              · exact Or.inl (PB.does_run (PB.wanted_free rfl) (run_pick_then W (hA 35 rfl) (hA 40 rfl)) rfl)
              · exact Or.inl (PB.does_move (PB.wanted_free rfl) rfl (hA 41 rfl))
              · exact Or.inl (PB.does_move (PB.wanted_by rfl rfl (hA 42 rfl)) rfl (hS.slots 0 rfl))
              · exact Or.inl (PB.does_move (PB.wanted_by rfl rfl (hA 42 rfl)) rfl (hS.slots 0 rfl))
              · exact Or.inl (PB.does_move (PB.wanted_by rfl rfl (hA 42 rfl)) rfl (hS.slots 1 rfl))
              · exact Or.inl (PB.does_call #[.slice a n ca, .slice b m cb] (PB.wanted_by rfl rfl (hA 42 rfl)) rfl Try.func21 rfl rfl (by show [PB.slot A 63, PB.slot A 64] = _; rw [show PB.slot A 63 = .slice a n ca from (hA 44 rfl), show PB.slot A 64 = .slice b m cb from (hA 45 rfl)]) (Join_newB f g _ _ W (HU.out W (hb1.trans (hB.mono hb1.size))) (HV.out W (hb1.trans (hB.mono hb1.size))) HF.out HG.out))
              · exact Or.inl (PB.does_call #[.slice a n ca, PB.slot A 65] (PB.wanted_by rfl rfl (hA 42 rfl)) rfl Try.func17 rfl rfl (by show [PB.slot A 62, PB.slot A 65] = _; rw [show PB.slot A 62 = .slice a n ca from (hA 43 rfl)]) (FLE_join _ _ W (HU.out W (hb1.trans (hB.mono hb1.size))) (hA 46 rfl) HF.out))
              · exact Or.inl (PB.does_run (PB.wanted_free rfl) (run_pick_then W (hA 42 rfl) (hA 47 rfl)) rfl)
              · exact Or.inl (PB.does_move (PB.wanted_free rfl) rfl (hA 48 rfl))
              · exact Or.inl (PB.does_call #[] (PB.wanted_by rfl rfl (hA 49 rfl)) rfl Try.func10 rfl rfl rfl (live_newB W))
              · exact Or.inl (PB.does_run (PB.wanted_free rfl) (run_pick_then W (hA 49 rfl) (hA 50 rfl)) rfl)
              · exact Or.inl (PB.does_assign (PB.wanted_free rfl) rfl (hA 51 rfl))
            · intro A W hB hS hL
              have h_19 : PB.slot A 19 = .slice a n ca := hL 0 (by decide)
              have h_20 : PB.slot A 20 = .slice b m cb := hL 1 (by decide)
              have h_22 : PB.slot A 22 = .agg #[.int .i64 t1, .int .i64 t2] := hL 3 (by decide)
              have h_23 : PB.slot A 23 = .bool true := hL 4 (by decide)
              have h_24 : PB.slot A 24 = .bool true := hL 5 (by decide)
              have h_25 : PB.slot A 25 = .bool true := hL 6 (by decide)
              have h_26 : PB.slot A 26 = undef := hL 7 (by decide)
              have h_27 : PB.slot A 27 = .bool true := hL 8 (by decide)
              have h_28 : PB.slot A 28 = .bool true := hL 9 (by decide)
              have h_29 : PB.slot A 29 = .bool true := hL 10 (by decide)
              have h_30 : PB.slot A 30 = .slice a n ca := hL 11 (by decide)
              have h_31 : PB.slot A 31 = .slice b m cb := hL 12 (by decide)
              have h_33 : PB.slot A 33 = .agg #[.int .i64 t1, .int .i64 t2] := hL 14 (by decide)
              have h_34 : PB.slot A 34 = .bool true := hL 15 (by decide)
              have h_35 : PB.slot A 35 = .bool true := hL 16 (by decide)
              have h_36 : PB.slot A 36 = .bool true := hL 17 (by decide)
              have h_37 : PB.slot A 37 = .bool true := hL 18 (by decide)
              have h_38 : PB.slot A 38 = .bool true := hL 19 (by decide)
              have h_39 : PB.slot A 39 = .bool true := hL 20 (by decide)
              have h_40 : PB.slot A 40 = .bool true := hL 21 (by decide)
              have h_41 : PB.slot A 41 = .bool true := hL 22 (by decide)
              have h_42 : PB.slot A 42 = .slice a n ca := hL 23 (by decide)
              have h_43 : PB.slot A 43 = .slice b m cb := hL 24 (by decide)
              have h_44 : PB.slot A 44 = .bool true := hL 25 (by decide)
              have h_45 : PB.slot A 45 = .bool false := hL 26 (by decide)
              have h_46 : PB.slot A 46 = .bool false := hL 27 (by decide)
              have h_47 : PB.slot A 47 = .bool true := hL 28 (by decide)
              have h_48 : PB.slot A 48 = .bool false := hL 29 (by decide)
              have h_49 : PB.slot A 49 = .bool false := hL 30 (by decide)
              have h_50 : PB.slot A 50 = .bool false := hL 31 (by decide)
              have h_51 : PB.slot A 51 = .bool true := hL 32 (by decide)
              have h_52 : PB.slot A 52 = .bool true := hL 33 (by decide)
              have h_53 : PB.slot A 53 = .bool true := hL 34 (by decide)
              have h_54 : PB.slot A 54 = .bool true := hL 35 (by decide)
              have h_55 : PB.slot A 55 = .slice a n ca := hL 36 (by decide)
              have h_56 : PB.slot A 56 = .slice b m cb := hL 37 (by decide)
              have h_58 : PB.slot A 58 = .slice a n ca := hL 39 (by decide)
              have h_59 : PB.slot A 59 = .bool true := hL 40 (by decide)
              have h_60 : PB.slot A 60 = .bool true := hL 41 (by decide)
              have h_61 : PB.slot A 61 = .bool true := hL 42 (by decide)
              have h_62 : PB.slot A 62 = .slice a n ca := hL 43 (by decide)
              have h_63 : PB.slot A 63 = .slice a n ca := hL 44 (by decide)
              have h_64 : PB.slot A 64 = .slice b m cb := hL 45 (by decide)
              have h_66 : PB.slot A 66 = .bool true := hL 47 (by decide)
              have h_67 : PB.slot A 67 = .bool true := hL 48 (by decide)
              have h_68 : PB.slot A 68 = .bool true := hL 49 (by decide)
              have h_69 : PB.slot A 69 = .bool true := hL 50 (by decide)
              have h_70 : PB.slot A 70 = .bool true := hL 51 (by decide)
              have h_6 : PB.slot A 6 = .bool true := hL 52 (by decide)
              have hA := PT.frame_of (A := A) (n := 71) hS.size
              have hd : A.defers = [] := hS.defers
              rw [hd] at hA
              obtain ⟨fr, hf⟩ : ∃ f, PB.slot A = f := ⟨_, rfl⟩
              rw [hf] at hA h_19 h_20 h_22 h_23 h_24 h_25 h_26 h_27 h_28 h_29 h_30 h_31 h_33 h_34 h_35 h_36 h_37 h_38 h_39 h_40 h_41 h_42 h_43 h_44 h_45 h_46 h_47 h_48 h_49 h_50 h_51 h_52 h_53 h_54 h_55 h_56 h_58 h_59 h_60 h_61 h_62 h_63 h_64 h_66 h_67 h_68 h_69 h_70 h_6
              rw [hA]
              clear hA hf hd hL hS
              simp only [List.range, List.range.loop, List.map_cons, List.map_nil, List.drop_succ_cons, List.drop_zero, h_19, h_20, h_22, h_23, h_24, h_25, h_26, h_27, h_28, h_29, h_30, h_31, h_33, h_34, h_35, h_36, h_37, h_38, h_39, h_40, h_41, h_42, h_43, h_44, h_45, h_46, h_47, h_48, h_49, h_50, h_51, h_52, h_53, h_54, h_55, h_56, h_58, h_59, h_60, h_61, h_62, h_63, h_64, h_66, h_67, h_68, h_69, h_70, h_6]
              clear h_19 h_20 h_22 h_23 h_24 h_25 h_26 h_27 h_28 h_29 h_30 h_31 h_33 h_34 h_35 h_36 h_37 h_38 h_39 h_40 h_41 h_42 h_43 h_44 h_45 h_46 h_47 h_48 h_49 h_50 h_51 h_52 h_53 h_54 h_55 h_56 h_58 h_59 h_60 h_61 h_62 h_63 h_64 h_66 h_67 h_68 h_69 h_70 h_6
              go_wp2
              go_ret
              have hb2 := hb0.trans (hb1.mono hb0.size)
              exact ⟨rfl, hb2.trans (hB.mono hb2.size)⟩

end Go.Proofs.Ytaadbjnfnmjkfaa
