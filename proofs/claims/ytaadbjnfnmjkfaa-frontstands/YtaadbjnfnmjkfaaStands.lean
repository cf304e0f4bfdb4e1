/-
  What is proved here: the law FrontStands answers true at every list of times and any three times.
-/
import Derived.Test.YtaadbjnfnmjkfaaLeastW
namespace Go.Proofs.Ytaadbjnfnmjkfaa
open Go.RowKit Go.Proofs
set_option linter.unusedVariables false
set_option linter.unusedSimpArgs false

theorem le_fold {t z : T} : ∀ (r : List T) (m : T), le2 z (r.foldl (fun m u => meetT m (joinT t u)) m) = true ↔ le2 z m = true ∧ ∀ x ∈ r, le2 z (joinT t x) = true
  | [], m => by simp
  | x :: r, m => by
    simp only [List.foldl_cons]
    rw [le_fold r, le2_meet]
    simp only [List.mem_cons, forall_eq_or_imp]
    constructor
    · rintro ⟨⟨a, b⟩, c⟩; exact ⟨a, b, c⟩
    · rintro ⟨a, b, c⟩; exact ⟨⟨a, b⟩, c⟩

theorem le_rep {l : List T} (h : l ≠ []) (t z : T) : le2 z (repT l t) = true ↔ ∀ x ∈ l, le2 z (joinT t x) = true := by
  cases l with
  | nil => exact absurd rfl h
  | cons x r =>
    simp only [repT]
    rw [le_fold]
    simp

theorem le2_joinL (a b : T) : le2 a (joinT a b) = true := by rw [le2_iff]; simp only [joinT]; omega

theorem le_rep_self {l : List T} (h : l ≠ []) (t : T) : le2 t (repT l t) = true := (le_rep h t t).2 fun x _ => le2_joinL t x

theorem rep_le {l : List T} (t x : T) (hx : x ∈ l) : le2 (repT l t) (joinT t x) = true :=
  (le_rep (by rintro rfl; simp at hx) t (repT l t)).1 (le2_refl _) x hx

theorem rep_rep (l : List T) (t : T) : repT l (repT l t) = repT l t := by
  by_cases h : l = []
  · subst h; rfl
  · refine le2_anti ?_ (le_rep_self h _)
    rw [le_rep h]
    intro x hx
    refine le2_trans (rep_le (repT l t) x hx) ?_
    rw [le2_join]
    exact ⟨rep_le t x hx, le2_joinR t x⟩

theorem rep_adv {l : List T} {u : T} (h : Adv l u) (t : T) : le2 t u = le2 (repT l t) u ∧ joinT t u = joinT (repT l t) u := by
  obtain ⟨x, hx, hxu⟩ := h
  have hne : l ≠ [] := by rintro rfl; simp at hx
  have h1 := le_rep_self hne t
  have h2 := rep_le t x hx
  refine ⟨bool_eq ⟨fun h => le2_trans h2 ((le2_join t x u).2 ⟨h, hxu⟩), fun h => le2_trans h1 h⟩, ?_⟩
  refine le2_anti ((le2_join _ _ _).2 ⟨le2_trans h1 (le2_joinL _ _), le2_joinR _ _⟩) ((le2_join _ _ _).2 ⟨le2_trans h2 ((le2_join _ _ _).2 ⟨le2_joinL _ _, le2_trans hxu (le2_joinR _ _)⟩), le2_joinR _ _⟩)

/-- The three times' variables. -/
structure ThreeAt (w : World) (t u s : T) (wr : World) : Prop where
  below : Below w.heap.size w wr
  b5 : Box wr w.heap.size t
  b6 : Box wr (w.heap.size + 1) u
  b7 : Box wr (w.heap.size + 1 + 1) s

theorem ThreeAt.on {w : World} {t u s : T} {wr wr' : World} (h : ThreeAt w t u s wr) (hb : Below wr.heap.size wr wr') : ThreeAt w t u s wr' := ⟨h.below.trans (hb.mono h.below.size), h.b5.on hb, h.b6.on hb, h.b7.on hb⟩

theorem rle_is {x y : T} {b : Bool} (h : le2 x y = b) (w : World) : Calls Try.prog 27 #[.agg #[.int .i64 x.1, .int .i64 x.2], .agg #[.int .i64 y.1, .int .i64 y.2]] w fun e w' => ∃ v, e = .returned v ∧ Below w.heap.size w w' ∧ PB.E (.bool b) v w' := by
  rw [← h]; exact rle_newB x y w

theorem rjoin_is {x y z : T} (h : joinT x y = z) (w : World) : Calls Try.prog 28 #[.agg #[.int .i64 x.1, .int .i64 x.2], .agg #[.int .i64 y.1, .int .i64 y.2]] w fun e w' => ∃ v, e = .returned v ∧ Below w.heap.size w w' ∧ PB.E (.agg #[.int .i64 z.1, .int .i64 z.2]) v w' := by
  rw [← h]; exact rjoin_newB x y w

theorem Rep_is {l : List T} {t r : T} {v : Value} {w : World} (h : repT l t = r) (hv : IsL l v w) (hl : l.length ≤ 1000000000) : Calls Try.prog 25 #[v, .agg #[.int .i64 t.1, .int .i64 t.2]] w fun e w' => ∃ v, e = .returned v ∧ Below w.heap.size w w' ∧ PB.E (.agg #[.int .i64 r.1, .int .i64 r.2]) v w' := by
  rw [← h]; exact Rep_newB l t v w hv hl

set_option maxRecDepth 20000 in
set_option maxHeartbeats 4000000 in
theorem stands_walk (w : World) (a : Option Addr) (cap : Nat) (l : List T) (t u s : T) (h : IsL l (.slice a l.length cap) w) :
    Calls Try.prog 7 #[.slice a l.length cap, .agg #[.int .i64 t.1, .int .i64 t.2], .agg #[.int .i64 u.1, .int .i64 u.2], .agg #[.int .i64 s.1, .int .i64 s.2]] w fun e w' => e = .returned (.bool true) ∧ Below w.heap.size w w' := by
  obtain ⟨t1, t2⟩ := t
  obtain ⟨u1, u2⟩ := u
  obtain ⟨s1, s2⟩ := s
  have mixed : Try.prog.follows .mixedOrders = true := by kernel_rfl
  obtain ⟨n, hn⟩ : ∃ n, l.length = n := ⟨_, rfl⟩
  have HN := hid' hn
  rw [hn] at h ⊢
  have HL := hid' h
  clear h hn
  have HST : Hid (ThreeAt w (t1, t2) (u1, u2) (s1, s2) (((w.alloc (.cells #[.int .i64 t1, .int .i64 t2] 32)).alloc (.cells #[.int .i64 u1, .int .i64 u2] 32)).alloc (.cells #[.int .i64 s1, .int .i64 s2] 32))) := by
    refine ⟨(((Below.refl _ w).alloc (Nat.le_refl _) _).alloc (by simp) _).alloc (by simp; omega) _, ((Box.new w (t1, t2)).alloc _).alloc _, ?_, ?_⟩
    · have := (Box.new (w.alloc (.cells #[.int .i64 t1, .int .i64 t2] 32)) (u1, u2)).alloc (.cells #[.int .i64 s1, .int .i64 s2] 32)
      rwa [World.size_alloc] at this
    · have := Box.new ((w.alloc (.cells #[.int .i64 t1, .int .i64 t2] 32)).alloc (.cells #[.int .i64 u1, .int .i64 u2] 32)) (s1, s2)
      rwa [World.size_alloc, World.size_alloc] at this
  have HMU := hid' (much_any (((w.alloc (.cells #[.int .i64 t1, .int .i64 t2] 32)).alloc (.cells #[.int .i64 u1, .int .i64 u2] 32)).alloc (.cells #[.int .i64 s1, .int .i64 s2] 32)) a none n 0 cap 0)
  obtain ⟨W0, hW0⟩ : ∃ W0, ((w.alloc (.cells #[.int .i64 t1, .int .i64 t2] 32)).alloc (.cells #[.int .i64 u1, .int .i64 u2] 32)).alloc (.cells #[.int .i64 s1, .int .i64 s2] 32) = W0 := ⟨_, rfl⟩
  have HW0 := hid' hW0
  rw [hW0] at HST HMU
  clear hW0
  by_cases hm : 40 < n
  · simp only [hm, decide_true, Bool.true_or] at HMU
    have HLV := hid' (live_any W0)
    clear hm
    go_enter Try.func7, Try.ntmps7
    go_wp2_with fail
    rw [HW0.out]
    refine HMU.out.mono ?_
    rintro e w1 ⟨rfl, rfl⟩
    go_wp2_with fail
    refine HLV.out.mono ?_
    rintro e w2 ⟨rfl, hb⟩
    go_wp2
    go_ret
    exact ⟨rfl, HST.out.below.trans (hb.mono HST.out.below.size)⟩
  · simp only [hm, decide_false, Bool.false_or, Nat.not_lt_zero] at HMU
    have hl : n ≤ 1000000000 := by omega
    have HL1 : Hid (l.length ≤ 1000000000) := by unfold Hid; rw [HN.out]; exact hl
    have HRR := hid' (rep_rep l (t1, t2))
    have HRL : Hid (n ≠ 0 → le2 (t1, t2) (repT l (t1, t2)) = true) := fun h => le_rep_self (by intro e; have := HN.out; rw [e] at this; simp at this; omega) _
    have HRA : Hid (∀ z, Adv l z → le2 (t1, t2) z = le2 (repT l (t1, t2)) z ∧ joinT (t1, t2) z = joinT (repT l (t1, t2)) z) := fun z hz => rep_adv hz _
    have HRS : Hid (∀ z, Adv l z → le2 (s1, s2) z = le2 (repT l (s1, s2)) z) := fun z hz => (rep_adv hz _).1
    have HR1 : Hid (∀ W, Below w.heap.size w W → Calls Try.prog 25 #[.slice a n cap, .agg #[.int .i64 t1, .int .i64 t2]] W fun e w' => ∃ v, e = .returned v ∧ Below W.heap.size W w' ∧ v = tv (repT l (t1, t2))) := fun W hW => Rep_newB l (t1, t2) _ W (by obtain ⟨a', c', e, h1, h2, h3⟩ := HL.out; exact ⟨a', c', e, h1, h2, (h3.keep hW).mono hW.size⟩) HL1.out
    have HLW : Hid (∀ W, Below w.heap.size w W → IsL l (.slice a n cap) W) := fun W hW => by obtain ⟨a', c', e, h1, h2, h3⟩ := HL.out; exact ⟨a', c', e, h1, h2, (h3.keep hW).mono hW.size⟩
    have HR2 : Hid (∀ W, Below w.heap.size w W → Calls Try.prog 25 #[.slice a n cap, .agg #[.int .i64 s1, .int .i64 s2]] W fun e w' => ∃ v, e = .returned v ∧ Below W.heap.size W w' ∧ v = tv (repT l (s1, s2))) := fun W hW => Rep_newB l (s1, s2) _ W (HLW.out W hW) HL1.out
    have HAH : Hid (∀ W, Below w.heap.size w W → Calls Try.prog 23 #[.slice a n cap, .agg #[.int .i64 u1, .int .i64 u2]] W fun e w' => ∃ v, e = .returned v ∧ Below W.heap.size W w' ∧ v = .bool (advB l (u1, u2))) := fun W hW => Ahead_newB l (u1, u2) _ W (HLW.out W hW) (by have := HL1.out; omega)
    have HAV := hid' (advB_iff l (u1, u2))
    have HAX : Hid (∀ x ∈ l, Adv l (joinT x (s1, s2))) := fun x hx => ⟨x, hx, le2_joinL _ _⟩
    obtain ⟨⟨r1, r2⟩, hr⟩ : ∃ r, repT l (t1, t2) = r := ⟨_, rfl⟩
    obtain ⟨⟨q1, q2⟩, hq⟩ : ∃ q, repT l (s1, s2) = q := ⟨_, rfl⟩
    rw [hr] at HRR HRL HRA HR1
    rw [hq] at HRS HR2
    generalize advB l (u1, u2) = av at HAH HAV
    clear hr hq
    simp only [tv] at HR1 HR2
    go_enter Try.func7, Try.ntmps7
    go_wp2_with fail
    rw [HW0.out]
    refine HMU.out.mono ?_
    rintro e w1 ⟨rfl, rfl⟩
    have c1 := HST.out.b5.c1
    have c2 := HST.out.b5.c2
    simp only at c1 c2
    go_wp2_with fail
    refine (HR1.out w1 HST.out.below).mono ?_
    rintro e w2 ⟨_, rfl, hb2, rfl⟩
    have HA2 : Hid (ThreeAt w (t1, t2) (u1, u2) (s1, s2) (w2.alloc (.cells #[.int .i64 r1, .int .i64 r2] 32))) := (HST.out.on hb2).on ((Below.refl _ w2).alloc (Nat.le_refl _) _)
    have HBR : Hid (Box (w2.alloc (.cells #[.int .i64 r1, .int .i64 r2] 32)) w2.heap.size (r1, r2)) := Box.new w2 (r1, r2)
    clear c1 c2
    go_wp2_with fail
    obtain ⟨W2, hW2⟩ : ∃ W2, w2.alloc (.cells #[.int .i64 r1, .int .i64 r2] 32) = W2 := ⟨_, rfl⟩
    rw [hW2] at HA2 HBR ⊢
    generalize w2.heap.size = g9 at HBR ⊢
    clear hW2 hb2 HST HMU
    by_cases h0 : n = 0
    · have H0 := hid' h0
      clear h0
      refine PT.wp_region_tail 16 (PB.phi [PB.E (.slice a n cap), PB.E (.agg #[.int .i64 r1, .int .i64 r2]), PB.E (.agg #[.int .i64 r1, .int .i64 r2]), PB.E (.agg #[.int .i64 r1, .int .i64 r2]), PB.E (.bool false), PB.E (.bool false), PB.E (.slice a n cap), PB.E (.int .i64 (n : Int)), PB.E (.bool false), PB.E (.bool false), PB.E undef, PB.E undef, PB.E undef, PB.E undef, PB.E (.bool false), PB.E (.bool false)]) mixed (by kernel_rfl)
        (PB.phi_lasts _ ⟨PB.E_lasts _, PB.E_lasts _, PB.E_lasts _, PB.E_lasts _, PB.E_lasts _, PB.E_lasts _, PB.E_lasts _, PB.E_lasts _, PB.E_lasts _, PB.E_lasts _, PB.E_lasts _, PB.E_lasts _, PB.E_lasts _, PB.E_lasts _, PB.E_lasts _, PB.E_lasts _, trivial⟩) ?_ ?_
      · refine ⟨?_, ?_, ?_, ?_, ?_, ?_, ?_, ?_, ?_, ?_, ?_, ?_, ?_, ?_, ?_, ?_, trivial⟩ <;> intro A W hB hS hA hF
        · exact Or.inl (PB.does_move (PB.wanted_free rfl) rfl (hS.slots 0 rfl))
        · exact Or.inl (PB.does_run (PB.wanted_free rfl) (run_box W (hS.slots 9 rfl) (HBR.out.on hB)) rfl)
        · exact Or.inl (PB.does_call #[.slice a n cap, .agg #[.int .i64 r1, .int .i64 r2]] (PB.wanted_free rfl) rfl Try.func25 rfl rfl (by show [PB.slot A 18, PB.slot A 19] = _; rw [show PB.slot A 18 = .slice a n cap from (hA 0 rfl), show PB.slot A 19 = .agg #[.int .i64 r1, .int .i64 r2] from (hA 1 rfl)]) (Rep_is HRR.out (HLW.out W (HA2.out.below.trans (hB.mono HA2.out.below.size))) HL1.out))
        · exact Or.inl (PB.does_run (PB.wanted_free rfl) (run_box W (hS.slots 9 rfl) (HBR.out.on hB)) rfl)
        · exact Or.inl (PB.does_bin (PB.wanted_free rfl) rfl (hA 2 rfl) (hA 3 rfl) ((run_neT W (r1, r2) (r1, r2) _ _).trans (by simp)) rfl)
        · exact Or.inl (PB.does_move (PB.wanted_free rfl) rfl (hA 4 rfl))
        · exact Or.inl (PB.does_move (PB.wanted_by rfl rfl (hA 5 rfl)) rfl (hS.slots 0 rfl))
        · exact Or.inl (PB.does_run (PB.wanted_by rfl rfl (hA 5 rfl)) (run_len W (hA 6 rfl)) rfl)
        · exact Or.inl (PB.does_bin2 (PB.wanted_by rfl rfl (hA 5 rfl)) rfl (hA 7 rfl) rfl ((run_gtI W _ _ _ _).trans (by have h0 := H0.out; simp; omega)) rfl)
        · exact Or.inl (PB.does_move (PB.wanted_by rfl rfl (hA 5 rfl)) rfl (hA 8 rfl))
        · exact Or.inr ⟨PT.pass_by rfl rfl (hA 9 rfl) (by decide), rfl⟩
        · exact Or.inr ⟨PT.pass_by rfl rfl (hA 9 rfl) (by decide), rfl⟩
        · exact Or.inr ⟨PT.pass_by rfl rfl (hA 9 rfl) (by decide), rfl⟩
        · exact Or.inr ⟨PT.pass_by rfl rfl (hA 9 rfl) (by decide), rfl⟩
        · exact Or.inl (PB.does_run (PB.wanted_by rfl rfl (hA 5 rfl)) (run_pick_elseC W (hA 9 rfl)) rfl)
        · exact Or.inl (PB.does_run (PB.wanted_free rfl) (run_pick_else W (hA 5 rfl) (hA 14 rfl)) rfl)
      · intro A W hB hS hL
        have h_18 : PB.slot A 18 = .slice a n cap := hL 0 (by decide)
        have h_19 : PB.slot A 19 = .agg #[.int .i64 r1, .int .i64 r2] := hL 1 (by decide)
        have h_20 : PB.slot A 20 = .agg #[.int .i64 r1, .int .i64 r2] := hL 2 (by decide)
        have h_21 : PB.slot A 21 = .agg #[.int .i64 r1, .int .i64 r2] := hL 3 (by decide)
        have h_22 : PB.slot A 22 = .bool false := hL 4 (by decide)
        have h_23 : PB.slot A 23 = .bool false := hL 5 (by decide)
        have h_24 : PB.slot A 24 = .slice a n cap := hL 6 (by decide)
        have h_25 : PB.slot A 25 = .int .i64 (n : Int) := hL 7 (by decide)
        have h_26 : PB.slot A 26 = .bool false := hL 8 (by decide)
        have h_27 : PB.slot A 27 = .bool false := hL 9 (by decide)
        have h_28 : PB.slot A 28 = undef := hL 10 (by decide)
        have h_29 : PB.slot A 29 = undef := hL 11 (by decide)
        have h_30 : PB.slot A 30 = undef := hL 12 (by decide)
        have h_31 : PB.slot A 31 = undef := hL 13 (by decide)
        have h_32 : PB.slot A 32 = .bool false := hL 14 (by decide)
        have h_33 : PB.slot A 33 = .bool false := hL 15 (by decide)
        have q_0 : PB.slot A 0 = .slice a n cap := hS.slots 0 rfl
        have q_5 : PB.slot A 5 = .pointer (some ⟨w.heap.size, 0, none⟩) := hS.slots 5 rfl
        have q_6 : PB.slot A 6 = .pointer (some ⟨w.heap.size + 1, 0, none⟩) := hS.slots 6 rfl
        have q_7 : PB.slot A 7 = .pointer (some ⟨w.heap.size + 1 + 1, 0, none⟩) := hS.slots 7 rfl
        have q_8 : PB.slot A 8 = .bool false := hS.slots 8 rfl
        have q_9 : PB.slot A 9 = .pointer (some ⟨g9, 0, none⟩) := hS.slots 9 rfl
        have hA := PT.frame_of (A := A) (n := 96) hS.size
        have hd : A.defers = [] := hS.defers
        rw [hd] at hA
        obtain ⟨fr, hf⟩ : ∃ f, PB.slot A = f := ⟨_, rfl⟩
        rw [hf] at hA h_18 h_19 h_20 h_21 h_22 h_23 h_24 h_25 h_26 h_27 h_28 h_29 h_30 h_31 h_32 h_33 q_0 q_5 q_6 q_7 q_8 q_9
        rw [hA]
        clear hA hf hd hL hS
        simp only [List.range, List.range.loop, List.map_cons, List.map_nil, List.drop_succ_cons, List.drop_zero, h_18, h_19, h_20, h_21, h_22, h_23, h_24, h_25, h_26, h_27, h_28, h_29, h_30, h_31, h_32, h_33, q_0, q_5, q_6, q_7, q_8, q_9]
        clear h_18 h_19 h_20 h_21 h_22 h_23 h_24 h_25 h_26 h_27 h_28 h_29 h_30 h_31 h_32 h_33 q_0 q_5 q_6 q_7 q_8 q_9
        have HA3 : Hid (ThreeAt w (t1, t2) (u1, u2) (s1, s2) W) := HA2.out.on hB
        have HBR3 := hid' (HBR.out.on hB)
        have c1 := HA3.out.b6.c1
        have c2 := HA3.out.b6.c2
        simp only at c1 c2
        clear hB
        go_wp2_with fail
        refine (HAH.out W HA3.out.below).mono ?_
        rintro e w4 ⟨_, rfl, hb4, rfl⟩
        have HA4 : Hid (ThreeAt w (t1, t2) (u1, u2) (s1, s2) w4) := HA3.out.on hb4
        have HBR4 := hid' (HBR3.out.on hb4)
        clear c1 c2 hb4 HA3 HBR3 HA2 HBR
        cases av with
        | false =>
          go_wp2_with fail
          refine (live_any _).mono ?_
          rintro e w6 ⟨rfl, hb6⟩
          go_wp2
          go_ret
          exact ⟨rfl, HA4.out.below.trans (hb6.mono HA4.out.below.size)⟩
        | true =>
          have HADV : Hid (Adv l (u1, u2)) := HAV.out.1 rfl
          have HUA := hid' (HRA.out _ HADV.out)
          obtain ⟨bt, hbt⟩ : ∃ bt, le2 (t1, t2) (u1, u2) = bt := ⟨_, rfl⟩
          obtain ⟨⟨j1, j2⟩, hjj⟩ : ∃ z, joinT (t1, t2) (u1, u2) = z := ⟨_, rfl⟩
          have HBT := hid' hbt
          have HBRU : Hid (le2 (r1, r2) (u1, u2) = bt) := by unfold Hid; rw [← HUA.out.1]; exact hbt
          have HJ1 := hid' hjj
          have HJ2 : Hid (joinT (r1, r2) (u1, u2) = (j1, j2)) := by unfold Hid; rw [← HUA.out.2]; exact hjj
          clear hbt hjj HUA
          go_wp2_with fail
          refine PT.wp_region_tail 16 (PB.phi [PB.E (.agg #[.int .i64 t1, .int .i64 t2]), PB.E (.agg #[.int .i64 u1, .int .i64 u2]), PB.E (.bool bt), PB.E (.agg #[.int .i64 r1, .int .i64 r2]), PB.E (.agg #[.int .i64 u1, .int .i64 u2]), PB.E (.bool bt), PB.E (.bool false), PB.E (.bool false), PB.E (.agg #[.int .i64 t1, .int .i64 t2]), PB.E (.agg #[.int .i64 u1, .int .i64 u2]), PB.E (.agg #[.int .i64 j1, .int .i64 j2]), PB.E (.agg #[.int .i64 r1, .int .i64 r2]), PB.E (.agg #[.int .i64 u1, .int .i64 u2]), PB.E (.agg #[.int .i64 j1, .int .i64 j2]), PB.E (.bool false), PB.E (.bool false)]) mixed (by kernel_rfl)
            (PB.phi_lasts _ ⟨PB.E_lasts _, PB.E_lasts _, PB.E_lasts _, PB.E_lasts _, PB.E_lasts _, PB.E_lasts _, PB.E_lasts _, PB.E_lasts _, PB.E_lasts _, PB.E_lasts _, PB.E_lasts _, PB.E_lasts _, PB.E_lasts _, PB.E_lasts _, PB.E_lasts _, PB.E_lasts _, trivial⟩) ?_ ?_
          · refine ⟨?_, ?_, ?_, ?_, ?_, ?_, ?_, ?_, ?_, ?_, ?_, ?_, ?_, ?_, ?_, ?_, trivial⟩ <;> intro A W hB hS hA hF
            · exact Or.inl (PB.does_run (PB.wanted_free rfl) (run_box W (hS.slots 5 rfl) (HA4.out.b5.on hB)) rfl)
            · exact Or.inl (PB.does_run (PB.wanted_free rfl) (run_box W (hS.slots 6 rfl) (HA4.out.b6.on hB)) rfl)
            · exact Or.inl (PB.does_call #[.agg #[.int .i64 t1, .int .i64 t2], .agg #[.int .i64 u1, .int .i64 u2]] (PB.wanted_free rfl) rfl Try.func27 rfl rfl (by show [PB.slot A 39, PB.slot A 40] = _; rw [show PB.slot A 39 = .agg #[.int .i64 t1, .int .i64 t2] from (hA 0 rfl), show PB.slot A 40 = .agg #[.int .i64 u1, .int .i64 u2] from (hA 1 rfl)]) (rle_is HBT.out W))
            · exact Or.inl (PB.does_run (PB.wanted_free rfl) (run_box W (hS.slots 9 rfl) (HBR4.out.on hB)) rfl)
            · exact Or.inl (PB.does_run (PB.wanted_free rfl) (run_box W (hS.slots 6 rfl) (HA4.out.b6.on hB)) rfl)
            · exact Or.inl (PB.does_call #[.agg #[.int .i64 r1, .int .i64 r2], .agg #[.int .i64 u1, .int .i64 u2]] (PB.wanted_free rfl) rfl Try.func27 rfl rfl (by show [PB.slot A 42, PB.slot A 43] = _; rw [show PB.slot A 42 = .agg #[.int .i64 r1, .int .i64 r2] from (hA 3 rfl), show PB.slot A 43 = .agg #[.int .i64 u1, .int .i64 u2] from (hA 4 rfl)]) (rle_is HBRU.out W))
            · exact Or.inl (PB.does_bin (PB.wanted_free rfl) rfl (hA 2 rfl) (hA 5 rfl) ((run_neB W _ _ _ _).trans (by simp)) rfl)
            · exact Or.inl (PB.does_move (PB.wanted_free rfl) rfl (hA 6 rfl))
            · exact Or.inl (PB.does_run (PB.wanted_by rfl rfl (hA 7 rfl)) (run_box W (hS.slots 5 rfl) (HA4.out.b5.on hB)) rfl)
            · exact Or.inl (PB.does_run (PB.wanted_by rfl rfl (hA 7 rfl)) (run_box W (hS.slots 6 rfl) (HA4.out.b6.on hB)) rfl)
            · exact Or.inl (PB.does_call #[.agg #[.int .i64 t1, .int .i64 t2], .agg #[.int .i64 u1, .int .i64 u2]] (PB.wanted_by rfl rfl (hA 7 rfl)) rfl Try.func28 rfl rfl (by show [PB.slot A 47, PB.slot A 48] = _; rw [show PB.slot A 47 = .agg #[.int .i64 t1, .int .i64 t2] from (hA 8 rfl), show PB.slot A 48 = .agg #[.int .i64 u1, .int .i64 u2] from (hA 9 rfl)]) (rjoin_is HJ1.out W))
            · exact Or.inl (PB.does_run (PB.wanted_by rfl rfl (hA 7 rfl)) (run_box W (hS.slots 9 rfl) (HBR4.out.on hB)) rfl)
            · exact Or.inl (PB.does_run (PB.wanted_by rfl rfl (hA 7 rfl)) (run_box W (hS.slots 6 rfl) (HA4.out.b6.on hB)) rfl)
            · exact Or.inl (PB.does_call #[.agg #[.int .i64 r1, .int .i64 r2], .agg #[.int .i64 u1, .int .i64 u2]] (PB.wanted_by rfl rfl (hA 7 rfl)) rfl Try.func28 rfl rfl (by show [PB.slot A 50, PB.slot A 51] = _; rw [show PB.slot A 50 = .agg #[.int .i64 r1, .int .i64 r2] from (hA 11 rfl), show PB.slot A 51 = .agg #[.int .i64 u1, .int .i64 u2] from (hA 12 rfl)]) (rjoin_is HJ2.out W))
            · exact Or.inl (PB.does_bin (PB.wanted_by rfl rfl (hA 7 rfl)) rfl (hA 10 rfl) (hA 13 rfl) ((run_neT W (j1, j2) (j1, j2) _ _).trans (by simp)) rfl)
            · exact Or.inl (PB.does_run (PB.wanted_free rfl) (run_pick_else W (hA 7 rfl) (hA 14 rfl)) rfl)
          · intro A W hB hS hL
            have h_39 : PB.slot A 39 = .agg #[.int .i64 t1, .int .i64 t2] := hL 0 (by decide)
            have h_40 : PB.slot A 40 = .agg #[.int .i64 u1, .int .i64 u2] := hL 1 (by decide)
            have h_41 : PB.slot A 41 = .bool bt := hL 2 (by decide)
            have h_42 : PB.slot A 42 = .agg #[.int .i64 r1, .int .i64 r2] := hL 3 (by decide)
            have h_43 : PB.slot A 43 = .agg #[.int .i64 u1, .int .i64 u2] := hL 4 (by decide)
            have h_44 : PB.slot A 44 = .bool bt := hL 5 (by decide)
            have h_45 : PB.slot A 45 = .bool false := hL 6 (by decide)
            have h_46 : PB.slot A 46 = .bool false := hL 7 (by decide)
            have h_47 : PB.slot A 47 = .agg #[.int .i64 t1, .int .i64 t2] := hL 8 (by decide)
            have h_48 : PB.slot A 48 = .agg #[.int .i64 u1, .int .i64 u2] := hL 9 (by decide)
            have h_49 : PB.slot A 49 = .agg #[.int .i64 j1, .int .i64 j2] := hL 10 (by decide)
            have h_50 : PB.slot A 50 = .agg #[.int .i64 r1, .int .i64 r2] := hL 11 (by decide)
            have h_51 : PB.slot A 51 = .agg #[.int .i64 u1, .int .i64 u2] := hL 12 (by decide)
            have h_52 : PB.slot A 52 = .agg #[.int .i64 j1, .int .i64 j2] := hL 13 (by decide)
            have h_53 : PB.slot A 53 = .bool false := hL 14 (by decide)
            have h_54 : PB.slot A 54 = .bool false := hL 15 (by decide)
            have q_0 : PB.slot A 0 = .slice a n cap := hS.slots 0 rfl
            have q_5 : PB.slot A 5 = .pointer (some ⟨w.heap.size, 0, none⟩) := hS.slots 5 rfl
            have q_6 : PB.slot A 6 = .pointer (some ⟨w.heap.size + 1, 0, none⟩) := hS.slots 6 rfl
            have q_7 : PB.slot A 7 = .pointer (some ⟨w.heap.size + 1 + 1, 0, none⟩) := hS.slots 7 rfl
            have q_8 : PB.slot A 8 = .bool false := hS.slots 8 rfl
            have q_9 : PB.slot A 9 = .pointer (some ⟨g9, 0, none⟩) := hS.slots 9 rfl
            have hA := PT.frame_of (A := A) (n := 96) hS.size
            have hd : A.defers = [] := hS.defers
            rw [hd] at hA
            obtain ⟨fr, hf⟩ : ∃ f, PB.slot A = f := ⟨_, rfl⟩
            rw [hf] at hA h_39 h_40 h_41 h_42 h_43 h_44 h_45 h_46 h_47 h_48 h_49 h_50 h_51 h_52 h_53 h_54 q_0 q_5 q_6 q_7 q_8 q_9
            rw [hA]
            clear hA hf hd hL hS
            simp only [List.range, List.range.loop, List.map_cons, List.map_nil, List.drop_succ_cons, List.drop_zero, h_39, h_40, h_41, h_42, h_43, h_44, h_45, h_46, h_47, h_48, h_49, h_50, h_51, h_52, h_53, h_54, q_0, q_5, q_6, q_7, q_8, q_9]
            clear h_39 h_40 h_41 h_42 h_43 h_44 h_45 h_46 h_47 h_48 h_49 h_50 h_51 h_52 h_53 h_54 q_0 q_5 q_6 q_7 q_8 q_9
            have HA5 : Hid (ThreeAt w (t1, t2) (u1, u2) (s1, s2) W) := HA4.out.on hB
            have HBR5 := hid' (HBR4.out.on hB)
            have c1 := HA5.out.b7.c1
            have c2 := HA5.out.b7.c2
            simp only at c1 c2
            clear hB
            go_wp2_with fail
            refine (HR2.out W HA5.out.below).mono ?_
            rintro e w5 ⟨_, rfl, hb5, rfl⟩
            have HA6 : Hid (ThreeAt w (t1, t2) (u1, u2) (s1, s2) (w5.alloc (.cells #[.int .i64 q1, .int .i64 q2] 32))) := (HA5.out.on hb5).on ((Below.refl _ w5).alloc (Nat.le_refl _) _)
            have HBR6 : Hid (Box (w5.alloc (.cells #[.int .i64 q1, .int .i64 q2] 32)) g9 (r1, r2)) := (HBR5.out.on hb5).alloc _
            have HBQ6 : Hid (Box (w5.alloc (.cells #[.int .i64 q1, .int .i64 q2] 32)) w5.heap.size (q1, q2)) := Box.new w5 (q1, q2)
            clear c1 c2 hb5 HA5 HBR5
            go_wp2
            go_loopg [11] n (fun k i wr => ∃ j : Nat, j + k = n ∧ i = .int .i64 (j : Int) ∧ Hid (ThreeAt w (t1, t2) (u1, u2) (s1, s2) wr) ∧ Hid (Box wr g9 (r1, r2)) ∧ Hid (Box wr w5.heap.size (q1, q2)))
            case atStart => exact ⟨0, by omega, rfl, HA6, HBR6, HBQ6⟩
            case round =>
              obtain ⟨j, hj, rfl, hat, HBRr, HBQr⟩ := hrel
              cases gk with
              | zero =>
                obtain rfl : j = n := by omega
                go_wp2_with fail
                by_cases hrq : (r1, r2) = (q1, q2)
                · have HSU : Hid (le2 (s1, s2) (u1, u2) = bt) := by unfold Hid; rw [HRS.out _ HADV.out, ← hrq]; exact HBRU.out
                  refine PT.wp_region_tail 16 (PB.phi [PB.E (.agg #[.int .i64 r1, .int .i64 r2]), PB.E (.agg #[.int .i64 q1, .int .i64 q2]), PB.E (.bool false), PB.E (.bool false), PB.E (.agg #[.int .i64 t1, .int .i64 t2]), PB.E (.agg #[.int .i64 u1, .int .i64 u2]), PB.E (.bool bt), PB.E (.agg #[.int .i64 s1, .int .i64 s2]), PB.E (.agg #[.int .i64 u1, .int .i64 u2]), PB.E (.bool bt), PB.E (.bool true), PB.E (.bool true), PB.E (.bool true), PB.E (.bool true), PB.E (.bool true), PB.E (.bool true)]) mixed (by kernel_rfl)
                    (PB.phi_lasts _ ⟨PB.E_lasts _, PB.E_lasts _, PB.E_lasts _, PB.E_lasts _, PB.E_lasts _, PB.E_lasts _, PB.E_lasts _, PB.E_lasts _, PB.E_lasts _, PB.E_lasts _, PB.E_lasts _, PB.E_lasts _, PB.E_lasts _, PB.E_lasts _, PB.E_lasts _, PB.E_lasts _, trivial⟩) ?_ ?_
                  · refine ⟨?_, ?_, ?_, ?_, ?_, ?_, ?_, ?_, ?_, ?_, ?_, ?_, ?_, ?_, ?_, ?_, trivial⟩ <;> intro A W hB hS hA hF
                    · exact Or.inl (PB.does_run (PB.wanted_free rfl) (run_box W (hS.slots 9 rfl) (HBRr.out.on hB)) rfl)
                    · exact Or.inl (PB.does_run (PB.wanted_free rfl) (run_box W (hS.slots 10 rfl) (HBQr.out.on hB)) rfl)
                    · exact Or.inl (PB.does_bin (PB.wanted_free rfl) rfl (hA 0 rfl) (hA 1 rfl) ((run_neT W (r1, r2) (q1, q2) _ _).trans (by rw [hrq]; simp)) rfl)
                    · exact Or.inl (PB.does_move (PB.wanted_free rfl) rfl (hA 2 rfl))
                    · exact Or.inl (PB.does_run (PB.wanted_by rfl rfl (hA 3 rfl)) (run_box W (hS.slots 5 rfl) (hat.out.b5.on hB)) rfl)
                    · exact Or.inl (PB.does_run (PB.wanted_by rfl rfl (hA 3 rfl)) (run_box W (hS.slots 6 rfl) (hat.out.b6.on hB)) rfl)
                    · exact Or.inl (PB.does_call #[.agg #[.int .i64 t1, .int .i64 t2], .agg #[.int .i64 u1, .int .i64 u2]] (PB.wanted_by rfl rfl (hA 3 rfl)) rfl Try.func27 rfl rfl (by show [PB.slot A 85, PB.slot A 86] = _; rw [show PB.slot A 85 = .agg #[.int .i64 t1, .int .i64 t2] from (hA 4 rfl), show PB.slot A 86 = .agg #[.int .i64 u1, .int .i64 u2] from (hA 5 rfl)]) (rle_is HBT.out W))
                    · exact Or.inl (PB.does_run (PB.wanted_by rfl rfl (hA 3 rfl)) (run_box W (hS.slots 7 rfl) (hat.out.b7.on hB)) rfl)
                    · exact Or.inl (PB.does_run (PB.wanted_by rfl rfl (hA 3 rfl)) (run_box W (hS.slots 6 rfl) (hat.out.b6.on hB)) rfl)
                    · exact Or.inl (PB.does_call #[.agg #[.int .i64 s1, .int .i64 s2], .agg #[.int .i64 u1, .int .i64 u2]] (PB.wanted_by rfl rfl (hA 3 rfl)) rfl Try.func27 rfl rfl (by show [PB.slot A 88, PB.slot A 89] = _; rw [show PB.slot A 88 = .agg #[.int .i64 s1, .int .i64 s2] from (hA 7 rfl), show PB.slot A 89 = .agg #[.int .i64 u1, .int .i64 u2] from (hA 8 rfl)]) (rle_is HSU.out W))
                    · exact Or.inl (PB.does_bin (PB.wanted_by rfl rfl (hA 3 rfl)) rfl (hA 6 rfl) (hA 9 rfl) ((run_eqB W _ _ _ _).trans (by simp)) rfl)
                    · exact Or.inl (PB.does_run (PB.wanted_free rfl) (run_pick_else W (hA 3 rfl) (hA 10 rfl)) rfl)
                    · exact Or.inl (PB.does_move (PB.wanted_free rfl) rfl (hA 11 rfl))
                    · exact Or.inl (PB.does_call #[] (PB.wanted_by rfl rfl (hA 12 rfl)) rfl Try.func10 rfl rfl rfl (live_newB W))
                    · exact Or.inl (PB.does_run (PB.wanted_free rfl) (run_pick_then W (hA 12 rfl) (hA 13 rfl)) rfl)
                    · exact Or.inl (PB.does_assign (PB.wanted_free rfl) rfl (hA 14 rfl))
                  · intro A W hB hS hL
                    have h_81 : PB.slot A 81 = .agg #[.int .i64 r1, .int .i64 r2] := hL 0 (by decide)
                    have h_82 : PB.slot A 82 = .agg #[.int .i64 q1, .int .i64 q2] := hL 1 (by decide)
                    have h_83 : PB.slot A 83 = .bool false := hL 2 (by decide)
                    have h_84 : PB.slot A 84 = .bool false := hL 3 (by decide)
                    have h_85 : PB.slot A 85 = .agg #[.int .i64 t1, .int .i64 t2] := hL 4 (by decide)
                    have h_86 : PB.slot A 86 = .agg #[.int .i64 u1, .int .i64 u2] := hL 5 (by decide)
                    have h_87 : PB.slot A 87 = .bool bt := hL 6 (by decide)
                    have h_88 : PB.slot A 88 = .agg #[.int .i64 s1, .int .i64 s2] := hL 7 (by decide)
                    have h_89 : PB.slot A 89 = .agg #[.int .i64 u1, .int .i64 u2] := hL 8 (by decide)
                    have h_90 : PB.slot A 90 = .bool bt := hL 9 (by decide)
                    have h_91 : PB.slot A 91 = .bool true := hL 10 (by decide)
                    have h_92 : PB.slot A 92 = .bool true := hL 11 (by decide)
                    have h_93 : PB.slot A 93 = .bool true := hL 12 (by decide)
                    have h_94 : PB.slot A 94 = .bool true := hL 13 (by decide)
                    have h_95 : PB.slot A 95 = .bool true := hL 14 (by decide)
                    have h_8 : PB.slot A 8 = .bool true := hL 15 (by decide)
                    have hA := PT.frame_of (A := A) (n := 96) hS.size
                    have hd : A.defers = [] := hS.defers
                    rw [hd] at hA
                    obtain ⟨fr, hf⟩ : ∃ f, PB.slot A = f := ⟨_, rfl⟩
                    rw [hf] at hA h_81 h_82 h_83 h_84 h_85 h_86 h_87 h_88 h_89 h_90 h_91 h_92 h_93 h_94 h_95 h_8
                    rw [hA]
                    clear hA hf hd hL hS
                    simp only [List.range, List.range.loop, List.map_cons, List.map_nil, List.drop_succ_cons, List.drop_zero, h_81, h_82, h_83, h_84, h_85, h_86, h_87, h_88, h_89, h_90, h_91, h_92, h_93, h_94, h_95, h_8]
                    clear h_81 h_82 h_83 h_84 h_85 h_86 h_87 h_88 h_89 h_90 h_91 h_92 h_93 h_94 h_95 h_8
                    go_wp2
                    go_ret
                    exact ⟨rfl, hat.out.below.trans (hB.mono hat.out.below.size)⟩
                · skip
                  refine PT.wp_region_tail 16 (PB.phi [PB.E (.agg #[.int .i64 r1, .int .i64 r2]), PB.E (.agg #[.int .i64 q1, .int .i64 q2]), PB.E (.bool true), PB.E (.bool true), PB.E undef, PB.E undef, PB.E undef, PB.E undef, PB.E undef, PB.E undef, PB.E undef, PB.E (.bool true), PB.E (.bool true), PB.E (.bool true), PB.E (.bool true), PB.E (.bool true)]) mixed (by kernel_rfl)
                    (PB.phi_lasts _ ⟨PB.E_lasts _, PB.E_lasts _, PB.E_lasts _, PB.E_lasts _, PB.E_lasts _, PB.E_lasts _, PB.E_lasts _, PB.E_lasts _, PB.E_lasts _, PB.E_lasts _, PB.E_lasts _, PB.E_lasts _, PB.E_lasts _, PB.E_lasts _, PB.E_lasts _, PB.E_lasts _, trivial⟩) ?_ ?_
                  · refine ⟨?_, ?_, ?_, ?_, ?_, ?_, ?_, ?_, ?_, ?_, ?_, ?_, ?_, ?_, ?_, ?_, trivial⟩ <;> intro A W hB hS hA hF
                    · exact Or.inl (PB.does_run (PB.wanted_free rfl) (run_box W (hS.slots 9 rfl) (HBRr.out.on hB)) rfl)
                    · exact Or.inl (PB.does_run (PB.wanted_free rfl) (run_box W (hS.slots 10 rfl) (HBQr.out.on hB)) rfl)
                    · exact Or.inl (PB.does_bin (PB.wanted_free rfl) rfl (hA 0 rfl) (hA 1 rfl) ((run_neT W (r1, r2) (q1, q2) _ _).trans (by rw [decide_eq_true hrq])) rfl)
                    · exact Or.inl (PB.does_move (PB.wanted_free rfl) rfl (hA 2 rfl))
                    · exact Or.inr ⟨PT.pass_by rfl rfl (hA 3 rfl) (by decide), rfl⟩
                    · exact Or.inr ⟨PT.pass_by rfl rfl (hA 3 rfl) (by decide), rfl⟩
                    · exact Or.inr ⟨PT.pass_by rfl rfl (hA 3 rfl) (by decide), rfl⟩
                    · exact Or.inr ⟨PT.pass_by rfl rfl (hA 3 rfl) (by decide), rfl⟩
                    · exact Or.inr ⟨PT.pass_by rfl rfl (hA 3 rfl) (by decide), rfl⟩
                    · exact Or.inr ⟨PT.pass_by rfl rfl (hA 3 rfl) (by decide), rfl⟩
                    · exact Or.inr ⟨PT.pass_by rfl rfl (hA 3 rfl) (by decide), rfl⟩
                    · exact Or.inl (PB.does_run (PB.wanted_free rfl) (run_pick_const W (hA 3 rfl)) rfl)
                    · exact Or.inl (PB.does_move (PB.wanted_free rfl) rfl (hA 11 rfl))
                    · exact Or.inl (PB.does_call #[] (PB.wanted_by rfl rfl (hA 12 rfl)) rfl Try.func10 rfl rfl rfl (live_newB W))
                    · exact Or.inl (PB.does_run (PB.wanted_free rfl) (run_pick_then W (hA 12 rfl) (hA 13 rfl)) rfl)
                    · exact Or.inl (PB.does_assign (PB.wanted_free rfl) rfl (hA 14 rfl))
                  · intro A W hB hS hL
                    have h_81 : PB.slot A 81 = .agg #[.int .i64 r1, .int .i64 r2] := hL 0 (by decide)
                    have h_82 : PB.slot A 82 = .agg #[.int .i64 q1, .int .i64 q2] := hL 1 (by decide)
                    have h_83 : PB.slot A 83 = .bool true := hL 2 (by decide)
                    have h_84 : PB.slot A 84 = .bool true := hL 3 (by decide)
                    have h_85 : PB.slot A 85 = undef := hL 4 (by decide)
                    have h_86 : PB.slot A 86 = undef := hL 5 (by decide)
                    have h_87 : PB.slot A 87 = undef := hL 6 (by decide)
                    have h_88 : PB.slot A 88 = undef := hL 7 (by decide)
                    have h_89 : PB.slot A 89 = undef := hL 8 (by decide)
                    have h_90 : PB.slot A 90 = undef := hL 9 (by decide)
                    have h_91 : PB.slot A 91 = undef := hL 10 (by decide)
                    have h_92 : PB.slot A 92 = .bool true := hL 11 (by decide)
                    have h_93 : PB.slot A 93 = .bool true := hL 12 (by decide)
                    have h_94 : PB.slot A 94 = .bool true := hL 13 (by decide)
                    have h_95 : PB.slot A 95 = .bool true := hL 14 (by decide)
                    have h_8 : PB.slot A 8 = .bool true := hL 15 (by decide)
                    have hA := PT.frame_of (A := A) (n := 96) hS.size
                    have hd : A.defers = [] := hS.defers
                    rw [hd] at hA
                    obtain ⟨fr, hf⟩ : ∃ f, PB.slot A = f := ⟨_, rfl⟩
                    rw [hf] at hA h_81 h_82 h_83 h_84 h_85 h_86 h_87 h_88 h_89 h_90 h_91 h_92 h_93 h_94 h_95 h_8
                    rw [hA]
                    clear hA hf hd hL hS
                    simp only [List.range, List.range.loop, List.map_cons, List.map_nil, List.drop_succ_cons, List.drop_zero, h_81, h_82, h_83, h_84, h_85, h_86, h_87, h_88, h_89, h_90, h_91, h_92, h_93, h_94, h_95, h_8]
                    clear h_81 h_82 h_83 h_84 h_85 h_86 h_87 h_88 h_89 h_90 h_91 h_92 h_93 h_94 h_95 h_8
                    go_wp2
                    go_ret
                    exact ⟨rfl, hat.out.below.trans (hB.mono hat.out.below.size)⟩
              | succ k =>
                have hjl : j < l.length := by rw [HN.out]; omega
                obtain ⟨a', cap', e1, hcap, hsl, hts⟩ := HL.out
                simp at e1
                obtain ⟨rfl, -, rfl⟩ := e1
                obtain ⟨b, off, rfl, hBb, hc⟩ := hts.cells (by rintro rfl; simp at hjl)
                have HX : Hid (w.cell? ⟨b, off + j * 2, none⟩ = some (.int .i64 (l.getD j (0, 0)).1) ∧ w.cell? ⟨b, off + j * 2 + 1, none⟩ = some (.int .i64 (l.getD j (0, 0)).2)) := hc j hjl
                have hjn : j < n := by omega
                have HXA := hid' (HRA.out _ (HAX.out _ (getD_mem hjl)))
                generalize l.getD j (0, 0) = x at HX HXA
                obtain ⟨x1, x2⟩ := x
                obtain ⟨⟨z1, z2⟩, hz⟩ : ∃ z, joinT (x1, x2) (s1, s2) = z := ⟨_, rfl⟩
                have HZ := hid' hz
                rw [hz] at HXA
                obtain ⟨zb, hzb⟩ : ∃ zb, le2 (t1, t2) (z1, z2) = zb := ⟨_, rfl⟩
                have HZT := hid' hzb
                have HZR : Hid (le2 (r1, r2) (z1, z2) = zb) := by unfold Hid; rw [← HXA.out.1]; exact hzb
                simp only at HX
                clear hc hts hsl hcap hjl hz hzb HXA
                go_wp2_with fail
                refine PT.wp_region_tail 17 (PB.phi [PB.E (.agg #[.int .i64 t1, .int .i64 t2]), PB.E (.slice (some ⟨b, off, none⟩) n cap), PB.E (.int .i64 (j : Int)), PB.E (.pointer (some ⟨b, off + j * 2, none⟩)), PB.E (.agg #[.int .i64 x1, .int .i64 x2]), PB.E (.agg #[.int .i64 s1, .int .i64 s2]), PB.E (.agg #[.int .i64 z1, .int .i64 z2]), PB.E (.bool zb), PB.E (.agg #[.int .i64 r1, .int .i64 r2]), PB.E (.slice (some ⟨b, off, none⟩) n cap), PB.E (.int .i64 (j : Int)), PB.E (.pointer (some ⟨b, off + j * 2, none⟩)), PB.E (.agg #[.int .i64 x1, .int .i64 x2]), PB.E (.agg #[.int .i64 s1, .int .i64 s2]), PB.E (.agg #[.int .i64 z1, .int .i64 z2]), PB.E (.bool zb), PB.E (.bool false)]) mixed (by kernel_rfl)
                  (PB.phi_lasts _ ⟨PB.E_lasts _, PB.E_lasts _, PB.E_lasts _, PB.E_lasts _, PB.E_lasts _, PB.E_lasts _, PB.E_lasts _, PB.E_lasts _, PB.E_lasts _, PB.E_lasts _, PB.E_lasts _, PB.E_lasts _, PB.E_lasts _, PB.E_lasts _, PB.E_lasts _, PB.E_lasts _, PB.E_lasts _, trivial⟩) ?_ ?_
                · refine ⟨?_, ?_, ?_, ?_, ?_, ?_, ?_, ?_, ?_, ?_, ?_, ?_, ?_, ?_, ?_, ?_, ?_, trivial⟩ <;> intro A W hB hS hA hF
                  · exact Or.inl (PB.does_run (PB.wanted_free rfl) (run_box W (hS.slots 5 rfl) (hat.out.b5.on hB)) rfl)
                  · exact Or.inl (PB.does_move (PB.wanted_free rfl) rfl (hS.slots 0 rfl))
                  · exact Or.inl (PB.does_move (PB.wanted_free rfl) rfl (hS.slots 11 rfl))
                  · exact Or.inl (PB.does_run (PB.wanted_free rfl) (run_index W (hA 1 rfl) (hA 2 rfl) hjn hl) rfl)
                  · exact Or.inl (PB.does_run (PB.wanted_free rfl) (run_load W (hA 3 rfl) (((hat.out.below.trans (hB.mono hat.out.below.size)).cell (p := ⟨b, off + j * 2, none⟩) hBb).trans HX.out.1) (((hat.out.below.trans (hB.mono hat.out.below.size)).cell (p := ⟨b, off + j * 2 + 1, none⟩) hBb).trans HX.out.2)) rfl)
                  · exact Or.inl (PB.does_run (PB.wanted_free rfl) (run_box W (hS.slots 7 rfl) (hat.out.b7.on hB)) rfl)
                  · exact Or.inl (PB.does_call #[.agg #[.int .i64 x1, .int .i64 x2], .agg #[.int .i64 s1, .int .i64 s2]] (PB.wanted_free rfl) rfl Try.func28 rfl rfl (by show [PB.slot A 68, PB.slot A 69] = _; rw [show PB.slot A 68 = .agg #[.int .i64 x1, .int .i64 x2] from (hA 4 rfl), show PB.slot A 69 = .agg #[.int .i64 s1, .int .i64 s2] from (hA 5 rfl)]) (rjoin_is HZ.out W))
                  · exact Or.inl (PB.does_call #[.agg #[.int .i64 t1, .int .i64 t2], .agg #[.int .i64 z1, .int .i64 z2]] (PB.wanted_free rfl) rfl Try.func27 rfl rfl (by show [PB.slot A 64, PB.slot A 70] = _; rw [show PB.slot A 64 = .agg #[.int .i64 t1, .int .i64 t2] from (hA 0 rfl), show PB.slot A 70 = .agg #[.int .i64 z1, .int .i64 z2] from (hA 6 rfl)]) (rle_is HZT.out W))
                  · exact Or.inl (PB.does_run (PB.wanted_free rfl) (run_box W (hS.slots 9 rfl) (HBRr.out.on hB)) rfl)
                  · exact Or.inl (PB.does_move (PB.wanted_free rfl) rfl (hS.slots 0 rfl))
                  · exact Or.inl (PB.does_move (PB.wanted_free rfl) rfl (hS.slots 11 rfl))
                  · exact Or.inl (PB.does_run (PB.wanted_free rfl) (run_index W (hA 9 rfl) (hA 10 rfl) hjn hl) rfl)
                  · exact Or.inl (PB.does_run (PB.wanted_free rfl) (run_load W (hA 11 rfl) (((hat.out.below.trans (hB.mono hat.out.below.size)).cell (p := ⟨b, off + j * 2, none⟩) hBb).trans HX.out.1) (((hat.out.below.trans (hB.mono hat.out.below.size)).cell (p := ⟨b, off + j * 2 + 1, none⟩) hBb).trans HX.out.2)) rfl)
                  · exact Or.inl (PB.does_run (PB.wanted_free rfl) (run_box W (hS.slots 7 rfl) (hat.out.b7.on hB)) rfl)
                  · exact Or.inl (PB.does_call #[.agg #[.int .i64 x1, .int .i64 x2], .agg #[.int .i64 s1, .int .i64 s2]] (PB.wanted_free rfl) rfl Try.func28 rfl rfl (by show [PB.slot A 76, PB.slot A 77] = _; rw [show PB.slot A 76 = .agg #[.int .i64 x1, .int .i64 x2] from (hA 12 rfl), show PB.slot A 77 = .agg #[.int .i64 s1, .int .i64 s2] from (hA 13 rfl)]) (rjoin_is HZ.out W))
                  · exact Or.inl (PB.does_call #[.agg #[.int .i64 r1, .int .i64 r2], .agg #[.int .i64 z1, .int .i64 z2]] (PB.wanted_free rfl) rfl Try.func27 rfl rfl (by show [PB.slot A 72, PB.slot A 78] = _; rw [show PB.slot A 72 = .agg #[.int .i64 r1, .int .i64 r2] from (hA 8 rfl), show PB.slot A 78 = .agg #[.int .i64 z1, .int .i64 z2] from (hA 14 rfl)]) (rle_is HZR.out W))
                  · exact Or.inl (PB.does_bin (PB.wanted_free rfl) rfl (hA 7 rfl) (hA 15 rfl) ((run_neB W _ _ _ _).trans (by simp)) rfl)
                · intro A W hB hS hL
                  have h_64 : PB.slot A 64 = .agg #[.int .i64 t1, .int .i64 t2] := hL 0 (by decide)
                  have h_65 : PB.slot A 65 = .slice (some ⟨b, off, none⟩) n cap := hL 1 (by decide)
                  have h_66 : PB.slot A 66 = .int .i64 (j : Int) := hL 2 (by decide)
                  have h_67 : PB.slot A 67 = .pointer (some ⟨b, off + j * 2, none⟩) := hL 3 (by decide)
                  have h_68 : PB.slot A 68 = .agg #[.int .i64 x1, .int .i64 x2] := hL 4 (by decide)
                  have h_69 : PB.slot A 69 = .agg #[.int .i64 s1, .int .i64 s2] := hL 5 (by decide)
                  have h_70 : PB.slot A 70 = .agg #[.int .i64 z1, .int .i64 z2] := hL 6 (by decide)
                  have h_71 : PB.slot A 71 = .bool zb := hL 7 (by decide)
                  have h_72 : PB.slot A 72 = .agg #[.int .i64 r1, .int .i64 r2] := hL 8 (by decide)
                  have h_73 : PB.slot A 73 = .slice (some ⟨b, off, none⟩) n cap := hL 9 (by decide)
                  have h_74 : PB.slot A 74 = .int .i64 (j : Int) := hL 10 (by decide)
                  have h_75 : PB.slot A 75 = .pointer (some ⟨b, off + j * 2, none⟩) := hL 11 (by decide)
                  have h_76 : PB.slot A 76 = .agg #[.int .i64 x1, .int .i64 x2] := hL 12 (by decide)
                  have h_77 : PB.slot A 77 = .agg #[.int .i64 s1, .int .i64 s2] := hL 13 (by decide)
                  have h_78 : PB.slot A 78 = .agg #[.int .i64 z1, .int .i64 z2] := hL 14 (by decide)
                  have h_79 : PB.slot A 79 = .bool zb := hL 15 (by decide)
                  have h_80 : PB.slot A 80 = .bool false := hL 16 (by decide)
                  have q_0 : PB.slot A 0 = .slice (some ⟨b, off, none⟩) n cap := hS.slots 0 rfl
                  have q_5 : PB.slot A 5 = .pointer (some ⟨w.heap.size, 0, none⟩) := hS.slots 5 rfl
                  have q_6 : PB.slot A 6 = .pointer (some ⟨w.heap.size + 1, 0, none⟩) := hS.slots 6 rfl
                  have q_7 : PB.slot A 7 = .pointer (some ⟨w.heap.size + 1 + 1, 0, none⟩) := hS.slots 7 rfl
                  have q_9 : PB.slot A 9 = .pointer (some ⟨g9, 0, none⟩) := hS.slots 9 rfl
                  have q_10 : PB.slot A 10 = .pointer (some ⟨w5.heap.size, 0, none⟩) := hS.slots 10 rfl
                  have q_11 : PB.slot A 11 = .int .i64 (j : Int) := hS.slots 11 rfl
                  have q_1 := hS.slots 1 rfl
                  have q_2 := hS.slots 2 rfl
                  have q_3 := hS.slots 3 rfl
                  have q_4 := hS.slots 4 rfl
                  have q_8 := hS.slots 8 rfl
                  have q_12 := hS.slots 12 rfl
                  have q_13 := hS.slots 13 rfl
                  have q_14 := hS.slots 14 rfl
                  have q_15 := hS.slots 15 rfl
                  have q_16 := hS.slots 16 rfl
                  have q_17 := hS.slots 17 rfl
                  have q_18 := hS.slots 18 rfl
                  have q_19 := hS.slots 19 rfl
                  have q_20 := hS.slots 20 rfl
                  have q_21 := hS.slots 21 rfl
                  have q_22 := hS.slots 22 rfl
                  have q_23 := hS.slots 23 rfl
                  have q_24 := hS.slots 24 rfl
                  have q_25 := hS.slots 25 rfl
                  have q_26 := hS.slots 26 rfl
                  have q_27 := hS.slots 27 rfl
                  have q_28 := hS.slots 28 rfl
                  have q_29 := hS.slots 29 rfl
                  have q_30 := hS.slots 30 rfl
                  have q_31 := hS.slots 31 rfl
                  have q_32 := hS.slots 32 rfl
                  have q_33 := hS.slots 33 rfl
                  have q_34 := hS.slots 34 rfl
                  have q_35 := hS.slots 35 rfl
                  have q_36 := hS.slots 36 rfl
                  have q_37 := hS.slots 37 rfl
                  have q_38 := hS.slots 38 rfl
                  have q_39 := hS.slots 39 rfl
                  have q_40 := hS.slots 40 rfl
                  have q_41 := hS.slots 41 rfl
                  have q_42 := hS.slots 42 rfl
                  have q_43 := hS.slots 43 rfl
                  have q_44 := hS.slots 44 rfl
                  have q_45 := hS.slots 45 rfl
                  have q_46 := hS.slots 46 rfl
                  have q_47 := hS.slots 47 rfl
                  have q_48 := hS.slots 48 rfl
                  have q_49 := hS.slots 49 rfl
                  have q_50 := hS.slots 50 rfl
                  have q_51 := hS.slots 51 rfl
                  have q_52 := hS.slots 52 rfl
                  have q_53 := hS.slots 53 rfl
                  have q_54 := hS.slots 54 rfl
                  have q_55 := hS.slots 55 rfl
                  have q_56 := hS.slots 56 rfl
                  have q_57 := hS.slots 57 rfl
                  have q_58 := hS.slots 58 rfl
                  have q_59 := hS.slots 59 rfl
                  have q_60 := hS.slots 60 rfl
                  have q_61 := hS.slots 61 rfl
                  have q_62 := hS.slots 62 rfl
                  have q_63 := hS.slots 63 rfl
                  have q_81 := hS.slots 81 rfl
                  have q_82 := hS.slots 82 rfl
                  have q_83 := hS.slots 83 rfl
                  have q_84 := hS.slots 84 rfl
                  have q_85 := hS.slots 85 rfl
                  have q_86 := hS.slots 86 rfl
                  have q_87 := hS.slots 87 rfl
                  have q_88 := hS.slots 88 rfl
                  have q_89 := hS.slots 89 rfl
                  have q_90 := hS.slots 90 rfl
                  have q_91 := hS.slots 91 rfl
                  have q_92 := hS.slots 92 rfl
                  have q_93 := hS.slots 93 rfl
                  have q_94 := hS.slots 94 rfl
                  have q_95 := hS.slots 95 rfl
                  simp only [PB.slot, Array.getD_eq_getD_getElem?, List.getElem?_toArray, List.getElem?_cons_succ, List.getElem?_cons_zero, Option.getD_some] at q_1 q_2 q_3 q_4 q_8 q_12 q_13 q_14 q_15 q_16 q_17 q_18 q_19 q_20 q_21 q_22 q_23 q_24 q_25 q_26 q_27 q_28 q_29 q_30 q_31 q_32 q_33 q_34 q_35 q_36 q_37 q_38 q_39 q_40 q_41 q_42 q_43 q_44 q_45 q_46 q_47 q_48 q_49 q_50 q_51 q_52 q_53 q_54 q_55 q_56 q_57 q_58 q_59 q_60 q_61 q_62 q_63 q_81 q_82 q_83 q_84 q_85 q_86 q_87 q_88 q_89 q_90 q_91 q_92 q_93 q_94 q_95
                  have q_1 := (PT.slot_get A 1).trans q_1
                  have q_2 := (PT.slot_get A 2).trans q_2
                  have q_3 := (PT.slot_get A 3).trans q_3
                  have q_4 := (PT.slot_get A 4).trans q_4
                  have q_8 := (PT.slot_get A 8).trans q_8
                  have q_12 := (PT.slot_get A 12).trans q_12
                  have q_13 := (PT.slot_get A 13).trans q_13
                  have q_14 := (PT.slot_get A 14).trans q_14
                  have q_15 := (PT.slot_get A 15).trans q_15
                  have q_16 := (PT.slot_get A 16).trans q_16
                  have q_17 := (PT.slot_get A 17).trans q_17
                  have q_18 := (PT.slot_get A 18).trans q_18
                  have q_19 := (PT.slot_get A 19).trans q_19
                  have q_20 := (PT.slot_get A 20).trans q_20
                  have q_21 := (PT.slot_get A 21).trans q_21
                  have q_22 := (PT.slot_get A 22).trans q_22
                  have q_23 := (PT.slot_get A 23).trans q_23
                  have q_24 := (PT.slot_get A 24).trans q_24
                  have q_25 := (PT.slot_get A 25).trans q_25
                  have q_26 := (PT.slot_get A 26).trans q_26
                  have q_27 := (PT.slot_get A 27).trans q_27
                  have q_28 := (PT.slot_get A 28).trans q_28
                  have q_29 := (PT.slot_get A 29).trans q_29
                  have q_30 := (PT.slot_get A 30).trans q_30
                  have q_31 := (PT.slot_get A 31).trans q_31
                  have q_32 := (PT.slot_get A 32).trans q_32
                  have q_33 := (PT.slot_get A 33).trans q_33
                  have q_34 := (PT.slot_get A 34).trans q_34
                  have q_35 := (PT.slot_get A 35).trans q_35
                  have q_36 := (PT.slot_get A 36).trans q_36
                  have q_37 := (PT.slot_get A 37).trans q_37
                  have q_38 := (PT.slot_get A 38).trans q_38
                  have q_39 := (PT.slot_get A 39).trans q_39
                  have q_40 := (PT.slot_get A 40).trans q_40
                  have q_41 := (PT.slot_get A 41).trans q_41
                  have q_42 := (PT.slot_get A 42).trans q_42
                  have q_43 := (PT.slot_get A 43).trans q_43
                  have q_44 := (PT.slot_get A 44).trans q_44
                  have q_45 := (PT.slot_get A 45).trans q_45
                  have q_46 := (PT.slot_get A 46).trans q_46
                  have q_47 := (PT.slot_get A 47).trans q_47
                  have q_48 := (PT.slot_get A 48).trans q_48
                  have q_49 := (PT.slot_get A 49).trans q_49
                  have q_50 := (PT.slot_get A 50).trans q_50
                  have q_51 := (PT.slot_get A 51).trans q_51
                  have q_52 := (PT.slot_get A 52).trans q_52
                  have q_53 := (PT.slot_get A 53).trans q_53
                  have q_54 := (PT.slot_get A 54).trans q_54
                  have q_55 := (PT.slot_get A 55).trans q_55
                  have q_56 := (PT.slot_get A 56).trans q_56
                  have q_57 := (PT.slot_get A 57).trans q_57
                  have q_58 := (PT.slot_get A 58).trans q_58
                  have q_59 := (PT.slot_get A 59).trans q_59
                  have q_60 := (PT.slot_get A 60).trans q_60
                  have q_61 := (PT.slot_get A 61).trans q_61
                  have q_62 := (PT.slot_get A 62).trans q_62
                  have q_63 := (PT.slot_get A 63).trans q_63
                  have q_81 := (PT.slot_get A 81).trans q_81
                  have q_82 := (PT.slot_get A 82).trans q_82
                  have q_83 := (PT.slot_get A 83).trans q_83
                  have q_84 := (PT.slot_get A 84).trans q_84
                  have q_85 := (PT.slot_get A 85).trans q_85
                  have q_86 := (PT.slot_get A 86).trans q_86
                  have q_87 := (PT.slot_get A 87).trans q_87
                  have q_88 := (PT.slot_get A 88).trans q_88
                  have q_89 := (PT.slot_get A 89).trans q_89
                  have q_90 := (PT.slot_get A 90).trans q_90
                  have q_91 := (PT.slot_get A 91).trans q_91
                  have q_92 := (PT.slot_get A 92).trans q_92
                  have q_93 := (PT.slot_get A 93).trans q_93
                  have q_94 := (PT.slot_get A 94).trans q_94
                  have q_95 := (PT.slot_get A 95).trans q_95
                  have hA := PT.frame_of (A := A) (n := 96) hS.size
                  have hd : A.defers = [] := hS.defers
                  rw [hd] at hA
                  obtain ⟨fr, hf⟩ : ∃ f, PB.slot A = f := ⟨_, rfl⟩
                  rw [hf] at hA h_64 h_65 h_66 h_67 h_68 h_69 h_70 h_71 h_72 h_73 h_74 h_75 h_76 h_77 h_78 h_79 h_80 q_0 q_5 q_6 q_7 q_9 q_10 q_11 q_1 q_2 q_3 q_4 q_8 q_12 q_13 q_14 q_15 q_16 q_17 q_18 q_19 q_20 q_21 q_22 q_23 q_24 q_25 q_26 q_27 q_28 q_29 q_30 q_31 q_32 q_33 q_34 q_35 q_36 q_37 q_38 q_39 q_40 q_41 q_42 q_43 q_44 q_45 q_46 q_47 q_48 q_49 q_50 q_51 q_52 q_53 q_54 q_55 q_56 q_57 q_58 q_59 q_60 q_61 q_62 q_63 q_81 q_82 q_83 q_84 q_85 q_86 q_87 q_88 q_89 q_90 q_91 q_92 q_93 q_94 q_95
                  rw [hA]
                  clear hA hf hd hL hS
                  simp only [List.range, List.range.loop, List.map_cons, List.map_nil, List.drop_succ_cons, List.drop_zero, h_64, h_65, h_66, h_67, h_68, h_69, h_70, h_71, h_72, h_73, h_74, h_75, h_76, h_77, h_78, h_79, h_80, q_0, q_5, q_6, q_7, q_9, q_10, q_11, q_1, q_2, q_3, q_4, q_8, q_12, q_13, q_14, q_15, q_16, q_17, q_18, q_19, q_20, q_21, q_22, q_23, q_24, q_25, q_26, q_27, q_28, q_29, q_30, q_31, q_32, q_33, q_34, q_35, q_36, q_37, q_38, q_39, q_40, q_41, q_42, q_43, q_44, q_45, q_46, q_47, q_48, q_49, q_50, q_51, q_52, q_53, q_54, q_55, q_56, q_57, q_58, q_59, q_60, q_61, q_62, q_63, q_81, q_82, q_83, q_84, q_85, q_86, q_87, q_88, q_89, q_90, q_91, q_92, q_93, q_94, q_95]
                  clear h_64 h_65 h_66 h_67 h_68 h_69 h_70 h_71 h_72 h_73 h_74 h_75 h_76 h_77 h_78 h_79 h_80 q_0 q_5 q_6 q_7 q_9 q_10 q_11 q_1 q_2 q_3 q_4 q_8 q_12 q_13 q_14 q_15 q_16 q_17 q_18 q_19 q_20 q_21 q_22 q_23 q_24 q_25 q_26 q_27 q_28 q_29 q_30 q_31 q_32 q_33 q_34 q_35 q_36 q_37 q_38 q_39 q_40 q_41 q_42 q_43 q_44 q_45 q_46 q_47 q_48 q_49 q_50 q_51 q_52 q_53 q_54 q_55 q_56 q_57 q_58 q_59 q_60 q_61 q_62 q_63 q_81 q_82 q_83 q_84 q_85 q_86 q_87 q_88 q_89 q_90 q_91 q_92 q_93 q_94 q_95
                  have hAt : Hid (ThreeAt w (t1, t2) (u1, u2) (s1, s2) W) := hat.out.on hB
                  have hBr := hid' (HBRr.out.on hB)
                  have hBq := hid' (HBQr.out.on hB)
                  go_wp2
                  go_roundg k
                  case measure => omega
                  case rel => exact ⟨j + 1, by omega, by simp, hAt, hBr, hBq⟩
    · have H0 := hid' h0
      clear h0
      refine PT.wp_region_tail 16 (PB.phi [PB.E (.slice a n cap), PB.E (.agg #[.int .i64 r1, .int .i64 r2]), PB.E (.agg #[.int .i64 r1, .int .i64 r2]), PB.E (.agg #[.int .i64 r1, .int .i64 r2]), PB.E (.bool false), PB.E (.bool false), PB.E (.slice a n cap), PB.E (.int .i64 (n : Int)), PB.E (.bool true), PB.E (.bool true), PB.E (.agg #[.int .i64 t1, .int .i64 t2]), PB.E (.agg #[.int .i64 r1, .int .i64 r2]), PB.E (.bool true), PB.E (.bool false), PB.E (.bool false), PB.E (.bool false)]) mixed (by kernel_rfl)
        (PB.phi_lasts _ ⟨PB.E_lasts _, PB.E_lasts _, PB.E_lasts _, PB.E_lasts _, PB.E_lasts _, PB.E_lasts _, PB.E_lasts _, PB.E_lasts _, PB.E_lasts _, PB.E_lasts _, PB.E_lasts _, PB.E_lasts _, PB.E_lasts _, PB.E_lasts _, PB.E_lasts _, PB.E_lasts _, trivial⟩) ?_ ?_
      · refine ⟨?_, ?_, ?_, ?_, ?_, ?_, ?_, ?_, ?_, ?_, ?_, ?_, ?_, ?_, ?_, ?_, trivial⟩ <;> intro A W hB hS hA hF
        · exact Or.inl (PB.does_move (PB.wanted_free rfl) rfl (hS.slots 0 rfl))
        · exact Or.inl (PB.does_run (PB.wanted_free rfl) (run_box W (hS.slots 9 rfl) (HBR.out.on hB)) rfl)
        · exact Or.inl (PB.does_call #[.slice a n cap, .agg #[.int .i64 r1, .int .i64 r2]] (PB.wanted_free rfl) rfl Try.func25 rfl rfl (by show [PB.slot A 18, PB.slot A 19] = _; rw [show PB.slot A 18 = .slice a n cap from (hA 0 rfl), show PB.slot A 19 = .agg #[.int .i64 r1, .int .i64 r2] from (hA 1 rfl)]) (Rep_is HRR.out (HLW.out W (HA2.out.below.trans (hB.mono HA2.out.below.size))) HL1.out))
        · exact Or.inl (PB.does_run (PB.wanted_free rfl) (run_box W (hS.slots 9 rfl) (HBR.out.on hB)) rfl)
        · exact Or.inl (PB.does_bin (PB.wanted_free rfl) rfl (hA 2 rfl) (hA 3 rfl) ((run_neT W (r1, r2) (r1, r2) _ _).trans (by simp)) rfl)
        · exact Or.inl (PB.does_move (PB.wanted_free rfl) rfl (hA 4 rfl))
        · exact Or.inl (PB.does_move (PB.wanted_by rfl rfl (hA 5 rfl)) rfl (hS.slots 0 rfl))
        · exact Or.inl (PB.does_run (PB.wanted_by rfl rfl (hA 5 rfl)) (run_len W (hA 6 rfl)) rfl)
        · exact Or.inl (PB.does_bin2 (PB.wanted_by rfl rfl (hA 5 rfl)) rfl (hA 7 rfl) rfl ((run_gtI W _ _ _ _).trans (by have h0 := H0.out; simp; omega)) rfl)
        · exact Or.inl (PB.does_move (PB.wanted_by rfl rfl (hA 5 rfl)) rfl (hA 8 rfl))
        · exact Or.inl (PB.does_run (PB.wanted_by rfl rfl (hA 9 rfl)) (run_box W (hS.slots 5 rfl) (HA2.out.b5.on hB)) rfl)
        · exact Or.inl (PB.does_run (PB.wanted_by rfl rfl (hA 9 rfl)) (run_box W (hS.slots 9 rfl) (HBR.out.on hB)) rfl)
        · exact Or.inl (PB.does_call #[.agg #[.int .i64 t1, .int .i64 t2], .agg #[.int .i64 r1, .int .i64 r2]] (PB.wanted_by rfl rfl (hA 9 rfl)) rfl Try.func27 rfl rfl (by show [PB.slot A 28, PB.slot A 29] = _; rw [show PB.slot A 28 = .agg #[.int .i64 t1, .int .i64 t2] from (hA 10 rfl), show PB.slot A 29 = .agg #[.int .i64 r1, .int .i64 r2] from (hA 11 rfl)]) (rle_is (HRL.out H0.out) W))
        · exact Or.inl (PB.does_run (PB.wanted_by rfl rfl (hA 9 rfl)) (run_not W (hA 12 rfl)) rfl)
        · exact Or.inl (PB.does_run (PB.wanted_by rfl rfl (hA 5 rfl)) (run_pick_then W (hA 9 rfl) (hA 13 rfl)) rfl)
        · exact Or.inl (PB.does_run (PB.wanted_free rfl) (run_pick_else W (hA 5 rfl) (hA 14 rfl)) rfl)
      · intro A W hB hS hL
        have h_18 : PB.slot A 18 = .slice a n cap := hL 0 (by decide)
        have h_19 : PB.slot A 19 = .agg #[.int .i64 r1, .int .i64 r2] := hL 1 (by decide)
        have h_20 : PB.slot A 20 = .agg #[.int .i64 r1, .int .i64 r2] := hL 2 (by decide)
        have h_21 : PB.slot A 21 = .agg #[.int .i64 r1, .int .i64 r2] := hL 3 (by decide)
        have h_22 : PB.slot A 22 = .bool false := hL 4 (by decide)
        have h_23 : PB.slot A 23 = .bool false := hL 5 (by decide)
        have h_24 : PB.slot A 24 = .slice a n cap := hL 6 (by decide)
        have h_25 : PB.slot A 25 = .int .i64 (n : Int) := hL 7 (by decide)
        have h_26 : PB.slot A 26 = .bool true := hL 8 (by decide)
        have h_27 : PB.slot A 27 = .bool true := hL 9 (by decide)
        have h_28 : PB.slot A 28 = .agg #[.int .i64 t1, .int .i64 t2] := hL 10 (by decide)
        have h_29 : PB.slot A 29 = .agg #[.int .i64 r1, .int .i64 r2] := hL 11 (by decide)
        have h_30 : PB.slot A 30 = .bool true := hL 12 (by decide)
        have h_31 : PB.slot A 31 = .bool false := hL 13 (by decide)
        have h_32 : PB.slot A 32 = .bool false := hL 14 (by decide)
        have h_33 : PB.slot A 33 = .bool false := hL 15 (by decide)
        have q_0 : PB.slot A 0 = .slice a n cap := hS.slots 0 rfl
        have q_5 : PB.slot A 5 = .pointer (some ⟨w.heap.size, 0, none⟩) := hS.slots 5 rfl
        have q_6 : PB.slot A 6 = .pointer (some ⟨w.heap.size + 1, 0, none⟩) := hS.slots 6 rfl
        have q_7 : PB.slot A 7 = .pointer (some ⟨w.heap.size + 1 + 1, 0, none⟩) := hS.slots 7 rfl
        have q_8 : PB.slot A 8 = .bool false := hS.slots 8 rfl
        have q_9 : PB.slot A 9 = .pointer (some ⟨g9, 0, none⟩) := hS.slots 9 rfl
        have hA := PT.frame_of (A := A) (n := 96) hS.size
        have hd : A.defers = [] := hS.defers
        rw [hd] at hA
        obtain ⟨fr, hf⟩ : ∃ f, PB.slot A = f := ⟨_, rfl⟩
        rw [hf] at hA h_18 h_19 h_20 h_21 h_22 h_23 h_24 h_25 h_26 h_27 h_28 h_29 h_30 h_31 h_32 h_33 q_0 q_5 q_6 q_7 q_8 q_9
        rw [hA]
        clear hA hf hd hL hS
        simp only [List.range, List.range.loop, List.map_cons, List.map_nil, List.drop_succ_cons, List.drop_zero, h_18, h_19, h_20, h_21, h_22, h_23, h_24, h_25, h_26, h_27, h_28, h_29, h_30, h_31, h_32, h_33, q_0, q_5, q_6, q_7, q_8, q_9]
        clear h_18 h_19 h_20 h_21 h_22 h_23 h_24 h_25 h_26 h_27 h_28 h_29 h_30 h_31 h_32 h_33 q_0 q_5 q_6 q_7 q_8 q_9
        have HA3 : Hid (ThreeAt w (t1, t2) (u1, u2) (s1, s2) W) := HA2.out.on hB
        have HBR3 := hid' (HBR.out.on hB)
        have c1 := HA3.out.b6.c1
        have c2 := HA3.out.b6.c2
        simp only at c1 c2
        clear hB
        go_wp2_with fail
        refine (HAH.out W HA3.out.below).mono ?_
        rintro e w4 ⟨_, rfl, hb4, rfl⟩
        have HA4 : Hid (ThreeAt w (t1, t2) (u1, u2) (s1, s2) w4) := HA3.out.on hb4
        have HBR4 := hid' (HBR3.out.on hb4)
        clear c1 c2 hb4 HA3 HBR3 HA2 HBR
        cases av with
        | false =>
          go_wp2_with fail
          refine (live_any _).mono ?_
          rintro e w6 ⟨rfl, hb6⟩
          go_wp2
          go_ret
          exact ⟨rfl, HA4.out.below.trans (hb6.mono HA4.out.below.size)⟩
        | true =>
          have HADV : Hid (Adv l (u1, u2)) := HAV.out.1 rfl
          have HUA := hid' (HRA.out _ HADV.out)
          obtain ⟨bt, hbt⟩ : ∃ bt, le2 (t1, t2) (u1, u2) = bt := ⟨_, rfl⟩
          obtain ⟨⟨j1, j2⟩, hjj⟩ : ∃ z, joinT (t1, t2) (u1, u2) = z := ⟨_, rfl⟩
          have HBT := hid' hbt
          have HBRU : Hid (le2 (r1, r2) (u1, u2) = bt) := by unfold Hid; rw [← HUA.out.1]; exact hbt
          have HJ1 := hid' hjj
          have HJ2 : Hid (joinT (r1, r2) (u1, u2) = (j1, j2)) := by unfold Hid; rw [← HUA.out.2]; exact hjj
          clear hbt hjj HUA
          go_wp2_with fail
          refine PT.wp_region_tail 16 (PB.phi [PB.E (.agg #[.int .i64 t1, .int .i64 t2]), PB.E (.agg #[.int .i64 u1, .int .i64 u2]), PB.E (.bool bt), PB.E (.agg #[.int .i64 r1, .int .i64 r2]), PB.E (.agg #[.int .i64 u1, .int .i64 u2]), PB.E (.bool bt), PB.E (.bool false), PB.E (.bool false), PB.E (.agg #[.int .i64 t1, .int .i64 t2]), PB.E (.agg #[.int .i64 u1, .int .i64 u2]), PB.E (.agg #[.int .i64 j1, .int .i64 j2]), PB.E (.agg #[.int .i64 r1, .int .i64 r2]), PB.E (.agg #[.int .i64 u1, .int .i64 u2]), PB.E (.agg #[.int .i64 j1, .int .i64 j2]), PB.E (.bool false), PB.E (.bool false)]) mixed (by kernel_rfl)
            (PB.phi_lasts _ ⟨PB.E_lasts _, PB.E_lasts _, PB.E_lasts _, PB.E_lasts _, PB.E_lasts _, PB.E_lasts _, PB.E_lasts _, PB.E_lasts _, PB.E_lasts _, PB.E_lasts _, PB.E_lasts _, PB.E_lasts _, PB.E_lasts _, PB.E_lasts _, PB.E_lasts _, PB.E_lasts _, trivial⟩) ?_ ?_
          · refine ⟨?_, ?_, ?_, ?_, ?_, ?_, ?_, ?_, ?_, ?_, ?_, ?_, ?_, ?_, ?_, ?_, trivial⟩ <;> intro A W hB hS hA hF
            · exact Or.inl (PB.does_run (PB.wanted_free rfl) (run_box W (hS.slots 5 rfl) (HA4.out.b5.on hB)) rfl)
            · exact Or.inl (PB.does_run (PB.wanted_free rfl) (run_box W (hS.slots 6 rfl) (HA4.out.b6.on hB)) rfl)
            · exact Or.inl (PB.does_call #[.agg #[.int .i64 t1, .int .i64 t2], .agg #[.int .i64 u1, .int .i64 u2]] (PB.wanted_free rfl) rfl Try.func27 rfl rfl (by show [PB.slot A 39, PB.slot A 40] = _; rw [show PB.slot A 39 = .agg #[.int .i64 t1, .int .i64 t2] from (hA 0 rfl), show PB.slot A 40 = .agg #[.int .i64 u1, .int .i64 u2] from (hA 1 rfl)]) (rle_is HBT.out W))
            · exact Or.inl (PB.does_run (PB.wanted_free rfl) (run_box W (hS.slots 9 rfl) (HBR4.out.on hB)) rfl)
            · exact Or.inl (PB.does_run (PB.wanted_free rfl) (run_box W (hS.slots 6 rfl) (HA4.out.b6.on hB)) rfl)
            · exact Or.inl (PB.does_call #[.agg #[.int .i64 r1, .int .i64 r2], .agg #[.int .i64 u1, .int .i64 u2]] (PB.wanted_free rfl) rfl Try.func27 rfl rfl (by show [PB.slot A 42, PB.slot A 43] = _; rw [show PB.slot A 42 = .agg #[.int .i64 r1, .int .i64 r2] from (hA 3 rfl), show PB.slot A 43 = .agg #[.int .i64 u1, .int .i64 u2] from (hA 4 rfl)]) (rle_is HBRU.out W))
            · exact Or.inl (PB.does_bin (PB.wanted_free rfl) rfl (hA 2 rfl) (hA 5 rfl) ((run_neB W _ _ _ _).trans (by simp)) rfl)
            · exact Or.inl (PB.does_move (PB.wanted_free rfl) rfl (hA 6 rfl))
            · exact Or.inl (PB.does_run (PB.wanted_by rfl rfl (hA 7 rfl)) (run_box W (hS.slots 5 rfl) (HA4.out.b5.on hB)) rfl)
            · exact Or.inl (PB.does_run (PB.wanted_by rfl rfl (hA 7 rfl)) (run_box W (hS.slots 6 rfl) (HA4.out.b6.on hB)) rfl)
            · exact Or.inl (PB.does_call #[.agg #[.int .i64 t1, .int .i64 t2], .agg #[.int .i64 u1, .int .i64 u2]] (PB.wanted_by rfl rfl (hA 7 rfl)) rfl Try.func28 rfl rfl (by show [PB.slot A 47, PB.slot A 48] = _; rw [show PB.slot A 47 = .agg #[.int .i64 t1, .int .i64 t2] from (hA 8 rfl), show PB.slot A 48 = .agg #[.int .i64 u1, .int .i64 u2] from (hA 9 rfl)]) (rjoin_is HJ1.out W))
            · exact Or.inl (PB.does_run (PB.wanted_by rfl rfl (hA 7 rfl)) (run_box W (hS.slots 9 rfl) (HBR4.out.on hB)) rfl)
            · exact Or.inl (PB.does_run (PB.wanted_by rfl rfl (hA 7 rfl)) (run_box W (hS.slots 6 rfl) (HA4.out.b6.on hB)) rfl)
            · exact Or.inl (PB.does_call #[.agg #[.int .i64 r1, .int .i64 r2], .agg #[.int .i64 u1, .int .i64 u2]] (PB.wanted_by rfl rfl (hA 7 rfl)) rfl Try.func28 rfl rfl (by show [PB.slot A 50, PB.slot A 51] = _; rw [show PB.slot A 50 = .agg #[.int .i64 r1, .int .i64 r2] from (hA 11 rfl), show PB.slot A 51 = .agg #[.int .i64 u1, .int .i64 u2] from (hA 12 rfl)]) (rjoin_is HJ2.out W))
            · exact Or.inl (PB.does_bin (PB.wanted_by rfl rfl (hA 7 rfl)) rfl (hA 10 rfl) (hA 13 rfl) ((run_neT W (j1, j2) (j1, j2) _ _).trans (by simp)) rfl)
            · exact Or.inl (PB.does_run (PB.wanted_free rfl) (run_pick_else W (hA 7 rfl) (hA 14 rfl)) rfl)
          · intro A W hB hS hL
            have h_39 : PB.slot A 39 = .agg #[.int .i64 t1, .int .i64 t2] := hL 0 (by decide)
            have h_40 : PB.slot A 40 = .agg #[.int .i64 u1, .int .i64 u2] := hL 1 (by decide)
            have h_41 : PB.slot A 41 = .bool bt := hL 2 (by decide)
            have h_42 : PB.slot A 42 = .agg #[.int .i64 r1, .int .i64 r2] := hL 3 (by decide)
            have h_43 : PB.slot A 43 = .agg #[.int .i64 u1, .int .i64 u2] := hL 4 (by decide)
            have h_44 : PB.slot A 44 = .bool bt := hL 5 (by decide)
            have h_45 : PB.slot A 45 = .bool false := hL 6 (by decide)
            have h_46 : PB.slot A 46 = .bool false := hL 7 (by decide)
            have h_47 : PB.slot A 47 = .agg #[.int .i64 t1, .int .i64 t2] := hL 8 (by decide)
            have h_48 : PB.slot A 48 = .agg #[.int .i64 u1, .int .i64 u2] := hL 9 (by decide)
            have h_49 : PB.slot A 49 = .agg #[.int .i64 j1, .int .i64 j2] := hL 10 (by decide)
            have h_50 : PB.slot A 50 = .agg #[.int .i64 r1, .int .i64 r2] := hL 11 (by decide)
            have h_51 : PB.slot A 51 = .agg #[.int .i64 u1, .int .i64 u2] := hL 12 (by decide)
            have h_52 : PB.slot A 52 = .agg #[.int .i64 j1, .int .i64 j2] := hL 13 (by decide)
            have h_53 : PB.slot A 53 = .bool false := hL 14 (by decide)
            have h_54 : PB.slot A 54 = .bool false := hL 15 (by decide)
            have q_0 : PB.slot A 0 = .slice a n cap := hS.slots 0 rfl
            have q_5 : PB.slot A 5 = .pointer (some ⟨w.heap.size, 0, none⟩) := hS.slots 5 rfl
            have q_6 : PB.slot A 6 = .pointer (some ⟨w.heap.size + 1, 0, none⟩) := hS.slots 6 rfl
            have q_7 : PB.slot A 7 = .pointer (some ⟨w.heap.size + 1 + 1, 0, none⟩) := hS.slots 7 rfl
            have q_8 : PB.slot A 8 = .bool false := hS.slots 8 rfl
            have q_9 : PB.slot A 9 = .pointer (some ⟨g9, 0, none⟩) := hS.slots 9 rfl
            have hA := PT.frame_of (A := A) (n := 96) hS.size
            have hd : A.defers = [] := hS.defers
            rw [hd] at hA
            obtain ⟨fr, hf⟩ : ∃ f, PB.slot A = f := ⟨_, rfl⟩
            rw [hf] at hA h_39 h_40 h_41 h_42 h_43 h_44 h_45 h_46 h_47 h_48 h_49 h_50 h_51 h_52 h_53 h_54 q_0 q_5 q_6 q_7 q_8 q_9
            rw [hA]
            clear hA hf hd hL hS
            simp only [List.range, List.range.loop, List.map_cons, List.map_nil, List.drop_succ_cons, List.drop_zero, h_39, h_40, h_41, h_42, h_43, h_44, h_45, h_46, h_47, h_48, h_49, h_50, h_51, h_52, h_53, h_54, q_0, q_5, q_6, q_7, q_8, q_9]
            clear h_39 h_40 h_41 h_42 h_43 h_44 h_45 h_46 h_47 h_48 h_49 h_50 h_51 h_52 h_53 h_54 q_0 q_5 q_6 q_7 q_8 q_9
            have HA5 : Hid (ThreeAt w (t1, t2) (u1, u2) (s1, s2) W) := HA4.out.on hB
            have HBR5 := hid' (HBR4.out.on hB)
            have c1 := HA5.out.b7.c1
            have c2 := HA5.out.b7.c2
            simp only at c1 c2
            clear hB
            go_wp2_with fail
            refine (HR2.out W HA5.out.below).mono ?_
            rintro e w5 ⟨_, rfl, hb5, rfl⟩
            have HA6 : Hid (ThreeAt w (t1, t2) (u1, u2) (s1, s2) (w5.alloc (.cells #[.int .i64 q1, .int .i64 q2] 32))) := (HA5.out.on hb5).on ((Below.refl _ w5).alloc (Nat.le_refl _) _)
            have HBR6 : Hid (Box (w5.alloc (.cells #[.int .i64 q1, .int .i64 q2] 32)) g9 (r1, r2)) := (HBR5.out.on hb5).alloc _
            have HBQ6 : Hid (Box (w5.alloc (.cells #[.int .i64 q1, .int .i64 q2] 32)) w5.heap.size (q1, q2)) := Box.new w5 (q1, q2)
            clear c1 c2 hb5 HA5 HBR5
            go_wp2
            go_loopg [11] n (fun k i wr => ∃ j : Nat, j + k = n ∧ i = .int .i64 (j : Int) ∧ Hid (ThreeAt w (t1, t2) (u1, u2) (s1, s2) wr) ∧ Hid (Box wr g9 (r1, r2)) ∧ Hid (Box wr w5.heap.size (q1, q2)))
            case atStart => exact ⟨0, by omega, rfl, HA6, HBR6, HBQ6⟩
            case round =>
              obtain ⟨j, hj, rfl, hat, HBRr, HBQr⟩ := hrel
              cases gk with
              | zero =>
                obtain rfl : j = n := by omega
                go_wp2_with fail
                by_cases hrq : (r1, r2) = (q1, q2)
                · have HSU : Hid (le2 (s1, s2) (u1, u2) = bt) := by unfold Hid; rw [HRS.out _ HADV.out, ← hrq]; exact HBRU.out
                  refine PT.wp_region_tail 16 (PB.phi [PB.E (.agg #[.int .i64 r1, .int .i64 r2]), PB.E (.agg #[.int .i64 q1, .int .i64 q2]), PB.E (.bool false), PB.E (.bool false), PB.E (.agg #[.int .i64 t1, .int .i64 t2]), PB.E (.agg #[.int .i64 u1, .int .i64 u2]), PB.E (.bool bt), PB.E (.agg #[.int .i64 s1, .int .i64 s2]), PB.E (.agg #[.int .i64 u1, .int .i64 u2]), PB.E (.bool bt), PB.E (.bool true), PB.E (.bool true), PB.E (.bool true), PB.E (.bool true), PB.E (.bool true), PB.E (.bool true)]) mixed (by kernel_rfl)
                    (PB.phi_lasts _ ⟨PB.E_lasts _, PB.E_lasts _, PB.E_lasts _, PB.E_lasts _, PB.E_lasts _, PB.E_lasts _, PB.E_lasts _, PB.E_lasts _, PB.E_lasts _, PB.E_lasts _, PB.E_lasts _, PB.E_lasts _, PB.E_lasts _, PB.E_lasts _, PB.E_lasts _, PB.E_lasts _, trivial⟩) ?_ ?_
                  · refine ⟨?_, ?_, ?_, ?_, ?_, ?_, ?_, ?_, ?_, ?_, ?_, ?_, ?_, ?_, ?_, ?_, trivial⟩ <;> intro A W hB hS hA hF
                    · exact Or.inl (PB.does_run (PB.wanted_free rfl) (run_box W (hS.slots 9 rfl) (HBRr.out.on hB)) rfl)
                    · exact Or.inl (PB.does_run (PB.wanted_free rfl) (run_box W (hS.slots 10 rfl) (HBQr.out.on hB)) rfl)
                    · exact Or.inl (PB.does_bin (PB.wanted_free rfl) rfl (hA 0 rfl) (hA 1 rfl) ((run_neT W (r1, r2) (q1, q2) _ _).trans (by rw [hrq]; simp)) rfl)
                    · exact Or.inl (PB.does_move (PB.wanted_free rfl) rfl (hA 2 rfl))
                    · exact Or.inl (PB.does_run (PB.wanted_by rfl rfl (hA 3 rfl)) (run_box W (hS.slots 5 rfl) (hat.out.b5.on hB)) rfl)
                    · exact Or.inl (PB.does_run (PB.wanted_by rfl rfl (hA 3 rfl)) (run_box W (hS.slots 6 rfl) (hat.out.b6.on hB)) rfl)
                    · exact Or.inl (PB.does_call #[.agg #[.int .i64 t1, .int .i64 t2], .agg #[.int .i64 u1, .int .i64 u2]] (PB.wanted_by rfl rfl (hA 3 rfl)) rfl Try.func27 rfl rfl (by show [PB.slot A 85, PB.slot A 86] = _; rw [show PB.slot A 85 = .agg #[.int .i64 t1, .int .i64 t2] from (hA 4 rfl), show PB.slot A 86 = .agg #[.int .i64 u1, .int .i64 u2] from (hA 5 rfl)]) (rle_is HBT.out W))
                    · exact Or.inl (PB.does_run (PB.wanted_by rfl rfl (hA 3 rfl)) (run_box W (hS.slots 7 rfl) (hat.out.b7.on hB)) rfl)
                    · exact Or.inl (PB.does_run (PB.wanted_by rfl rfl (hA 3 rfl)) (run_box W (hS.slots 6 rfl) (hat.out.b6.on hB)) rfl)
                    · exact Or.inl (PB.does_call #[.agg #[.int .i64 s1, .int .i64 s2], .agg #[.int .i64 u1, .int .i64 u2]] (PB.wanted_by rfl rfl (hA 3 rfl)) rfl Try.func27 rfl rfl (by show [PB.slot A 88, PB.slot A 89] = _; rw [show PB.slot A 88 = .agg #[.int .i64 s1, .int .i64 s2] from (hA 7 rfl), show PB.slot A 89 = .agg #[.int .i64 u1, .int .i64 u2] from (hA 8 rfl)]) (rle_is HSU.out W))
                    · exact Or.inl (PB.does_bin (PB.wanted_by rfl rfl (hA 3 rfl)) rfl (hA 6 rfl) (hA 9 rfl) ((run_eqB W _ _ _ _).trans (by simp)) rfl)
                    · exact Or.inl (PB.does_run (PB.wanted_free rfl) (run_pick_else W (hA 3 rfl) (hA 10 rfl)) rfl)
                    · exact Or.inl (PB.does_move (PB.wanted_free rfl) rfl (hA 11 rfl))
                    · exact Or.inl (PB.does_call #[] (PB.wanted_by rfl rfl (hA 12 rfl)) rfl Try.func10 rfl rfl rfl (live_newB W))
                    · exact Or.inl (PB.does_run (PB.wanted_free rfl) (run_pick_then W (hA 12 rfl) (hA 13 rfl)) rfl)
                    · exact Or.inl (PB.does_assign (PB.wanted_free rfl) rfl (hA 14 rfl))
                  · intro A W hB hS hL
                    have h_81 : PB.slot A 81 = .agg #[.int .i64 r1, .int .i64 r2] := hL 0 (by decide)
                    have h_82 : PB.slot A 82 = .agg #[.int .i64 q1, .int .i64 q2] := hL 1 (by decide)
                    have h_83 : PB.slot A 83 = .bool false := hL 2 (by decide)
                    have h_84 : PB.slot A 84 = .bool false := hL 3 (by decide)
                    have h_85 : PB.slot A 85 = .agg #[.int .i64 t1, .int .i64 t2] := hL 4 (by decide)
                    have h_86 : PB.slot A 86 = .agg #[.int .i64 u1, .int .i64 u2] := hL 5 (by decide)
                    have h_87 : PB.slot A 87 = .bool bt := hL 6 (by decide)
                    have h_88 : PB.slot A 88 = .agg #[.int .i64 s1, .int .i64 s2] := hL 7 (by decide)
                    have h_89 : PB.slot A 89 = .agg #[.int .i64 u1, .int .i64 u2] := hL 8 (by decide)
                    have h_90 : PB.slot A 90 = .bool bt := hL 9 (by decide)
                    have h_91 : PB.slot A 91 = .bool true := hL 10 (by decide)
                    have h_92 : PB.slot A 92 = .bool true := hL 11 (by decide)
                    have h_93 : PB.slot A 93 = .bool true := hL 12 (by decide)
                    have h_94 : PB.slot A 94 = .bool true := hL 13 (by decide)
                    have h_95 : PB.slot A 95 = .bool true := hL 14 (by decide)
                    have h_8 : PB.slot A 8 = .bool true := hL 15 (by decide)
                    have hA := PT.frame_of (A := A) (n := 96) hS.size
                    have hd : A.defers = [] := hS.defers
                    rw [hd] at hA
                    obtain ⟨fr, hf⟩ : ∃ f, PB.slot A = f := ⟨_, rfl⟩
                    rw [hf] at hA h_81 h_82 h_83 h_84 h_85 h_86 h_87 h_88 h_89 h_90 h_91 h_92 h_93 h_94 h_95 h_8
                    rw [hA]
                    clear hA hf hd hL hS
                    simp only [List.range, List.range.loop, List.map_cons, List.map_nil, List.drop_succ_cons, List.drop_zero, h_81, h_82, h_83, h_84, h_85, h_86, h_87, h_88, h_89, h_90, h_91, h_92, h_93, h_94, h_95, h_8]
                    clear h_81 h_82 h_83 h_84 h_85 h_86 h_87 h_88 h_89 h_90 h_91 h_92 h_93 h_94 h_95 h_8
                    go_wp2
                    go_ret
                    exact ⟨rfl, hat.out.below.trans (hB.mono hat.out.below.size)⟩
                · skip
                  refine PT.wp_region_tail 16 (PB.phi [PB.E (.agg #[.int .i64 r1, .int .i64 r2]), PB.E (.agg #[.int .i64 q1, .int .i64 q2]), PB.E (.bool true), PB.E (.bool true), PB.E undef, PB.E undef, PB.E undef, PB.E undef, PB.E undef, PB.E undef, PB.E undef, PB.E (.bool true), PB.E (.bool true), PB.E (.bool true), PB.E (.bool true), PB.E (.bool true)]) mixed (by kernel_rfl)
                    (PB.phi_lasts _ ⟨PB.E_lasts _, PB.E_lasts _, PB.E_lasts _, PB.E_lasts _, PB.E_lasts _, PB.E_lasts _, PB.E_lasts _, PB.E_lasts _, PB.E_lasts _, PB.E_lasts _, PB.E_lasts _, PB.E_lasts _, PB.E_lasts _, PB.E_lasts _, PB.E_lasts _, PB.E_lasts _, trivial⟩) ?_ ?_
                  · refine ⟨?_, ?_, ?_, ?_, ?_, ?_, ?_, ?_, ?_, ?_, ?_, ?_, ?_, ?_, ?_, ?_, trivial⟩ <;> intro A W hB hS hA hF
                    · exact Or.inl (PB.does_run (PB.wanted_free rfl) (run_box W (hS.slots 9 rfl) (HBRr.out.on hB)) rfl)
                    · exact Or.inl (PB.does_run (PB.wanted_free rfl) (run_box W (hS.slots 10 rfl) (HBQr.out.on hB)) rfl)
                    · exact Or.inl (PB.does_bin (PB.wanted_free rfl) rfl (hA 0 rfl) (hA 1 rfl) ((run_neT W (r1, r2) (q1, q2) _ _).trans (by rw [decide_eq_true hrq])) rfl)
                    · exact Or.inl (PB.does_move (PB.wanted_free rfl) rfl (hA 2 rfl))
                    · exact Or.inr ⟨PT.pass_by rfl rfl (hA 3 rfl) (by decide), rfl⟩
                    · exact Or.inr ⟨PT.pass_by rfl rfl (hA 3 rfl) (by decide), rfl⟩
                    · exact Or.inr ⟨PT.pass_by rfl rfl (hA 3 rfl) (by decide), rfl⟩
                    · exact Or.inr ⟨PT.pass_by rfl rfl (hA 3 rfl) (by decide), rfl⟩
                    · exact Or.inr ⟨PT.pass_by rfl rfl (hA 3 rfl) (by decide), rfl⟩
                    · exact Or.inr ⟨PT.pass_by rfl rfl (hA 3 rfl) (by decide), rfl⟩
                    · exact Or.inr ⟨PT.pass_by rfl rfl (hA 3 rfl) (by decide), rfl⟩
                    · exact Or.inl (PB.does_run (PB.wanted_free rfl) (run_pick_const W (hA 3 rfl)) rfl)
                    · exact Or.inl (PB.does_move (PB.wanted_free rfl) rfl (hA 11 rfl))
                    · exact Or.inl (PB.does_call #[] (PB.wanted_by rfl rfl (hA 12 rfl)) rfl Try.func10 rfl rfl rfl (live_newB W))
                    · exact Or.inl (PB.does_run (PB.wanted_free rfl) (run_pick_then W (hA 12 rfl) (hA 13 rfl)) rfl)
                    · exact Or.inl (PB.does_assign (PB.wanted_free rfl) rfl (hA 14 rfl))
                  · intro A W hB hS hL
                    have h_81 : PB.slot A 81 = .agg #[.int .i64 r1, .int .i64 r2] := hL 0 (by decide)
                    have h_82 : PB.slot A 82 = .agg #[.int .i64 q1, .int .i64 q2] := hL 1 (by decide)
                    have h_83 : PB.slot A 83 = .bool true := hL 2 (by decide)
                    have h_84 : PB.slot A 84 = .bool true := hL 3 (by decide)
                    have h_85 : PB.slot A 85 = undef := hL 4 (by decide)
                    have h_86 : PB.slot A 86 = undef := hL 5 (by decide)
                    have h_87 : PB.slot A 87 = undef := hL 6 (by decide)
                    have h_88 : PB.slot A 88 = undef := hL 7 (by decide)
                    have h_89 : PB.slot A 89 = undef := hL 8 (by decide)
                    have h_90 : PB.slot A 90 = undef := hL 9 (by decide)
                    have h_91 : PB.slot A 91 = undef := hL 10 (by decide)
                    have h_92 : PB.slot A 92 = .bool true := hL 11 (by decide)
                    have h_93 : PB.slot A 93 = .bool true := hL 12 (by decide)
                    have h_94 : PB.slot A 94 = .bool true := hL 13 (by decide)
                    have h_95 : PB.slot A 95 = .bool true := hL 14 (by decide)
                    have h_8 : PB.slot A 8 = .bool true := hL 15 (by decide)
                    have hA := PT.frame_of (A := A) (n := 96) hS.size
                    have hd : A.defers = [] := hS.defers
                    rw [hd] at hA
                    obtain ⟨fr, hf⟩ : ∃ f, PB.slot A = f := ⟨_, rfl⟩
                    rw [hf] at hA h_81 h_82 h_83 h_84 h_85 h_86 h_87 h_88 h_89 h_90 h_91 h_92 h_93 h_94 h_95 h_8
                    rw [hA]
                    clear hA hf hd hL hS
                    simp only [List.range, List.range.loop, List.map_cons, List.map_nil, List.drop_succ_cons, List.drop_zero, h_81, h_82, h_83, h_84, h_85, h_86, h_87, h_88, h_89, h_90, h_91, h_92, h_93, h_94, h_95, h_8]
                    clear h_81 h_82 h_83 h_84 h_85 h_86 h_87 h_88 h_89 h_90 h_91 h_92 h_93 h_94 h_95 h_8
                    go_wp2
                    go_ret
                    exact ⟨rfl, hat.out.below.trans (hB.mono hat.out.below.size)⟩
              | succ k =>
                have hjl : j < l.length := by rw [HN.out]; omega
                obtain ⟨a', cap', e1, hcap, hsl, hts⟩ := HL.out
                simp at e1
                obtain ⟨rfl, -, rfl⟩ := e1
                obtain ⟨b, off, rfl, hBb, hc⟩ := hts.cells (by rintro rfl; simp at hjl)
                have HX : Hid (w.cell? ⟨b, off + j * 2, none⟩ = some (.int .i64 (l.getD j (0, 0)).1) ∧ w.cell? ⟨b, off + j * 2 + 1, none⟩ = some (.int .i64 (l.getD j (0, 0)).2)) := hc j hjl
                have hjn : j < n := by omega
                have HXA := hid' (HRA.out _ (HAX.out _ (getD_mem hjl)))
                generalize l.getD j (0, 0) = x at HX HXA
                obtain ⟨x1, x2⟩ := x
                obtain ⟨⟨z1, z2⟩, hz⟩ : ∃ z, joinT (x1, x2) (s1, s2) = z := ⟨_, rfl⟩
                have HZ := hid' hz
                rw [hz] at HXA
                obtain ⟨zb, hzb⟩ : ∃ zb, le2 (t1, t2) (z1, z2) = zb := ⟨_, rfl⟩
                have HZT := hid' hzb
                have HZR : Hid (le2 (r1, r2) (z1, z2) = zb) := by unfold Hid; rw [← HXA.out.1]; exact hzb
                simp only at HX
                clear hc hts hsl hcap hjl hz hzb HXA
                go_wp2_with fail
                refine PT.wp_region_tail 17 (PB.phi [PB.E (.agg #[.int .i64 t1, .int .i64 t2]), PB.E (.slice (some ⟨b, off, none⟩) n cap), PB.E (.int .i64 (j : Int)), PB.E (.pointer (some ⟨b, off + j * 2, none⟩)), PB.E (.agg #[.int .i64 x1, .int .i64 x2]), PB.E (.agg #[.int .i64 s1, .int .i64 s2]), PB.E (.agg #[.int .i64 z1, .int .i64 z2]), PB.E (.bool zb), PB.E (.agg #[.int .i64 r1, .int .i64 r2]), PB.E (.slice (some ⟨b, off, none⟩) n cap), PB.E (.int .i64 (j : Int)), PB.E (.pointer (some ⟨b, off + j * 2, none⟩)), PB.E (.agg #[.int .i64 x1, .int .i64 x2]), PB.E (.agg #[.int .i64 s1, .int .i64 s2]), PB.E (.agg #[.int .i64 z1, .int .i64 z2]), PB.E (.bool zb), PB.E (.bool false)]) mixed (by kernel_rfl)
                  (PB.phi_lasts _ ⟨PB.E_lasts _, PB.E_lasts _, PB.E_lasts _, PB.E_lasts _, PB.E_lasts _, PB.E_lasts _, PB.E_lasts _, PB.E_lasts _, PB.E_lasts _, PB.E_lasts _, PB.E_lasts _, PB.E_lasts _, PB.E_lasts _, PB.E_lasts _, PB.E_lasts _, PB.E_lasts _, PB.E_lasts _, trivial⟩) ?_ ?_
                · refine ⟨?_, ?_, ?_, ?_, ?_, ?_, ?_, ?_, ?_, ?_, ?_, ?_, ?_, ?_, ?_, ?_, ?_, trivial⟩ <;> intro A W hB hS hA hF
                  · exact Or.inl (PB.does_run (PB.wanted_free rfl) (run_box W (hS.slots 5 rfl) (hat.out.b5.on hB)) rfl)
                  · exact Or.inl (PB.does_move (PB.wanted_free rfl) rfl (hS.slots 0 rfl))
                  · exact Or.inl (PB.does_move (PB.wanted_free rfl) rfl (hS.slots 11 rfl))
                  · exact Or.inl (PB.does_run (PB.wanted_free rfl) (run_index W (hA 1 rfl) (hA 2 rfl) hjn hl) rfl)
                  · exact Or.inl (PB.does_run (PB.wanted_free rfl) (run_load W (hA 3 rfl) (((hat.out.below.trans (hB.mono hat.out.below.size)).cell (p := ⟨b, off + j * 2, none⟩) hBb).trans HX.out.1) (((hat.out.below.trans (hB.mono hat.out.below.size)).cell (p := ⟨b, off + j * 2 + 1, none⟩) hBb).trans HX.out.2)) rfl)
                  · exact Or.inl (PB.does_run (PB.wanted_free rfl) (run_box W (hS.slots 7 rfl) (hat.out.b7.on hB)) rfl)
                  · exact Or.inl (PB.does_call #[.agg #[.int .i64 x1, .int .i64 x2], .agg #[.int .i64 s1, .int .i64 s2]] (PB.wanted_free rfl) rfl Try.func28 rfl rfl (by show [PB.slot A 68, PB.slot A 69] = _; rw [show PB.slot A 68 = .agg #[.int .i64 x1, .int .i64 x2] from (hA 4 rfl), show PB.slot A 69 = .agg #[.int .i64 s1, .int .i64 s2] from (hA 5 rfl)]) (rjoin_is HZ.out W))
                  · exact Or.inl (PB.does_call #[.agg #[.int .i64 t1, .int .i64 t2], .agg #[.int .i64 z1, .int .i64 z2]] (PB.wanted_free rfl) rfl Try.func27 rfl rfl (by show [PB.slot A 64, PB.slot A 70] = _; rw [show PB.slot A 64 = .agg #[.int .i64 t1, .int .i64 t2] from (hA 0 rfl), show PB.slot A 70 = .agg #[.int .i64 z1, .int .i64 z2] from (hA 6 rfl)]) (rle_is HZT.out W))
                  · exact Or.inl (PB.does_run (PB.wanted_free rfl) (run_box W (hS.slots 9 rfl) (HBRr.out.on hB)) rfl)
                  · exact Or.inl (PB.does_move (PB.wanted_free rfl) rfl (hS.slots 0 rfl))
                  · exact Or.inl (PB.does_move (PB.wanted_free rfl) rfl (hS.slots 11 rfl))
                  · exact Or.inl (PB.does_run (PB.wanted_free rfl) (run_index W (hA 9 rfl) (hA 10 rfl) hjn hl) rfl)
                  · exact Or.inl (PB.does_run (PB.wanted_free rfl) (run_load W (hA 11 rfl) (((hat.out.below.trans (hB.mono hat.out.below.size)).cell (p := ⟨b, off + j * 2, none⟩) hBb).trans HX.out.1) (((hat.out.below.trans (hB.mono hat.out.below.size)).cell (p := ⟨b, off + j * 2 + 1, none⟩) hBb).trans HX.out.2)) rfl)
                  · exact Or.inl (PB.does_run (PB.wanted_free rfl) (run_box W (hS.slots 7 rfl) (hat.out.b7.on hB)) rfl)
                  · exact Or.inl (PB.does_call #[.agg #[.int .i64 x1, .int .i64 x2], .agg #[.int .i64 s1, .int .i64 s2]] (PB.wanted_free rfl) rfl Try.func28 rfl rfl (by show [PB.slot A 76, PB.slot A 77] = _; rw [show PB.slot A 76 = .agg #[.int .i64 x1, .int .i64 x2] from (hA 12 rfl), show PB.slot A 77 = .agg #[.int .i64 s1, .int .i64 s2] from (hA 13 rfl)]) (rjoin_is HZ.out W))
                  · exact Or.inl (PB.does_call #[.agg #[.int .i64 r1, .int .i64 r2], .agg #[.int .i64 z1, .int .i64 z2]] (PB.wanted_free rfl) rfl Try.func27 rfl rfl (by show [PB.slot A 72, PB.slot A 78] = _; rw [show PB.slot A 72 = .agg #[.int .i64 r1, .int .i64 r2] from (hA 8 rfl), show PB.slot A 78 = .agg #[.int .i64 z1, .int .i64 z2] from (hA 14 rfl)]) (rle_is HZR.out W))
                  · exact Or.inl (PB.does_bin (PB.wanted_free rfl) rfl (hA 7 rfl) (hA 15 rfl) ((run_neB W _ _ _ _).trans (by simp)) rfl)
                · intro A W hB hS hL
                  have h_64 : PB.slot A 64 = .agg #[.int .i64 t1, .int .i64 t2] := hL 0 (by decide)
                  have h_65 : PB.slot A 65 = .slice (some ⟨b, off, none⟩) n cap := hL 1 (by decide)
                  have h_66 : PB.slot A 66 = .int .i64 (j : Int) := hL 2 (by decide)
                  have h_67 : PB.slot A 67 = .pointer (some ⟨b, off + j * 2, none⟩) := hL 3 (by decide)
                  have h_68 : PB.slot A 68 = .agg #[.int .i64 x1, .int .i64 x2] := hL 4 (by decide)
                  have h_69 : PB.slot A 69 = .agg #[.int .i64 s1, .int .i64 s2] := hL 5 (by decide)
                  have h_70 : PB.slot A 70 = .agg #[.int .i64 z1, .int .i64 z2] := hL 6 (by decide)
                  have h_71 : PB.slot A 71 = .bool zb := hL 7 (by decide)
                  have h_72 : PB.slot A 72 = .agg #[.int .i64 r1, .int .i64 r2] := hL 8 (by decide)
                  have h_73 : PB.slot A 73 = .slice (some ⟨b, off, none⟩) n cap := hL 9 (by decide)
                  have h_74 : PB.slot A 74 = .int .i64 (j : Int) := hL 10 (by decide)
                  have h_75 : PB.slot A 75 = .pointer (some ⟨b, off + j * 2, none⟩) := hL 11 (by decide)
                  have h_76 : PB.slot A 76 = .agg #[.int .i64 x1, .int .i64 x2] := hL 12 (by decide)
                  have h_77 : PB.slot A 77 = .agg #[.int .i64 s1, .int .i64 s2] := hL 13 (by decide)
                  have h_78 : PB.slot A 78 = .agg #[.int .i64 z1, .int .i64 z2] := hL 14 (by decide)
                  have h_79 : PB.slot A 79 = .bool zb := hL 15 (by decide)
                  have h_80 : PB.slot A 80 = .bool false := hL 16 (by decide)
                  have q_0 : PB.slot A 0 = .slice (some ⟨b, off, none⟩) n cap := hS.slots 0 rfl
                  have q_5 : PB.slot A 5 = .pointer (some ⟨w.heap.size, 0, none⟩) := hS.slots 5 rfl
                  have q_6 : PB.slot A 6 = .pointer (some ⟨w.heap.size + 1, 0, none⟩) := hS.slots 6 rfl
                  have q_7 : PB.slot A 7 = .pointer (some ⟨w.heap.size + 1 + 1, 0, none⟩) := hS.slots 7 rfl
                  have q_9 : PB.slot A 9 = .pointer (some ⟨g9, 0, none⟩) := hS.slots 9 rfl
                  have q_10 : PB.slot A 10 = .pointer (some ⟨w5.heap.size, 0, none⟩) := hS.slots 10 rfl
                  have q_11 : PB.slot A 11 = .int .i64 (j : Int) := hS.slots 11 rfl
                  have q_1 := hS.slots 1 rfl
                  have q_2 := hS.slots 2 rfl
                  have q_3 := hS.slots 3 rfl
                  have q_4 := hS.slots 4 rfl
                  have q_8 := hS.slots 8 rfl
                  have q_12 := hS.slots 12 rfl
                  have q_13 := hS.slots 13 rfl
                  have q_14 := hS.slots 14 rfl
                  have q_15 := hS.slots 15 rfl
                  have q_16 := hS.slots 16 rfl
                  have q_17 := hS.slots 17 rfl
                  have q_18 := hS.slots 18 rfl
                  have q_19 := hS.slots 19 rfl
                  have q_20 := hS.slots 20 rfl
                  have q_21 := hS.slots 21 rfl
                  have q_22 := hS.slots 22 rfl
                  have q_23 := hS.slots 23 rfl
                  have q_24 := hS.slots 24 rfl
                  have q_25 := hS.slots 25 rfl
                  have q_26 := hS.slots 26 rfl
                  have q_27 := hS.slots 27 rfl
                  have q_28 := hS.slots 28 rfl
                  have q_29 := hS.slots 29 rfl
                  have q_30 := hS.slots 30 rfl
                  have q_31 := hS.slots 31 rfl
                  have q_32 := hS.slots 32 rfl
                  have q_33 := hS.slots 33 rfl
                  have q_34 := hS.slots 34 rfl
                  have q_35 := hS.slots 35 rfl
                  have q_36 := hS.slots 36 rfl
                  have q_37 := hS.slots 37 rfl
                  have q_38 := hS.slots 38 rfl
                  have q_39 := hS.slots 39 rfl
                  have q_40 := hS.slots 40 rfl
                  have q_41 := hS.slots 41 rfl
                  have q_42 := hS.slots 42 rfl
                  have q_43 := hS.slots 43 rfl
                  have q_44 := hS.slots 44 rfl
                  have q_45 := hS.slots 45 rfl
                  have q_46 := hS.slots 46 rfl
                  have q_47 := hS.slots 47 rfl
                  have q_48 := hS.slots 48 rfl
                  have q_49 := hS.slots 49 rfl
                  have q_50 := hS.slots 50 rfl
                  have q_51 := hS.slots 51 rfl
                  have q_52 := hS.slots 52 rfl
                  have q_53 := hS.slots 53 rfl
                  have q_54 := hS.slots 54 rfl
                  have q_55 := hS.slots 55 rfl
                  have q_56 := hS.slots 56 rfl
                  have q_57 := hS.slots 57 rfl
                  have q_58 := hS.slots 58 rfl
                  have q_59 := hS.slots 59 rfl
                  have q_60 := hS.slots 60 rfl
                  have q_61 := hS.slots 61 rfl
                  have q_62 := hS.slots 62 rfl
                  have q_63 := hS.slots 63 rfl
                  have q_81 := hS.slots 81 rfl
                  have q_82 := hS.slots 82 rfl
                  have q_83 := hS.slots 83 rfl
                  have q_84 := hS.slots 84 rfl
                  have q_85 := hS.slots 85 rfl
                  have q_86 := hS.slots 86 rfl
                  have q_87 := hS.slots 87 rfl
                  have q_88 := hS.slots 88 rfl
                  have q_89 := hS.slots 89 rfl
                  have q_90 := hS.slots 90 rfl
                  have q_91 := hS.slots 91 rfl
                  have q_92 := hS.slots 92 rfl
                  have q_93 := hS.slots 93 rfl
                  have q_94 := hS.slots 94 rfl
                  have q_95 := hS.slots 95 rfl
                  simp only [PB.slot, Array.getD_eq_getD_getElem?, List.getElem?_toArray, List.getElem?_cons_succ, List.getElem?_cons_zero, Option.getD_some] at q_1 q_2 q_3 q_4 q_8 q_12 q_13 q_14 q_15 q_16 q_17 q_18 q_19 q_20 q_21 q_22 q_23 q_24 q_25 q_26 q_27 q_28 q_29 q_30 q_31 q_32 q_33 q_34 q_35 q_36 q_37 q_38 q_39 q_40 q_41 q_42 q_43 q_44 q_45 q_46 q_47 q_48 q_49 q_50 q_51 q_52 q_53 q_54 q_55 q_56 q_57 q_58 q_59 q_60 q_61 q_62 q_63 q_81 q_82 q_83 q_84 q_85 q_86 q_87 q_88 q_89 q_90 q_91 q_92 q_93 q_94 q_95
                  have q_1 := (PT.slot_get A 1).trans q_1
                  have q_2 := (PT.slot_get A 2).trans q_2
                  have q_3 := (PT.slot_get A 3).trans q_3
                  have q_4 := (PT.slot_get A 4).trans q_4
                  have q_8 := (PT.slot_get A 8).trans q_8
                  have q_12 := (PT.slot_get A 12).trans q_12
                  have q_13 := (PT.slot_get A 13).trans q_13
                  have q_14 := (PT.slot_get A 14).trans q_14
                  have q_15 := (PT.slot_get A 15).trans q_15
                  have q_16 := (PT.slot_get A 16).trans q_16
                  have q_17 := (PT.slot_get A 17).trans q_17
                  have q_18 := (PT.slot_get A 18).trans q_18
                  have q_19 := (PT.slot_get A 19).trans q_19
                  have q_20 := (PT.slot_get A 20).trans q_20
                  have q_21 := (PT.slot_get A 21).trans q_21
                  have q_22 := (PT.slot_get A 22).trans q_22
                  have q_23 := (PT.slot_get A 23).trans q_23
                  have q_24 := (PT.slot_get A 24).trans q_24
                  have q_25 := (PT.slot_get A 25).trans q_25
                  have q_26 := (PT.slot_get A 26).trans q_26
                  have q_27 := (PT.slot_get A 27).trans q_27
                  have q_28 := (PT.slot_get A 28).trans q_28
                  have q_29 := (PT.slot_get A 29).trans q_29
                  have q_30 := (PT.slot_get A 30).trans q_30
                  have q_31 := (PT.slot_get A 31).trans q_31
                  have q_32 := (PT.slot_get A 32).trans q_32
                  have q_33 := (PT.slot_get A 33).trans q_33
                  have q_34 := (PT.slot_get A 34).trans q_34
                  have q_35 := (PT.slot_get A 35).trans q_35
                  have q_36 := (PT.slot_get A 36).trans q_36
                  have q_37 := (PT.slot_get A 37).trans q_37
                  have q_38 := (PT.slot_get A 38).trans q_38
                  have q_39 := (PT.slot_get A 39).trans q_39
                  have q_40 := (PT.slot_get A 40).trans q_40
                  have q_41 := (PT.slot_get A 41).trans q_41
                  have q_42 := (PT.slot_get A 42).trans q_42
                  have q_43 := (PT.slot_get A 43).trans q_43
                  have q_44 := (PT.slot_get A 44).trans q_44
                  have q_45 := (PT.slot_get A 45).trans q_45
                  have q_46 := (PT.slot_get A 46).trans q_46
                  have q_47 := (PT.slot_get A 47).trans q_47
                  have q_48 := (PT.slot_get A 48).trans q_48
                  have q_49 := (PT.slot_get A 49).trans q_49
                  have q_50 := (PT.slot_get A 50).trans q_50
                  have q_51 := (PT.slot_get A 51).trans q_51
                  have q_52 := (PT.slot_get A 52).trans q_52
                  have q_53 := (PT.slot_get A 53).trans q_53
                  have q_54 := (PT.slot_get A 54).trans q_54
                  have q_55 := (PT.slot_get A 55).trans q_55
                  have q_56 := (PT.slot_get A 56).trans q_56
                  have q_57 := (PT.slot_get A 57).trans q_57
                  have q_58 := (PT.slot_get A 58).trans q_58
                  have q_59 := (PT.slot_get A 59).trans q_59
                  have q_60 := (PT.slot_get A 60).trans q_60
                  have q_61 := (PT.slot_get A 61).trans q_61
                  have q_62 := (PT.slot_get A 62).trans q_62
                  have q_63 := (PT.slot_get A 63).trans q_63
                  have q_81 := (PT.slot_get A 81).trans q_81
                  have q_82 := (PT.slot_get A 82).trans q_82
                  have q_83 := (PT.slot_get A 83).trans q_83
                  have q_84 := (PT.slot_get A 84).trans q_84
                  have q_85 := (PT.slot_get A 85).trans q_85
                  have q_86 := (PT.slot_get A 86).trans q_86
                  have q_87 := (PT.slot_get A 87).trans q_87
                  have q_88 := (PT.slot_get A 88).trans q_88
                  have q_89 := (PT.slot_get A 89).trans q_89
                  have q_90 := (PT.slot_get A 90).trans q_90
                  have q_91 := (PT.slot_get A 91).trans q_91
                  have q_92 := (PT.slot_get A 92).trans q_92
                  have q_93 := (PT.slot_get A 93).trans q_93
                  have q_94 := (PT.slot_get A 94).trans q_94
                  have q_95 := (PT.slot_get A 95).trans q_95
                  have hA := PT.frame_of (A := A) (n := 96) hS.size
                  have hd : A.defers = [] := hS.defers
                  rw [hd] at hA
                  obtain ⟨fr, hf⟩ : ∃ f, PB.slot A = f := ⟨_, rfl⟩
                  rw [hf] at hA h_64 h_65 h_66 h_67 h_68 h_69 h_70 h_71 h_72 h_73 h_74 h_75 h_76 h_77 h_78 h_79 h_80 q_0 q_5 q_6 q_7 q_9 q_10 q_11 q_1 q_2 q_3 q_4 q_8 q_12 q_13 q_14 q_15 q_16 q_17 q_18 q_19 q_20 q_21 q_22 q_23 q_24 q_25 q_26 q_27 q_28 q_29 q_30 q_31 q_32 q_33 q_34 q_35 q_36 q_37 q_38 q_39 q_40 q_41 q_42 q_43 q_44 q_45 q_46 q_47 q_48 q_49 q_50 q_51 q_52 q_53 q_54 q_55 q_56 q_57 q_58 q_59 q_60 q_61 q_62 q_63 q_81 q_82 q_83 q_84 q_85 q_86 q_87 q_88 q_89 q_90 q_91 q_92 q_93 q_94 q_95
                  rw [hA]
                  clear hA hf hd hL hS
                  simp only [List.range, List.range.loop, List.map_cons, List.map_nil, List.drop_succ_cons, List.drop_zero, h_64, h_65, h_66, h_67, h_68, h_69, h_70, h_71, h_72, h_73, h_74, h_75, h_76, h_77, h_78, h_79, h_80, q_0, q_5, q_6, q_7, q_9, q_10, q_11, q_1, q_2, q_3, q_4, q_8, q_12, q_13, q_14, q_15, q_16, q_17, q_18, q_19, q_20, q_21, q_22, q_23, q_24, q_25, q_26, q_27, q_28, q_29, q_30, q_31, q_32, q_33, q_34, q_35, q_36, q_37, q_38, q_39, q_40, q_41, q_42, q_43, q_44, q_45, q_46, q_47, q_48, q_49, q_50, q_51, q_52, q_53, q_54, q_55, q_56, q_57, q_58, q_59, q_60, q_61, q_62, q_63, q_81, q_82, q_83, q_84, q_85, q_86, q_87, q_88, q_89, q_90, q_91, q_92, q_93, q_94, q_95]
                  clear h_64 h_65 h_66 h_67 h_68 h_69 h_70 h_71 h_72 h_73 h_74 h_75 h_76 h_77 h_78 h_79 h_80 q_0 q_5 q_6 q_7 q_9 q_10 q_11 q_1 q_2 q_3 q_4 q_8 q_12 q_13 q_14 q_15 q_16 q_17 q_18 q_19 q_20 q_21 q_22 q_23 q_24 q_25 q_26 q_27 q_28 q_29 q_30 q_31 q_32 q_33 q_34 q_35 q_36 q_37 q_38 q_39 q_40 q_41 q_42 q_43 q_44 q_45 q_46 q_47 q_48 q_49 q_50 q_51 q_52 q_53 q_54 q_55 q_56 q_57 q_58 q_59 q_60 q_61 q_62 q_63 q_81 q_82 q_83 q_84 q_85 q_86 q_87 q_88 q_89 q_90 q_91 q_92 q_93 q_94 q_95
                  have hAt : Hid (ThreeAt w (t1, t2) (u1, u2) (s1, s2) W) := hat.out.on hB
                  have hBr := hid' (HBRr.out.on hB)
                  have hBq := hid' (HBQr.out.on hB)
                  go_wp2
                  go_roundg k
                  case measure => omega
                  case rel => exact ⟨j + 1, by omega, by simp, hAt, hBr, hBq⟩

end Go.Proofs.Ytaadbjnfnmjkfaa
