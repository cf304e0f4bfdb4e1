/-
  What is proved here: the reader's command reads the command that the bytes tell.
-/
import Derived.Test.YtgalmkhgbokidaaWO
namespace Go.Proofs.Ytgalmkhgbokidaa
open Go.RowKit Go.Proofs
set_option maxRecDepth 20000
set_option linter.unusedVariables false
set_option linter.unusedSimpArgs false

/-- The end: the command's variable is loaded and laid into the result. -/
structure CE (w : World) (g R C : Nat) (ba : Option Addr) (cap : Nat) (l : List Int) (c : Cm) (s : CmS) (st : Option (List Int)) (W : World) : Prop where
  cs : CS w g R C ba cap l c s st W

theorem cmR1 (P : Nat → Prop) (w : World) (op : Int) : CmR P w ⟨op, 0, [], (0, 0), 0, [], 0, []⟩ s0 := cmR0 P w op 0 (0, 0) 0 0

theorem CS.start {w w1 : World} {g : Nat} {ba : Option Addr} {cap : Nat} {l : List Int} {st : Option (List Int)} (d : Int) (hg : g < w.heap.size) (hbut : But g (w.alloc (.cells (cmA c0 s0) 31)) w1) (hrd : RdS w1 g ba cap l st) :
    CS w g w.heap.size w1.heap.size ba cap l ⟨d, 0, [], (0, 0), 0, [], 0, []⟩ s0 st (w1.alloc (.cells (cmA ⟨d, 0, [], (0, 0), 0, [], 0, []⟩ s0) 31)) :=
  have hb0 : But g w (w.alloc (.cells (cmA c0 s0) 31)) := But.of_below ((Below.refl _ _).alloc (Nat.le_refl _) _)
  have hs : w.heap.size < w1.heap.size := by
    have := hbut.size
    rw [World.size_alloc] at this
    omega
  have hA : Below w1.heap.size w1 (w1.alloc (.cells (cmA ⟨d, 0, [], (0, 0), 0, [], 0, []⟩ s0) 31)) := (Below.refl _ _).alloc (Nat.le_refl _) _
  ⟨(hb0.trans hbut).trans (But.of_below hA), ((Bx.new w _ _).but hbut (by omega)).keep hA, Bx.new _ _ _, hrd.on hA, cmR1 _ _ _, Nat.le_refl _, by omega, hg, by omega⟩

set_option maxHeartbeats 8000000 in
theorem command_bad (w : World) (g : Nat) (ba : Option Addr) (cap : Nat) (l : List Int) (s : Option (List Int)) (hr : RdS w g ba cap l s) (hb : Bts g w ba l) (hc : l.length ≤ cap) (hl : l.length ≤ 1000000000) (hs : ∀ d s1, Rd doB DO s d s1 → s1 = none) :
    Calls Try.prog 40 #[.pointer (some ⟨g, 0, none⟩)] w (RdAns cmdB Nice (RepC (g + 1)) w g ba cap l s) := by
  have hgl := hr.lt
  have BA : Below w.heap.size w (w.alloc (.cells (cmA c0 s0) 31)) := (Below.refl _ _).alloc (Nat.le_refl _) _
  have H1 := hid' (takeDo_any _ g ba cap l s (hr.on BA) (hb.keep (BA.mono (Nat.le_of_lt hgl))) hl)
  have HB := hid' hb
  have HGL := hid' hgl
  have HS := hid' hs
  unfold cmA c0 s0 at H1
  simp only [List.length_nil] at H1
  clear hr hb BA hs
  go_enter Try.func40, Try.ntmps40
  go_wp2_with fail
  refine H1.out.mono ?_
  rintro e w1 ⟨x, v, s1, rfl, hv, hrd1, hrs1, hbut1⟩
  unfold RepI at hv
  subst hv
  clear H1
  have hs1 : s1 = none := HS.out x s1 hrd1
  subst hs1
  have CS0 := CS.start x HGL.out hbut1 hrs1
  obtain ⟨at', _, ⟨r, hbad, _⟩ | ⟨_, hrb⟩⟩ := hrs1
  · cases hbad
  have hbc : (w1.alloc (.cells (cmA ⟨x, 0, [], (0, 0), 0, [], 0, []⟩ s0) 31)).cell? ⟨g, 2, none⟩ = some (.bool true) := (hrb.keep ((Below.refl _ _).alloc (Nat.le_refl _) _)).cell 2
  obtain ⟨h1, h2, h3, h4⟩ := CS0.done
  have HZ : Hid (RdAns cmdB Nice (RepC (g + 1)) w g ba cap l s (.returned (cmV ⟨x, 0, [], (0, 0), 0, [], 0, []⟩ s0)) (set9 (w1.alloc (.cells (cmA ⟨x, 0, [], (0, 0), 0, [], 0, []⟩ s0) 31)) w.heap.size ⟨x, 0, [], (0, 0), 0, [], 0, []⟩ s0)) := ⟨_, _, none, rfl, h1, Rd.cmd hrd1 (fun h => absurd rfl h) (fun _ => rfl), h2, h3⟩
  obtain ⟨r0, r1, r2, r3, r4, r5, r6, r7, r8⟩ := cm_cells CS0.res
  have f := fun i => CS0.res.frozen i
  have f0 := f 0
  have f1 := f 1
  have f2 := f 2
  have f3 := f 3
  have f4 := f 4
  have f5 := f 5
  have f6 := f 6
  have f7 := f 7
  have f8 := f 8
  obtain ⟨t0, t1, t2, t3, t4, t5, t6, t7, t8⟩ := cm_cells h4
  unfold set9 at HZ t0 t1 t2 t3 t4 t5 t6 t7 t8
  unfold cmV at HZ
  unfold cmA s0 at HZ hbc r0 r1 r2 r3 r4 r5 r6 r7 r8 f0 f1 f2 f3 f4 f5 f6 f7 f8 t0 t1 t2 t3 t4 t5 t6 t7 t8
  unfold c0 at r0 r1 r2 r3 r4 r5 r6 r7 r8
  simp only [List.length_nil] at HZ hbc r0 r1 r2 r3 r4 r5 r6 r7 r8 f0 f1 f2 f3 f4 f5 f6 f7 f8 t0 t1 t2 t3 t4 t5 t6 t7 t8
  clear CS0 h1 h2 h3 h4 hrd1 hbut1 hrb HS HB f
  go_wp2
  refine bodyPost_ret (v := .agg #[.int .i64 x, .int .i64 0, .slice none 0 0, .int .i64 0, .int .i64 0, .int .i64 0, .slice none 0 0, .int .i64 0, .slice none 0 0]) ?_ rfl HZ.out
  unfold results
  go_simp

set_option maxHeartbeats 8000000 in
theorem command0 (w : World) (g : Nat) (ba : Option Addr) (cap : Nat) (l : List Int) (s : Option (List Int)) (hr : RdS w g ba cap l s) (hb : Bts g w ba l) (hc : l.length ≤ cap) (hl : l.length ≤ 1000000000) (t : List Int) (hs : s = some (0 :: t)) :
    Calls Try.prog 40 #[.pointer (some ⟨g, 0, none⟩)] w (RdAns cmdB Nice (RepC (g + 1)) w g ba cap l s) := by
  have hgl := hr.lt
  have BA : Below w.heap.size w (w.alloc (.cells (cmA c0 s0) 31)) := (Below.refl _ _).alloc (Nat.le_refl _) _
  have H1 := hid' (takeDo_any _ g ba cap l s (hr.on BA) (hb.keep (BA.mono (Nat.le_of_lt hgl))) hl)
  have HB := hid' hb
  have HGL := hid' hgl
  have HS := hid' hs
  unfold cmA c0 s0 at H1
  simp only [List.length_nil] at H1
  clear hr hb BA hs
  go_enter Try.func40, Try.ntmps40
  go_wp2_with fail
  refine H1.out.mono ?_
  rintro e w1 ⟨x, v, s1, rfl, hv, hrd1, hrs1, hbut1⟩
  unfold RepI at hv
  subst hv
  clear H1
  obtain ⟨hx, hs1⟩ : x = 0 ∧ s1 = some t := by
    have e := HS.out
    subst e
    cases s1 with
    | none => exact absurd rfl (hrd1 0 t (by unfold DO; omega))
    | some r1 =>
      have := hrd1.2
      simp [doB] at this
      exact ⟨this.1.symm, by rw [this.2]⟩
  subst hx hs1
  have HR1 := hid' hrd1
  have CS0 := hid' (CS.start 0 HGL.out hbut1 hrs1)
  have hCl : g < w1.heap.size := by have := hbut1.size; rw [World.size_alloc] at this; omega
  obtain ⟨at', _, ⟨r, _, _, hrb⟩ | ⟨hbad, _⟩⟩ := hrs1
  case inr => cases hbad
  have hbc : (w1.alloc (.cells (cmA ⟨0, 0, [], (0, 0), 0, [], 0, []⟩ s0) 31)).cell? ⟨g, 2, none⟩ = some (.bool false) := (hrb.keep ((Below.refl _ _).alloc (Nat.le_refl _) _)).cell 2
  unfold cmA s0 at hbc CS0
  simp only [List.length_nil] at hbc CS0
  clear hrd1 hbut1 hrb
  go_wp2_with fail
  refine (usedBy_at 0 4 (by decide) _).mono ?_
  rintro e wx ⟨rfl, rfl⟩
  go_wp2_with fail
  refine (has_at 4 1 false (by decide) _).mono ?_
  rintro e wx ⟨rfl, rfl⟩
  go_wp2_with fail
  refine (has_at 4 2 false (by decide) _).mono ?_
  rintro e wx ⟨rfl, rfl⟩
  go_wp2_with fail
  refine (has_at 4 4 true (by decide) _).mono ?_
  rintro e wx ⟨rfl, rfl⟩
  go_wp2_with fail
  refine (takeSheet_any _ g ba cap l _ CS0.out.rd (CS0.out.bts HB.out) hc hl (w1.heap.size + 1) (by omega) (by have := CS0.out.bx.lt; omega)).mono ?_
  rintro e w2 ⟨x1, v, s2, rfl, hv, hrd2, hrs2, hbut2⟩
  obtain ⟨a1, c1, hv, hp1, hsh1, hby1⟩ := hv
  subst hv
  have HRC : Hid (w.heap.size < w1.heap.size) := by have := CS0.out.hC; have := CS0.out.hRC; unfold Hid; omega
  have CT1 := CS0.out.call hbut2 hrs2
  have h1 := CT1.cm
  have o1_8 := CT1.bx.cell 8
  have f1_8 := CT1.bx.frozen 8
  have HRD2 := hid' hrd2
  have CS1 : Hid (CS w g w.heap.size w1.heap.size ba cap l ⟨0, 0, [], (0, 0), 0, [], 0, x1⟩ ⟨none, 0, none, 0, a1, c1⟩ s2 (w2.setCell ⟨w1.heap.size, 8, none⟩ (.slice a1 x1.length c1))) := CT1.set (i := 8) (v := .slice a1 x1.length c1) (by simp [cmA]) (CmR.mk h1.row h1.front (SP.mono hp1 (fun k hk => by unfold Since at hk; have := HRC.out; omega)) hby1 h1.hr h1.hf hsh1)
  clear CT1 hrd2 hrs2 hbut2 h1 CS0 hp1 hsh1 HRC
  simp [cmA] at o1_8
  go_wp2_with fail
  refine (has_at 4 8 false (by decide) _).mono ?_
  rintro e wx ⟨rfl, rfl⟩
  go_wp2_with fail
  refine (has_at 4 16 false (by decide) _).mono ?_
  rintro e wx ⟨rfl, rfl⟩
  go_wp2_with fail
  refine (has_at 4 32 false (by decide) _).mono ?_
  rintro e wx ⟨rfl, rfl⟩
  go_wp2_with fail
  refine (has_at 4 64 false (by decide) _).mono ?_
  rintro e wx ⟨rfl, rfl⟩
  obtain ⟨h1, h2, h3, h4⟩ := CS1.out.done
  have HZ := hid' (⟨_, _, _, rfl, h1, Rd.cmd HR1.out (fun _ => rest0 HRD2.out) (fun h => by cases h), h2, h3⟩ : RdAns cmdB Nice (RepC (g + 1)) w g ba cap l s (.returned (cmV ⟨0, 0, [], (0, 0), 0, [], 0, x1⟩ ⟨none, 0, none, 0, a1, c1⟩)) _)
  obtain ⟨k0, k1, k2, k3, k4, k5, k6, k7, k8⟩ := cm_cells CS1.out.bx
  obtain ⟨r0, r1, r2, r3, r4, r5, r6, r7, r8⟩ := cm_cells CS1.out.res
  have f := fun i => CS1.out.res.frozen i
  have f0 := f 0
  have f1 := f 1
  have f2 := f 2
  have f3 := f 3
  have f4 := f 4
  have f5 := f 5
  have f6 := f 6
  have f7 := f 7
  have f8 := f 8
  obtain ⟨t0, t1, t2, t3, t4, t5, t6, t7, t8⟩ := cm_cells h4
  unfold set9 at HZ t0 t1 t2 t3 t4 t5 t6 t7 t8
  unfold cmV cmA at HZ
  simp only [c0, s0] at r0 r1 r2 r3 r4 r5 r6 r7 r8
  simp only [List.length_nil] at HZ k0 k1 k2 k3 k4 k5 k6 k7 k8 r0 r1 r2 r3 r4 r5 r6 r7 r8 t0 t1 t2 t3 t4 t5 t6 t7 t8
  clear h1 h2 h3 h4 HS HB f CS1 HR1 hbc
  go_wp2
  refine bodyPost_ret (v := .agg #[.int .i64 0, .int .i64 0, .slice none 0 0, .int .i64 0, .int .i64 0, .int .i64 0, .slice none 0 0, .int .i64 0, .slice a1 x1.length c1]) ?_ rfl HZ.out
  unfold results
  go_simp

set_option maxHeartbeats 8000000 in
theorem command1 (w : World) (g : Nat) (ba : Option Addr) (cap : Nat) (l : List Int) (s : Option (List Int)) (hr : RdS w g ba cap l s) (hb : Bts g w ba l) (hc : l.length ≤ cap) (hl : l.length ≤ 1000000000) (t : List Int) (hs : s = some (1 :: t)) :
    Calls Try.prog 40 #[.pointer (some ⟨g, 0, none⟩)] w (RdAns cmdB Nice (RepC (g + 1)) w g ba cap l s) := by
  have hgl := hr.lt
  have BA : Below w.heap.size w (w.alloc (.cells (cmA c0 s0) 31)) := (Below.refl _ _).alloc (Nat.le_refl _) _
  have H1 := hid' (takeDo_any _ g ba cap l s (hr.on BA) (hb.keep (BA.mono (Nat.le_of_lt hgl))) hl)
  have HB := hid' hb
  have HGL := hid' hgl
  have HS := hid' hs
  unfold cmA c0 s0 at H1
  simp only [List.length_nil] at H1
  clear hr hb BA hs
  go_enter Try.func40, Try.ntmps40
  go_wp2_with fail
  refine H1.out.mono ?_
  rintro e w1 ⟨x, v, s1, rfl, hv, hrd1, hrs1, hbut1⟩
  unfold RepI at hv
  subst hv
  clear H1
  obtain ⟨hx, hs1⟩ : x = 1 ∧ s1 = some t := by
    have e := HS.out
    subst e
    cases s1 with
    | none => exact absurd rfl (hrd1 1 t (by unfold DO; omega))
    | some r1 =>
      have := hrd1.2
      simp [doB] at this
      exact ⟨this.1.symm, by rw [this.2]⟩
  subst hx hs1
  have HR1 := hid' hrd1
  have CS0 := hid' (CS.start 1 HGL.out hbut1 hrs1)
  have hCl : g < w1.heap.size := by have := hbut1.size; rw [World.size_alloc] at this; omega
  obtain ⟨at', _, ⟨r, _, _, hrb⟩ | ⟨hbad, _⟩⟩ := hrs1
  case inr => cases hbad
  have hbc : (w1.alloc (.cells (cmA ⟨1, 0, [], (0, 0), 0, [], 0, []⟩ s0) 31)).cell? ⟨g, 2, none⟩ = some (.bool false) := (hrb.keep ((Below.refl _ _).alloc (Nat.le_refl _) _)).cell 2
  unfold cmA s0 at hbc CS0
  simp only [List.length_nil] at hbc CS0
  clear hrd1 hbut1 hrb
  go_wp2_with fail
  refine (usedBy_at 1 57 (by decide) _).mono ?_
  rintro e wx ⟨rfl, rfl⟩
  go_wp2_with fail
  refine (has_at 57 1 true (by decide) _).mono ?_
  rintro e wx ⟨rfl, rfl⟩
  go_wp2_with fail
  refine (takeInt_any _ g ba cap l _ CS0.out.rd (CS0.out.bts HB.out) hc hl).mono ?_
  rintro e w2 ⟨x1, v, s2, rfl, hv, hrd2, hrs2, hbut2⟩
  unfold RepI at hv
  subst hv
  have CT1 := CS0.out.call hbut2 hrs2
  have h1 := CT1.cm
  have o1_1 := CT1.bx.cell 1
  have f1_1 := CT1.bx.frozen 1
  have HRD2 := hid' hrd2
  have CS1 : Hid (CS w g w.heap.size w1.heap.size ba cap l ⟨1, x1, [], (0, 0), 0, [], 0, []⟩ ⟨none, 0, none, 0, none, 0⟩ s2 (w2.setCell ⟨w1.heap.size, 1, none⟩ (.int .i64 x1))) := CT1.set (i := 1) (v := .int .i64 x1) (by simp [cmA]) (CmR.mk h1.row h1.front h1.sheet h1.byt h1.hr h1.hf h1.hs)
  clear CT1 hrd2 hrs2 hbut2 h1 CS0
  simp [cmA] at o1_1
  go_wp2_with fail
  refine (has_at 57 2 false (by decide) _).mono ?_
  rintro e wx ⟨rfl, rfl⟩
  go_wp2_with fail
  refine (has_at 57 4 false (by decide) _).mono ?_
  rintro e wx ⟨rfl, rfl⟩
  go_wp2_with fail
  refine (has_at 57 8 true (by decide) _).mono ?_
  rintro e wx ⟨rfl, rfl⟩
  go_wp2_with fail
  refine (takeRow_any _ g ba cap l _ CS1.out.rd (CS1.out.bts HB.out) hc hl (w1.heap.size + 1) (by omega) (by have := CS1.out.bx.lt; omega)).mono ?_
  rintro e w3 ⟨x2, v, s3, rfl, hv, hrd3, hrs3, hbut3⟩
  obtain ⟨a2, c2, hv, hp2, hsh2⟩ := hv
  subst hv
  have HRC : Hid (w.heap.size < w1.heap.size) := by have := CS1.out.hC; have := CS1.out.hRC; unfold Hid; omega
  have CT2 := CS1.out.call hbut3 hrs3
  have h2 := CT2.cm
  have o2_2 := CT2.bx.cell 2
  have f2_2 := CT2.bx.frozen 2
  have HRD3 := hid' hrd3
  have CS2 : Hid (CS w g w.heap.size w1.heap.size ba cap l ⟨1, x1, x2, (0, 0), 0, [], 0, []⟩ ⟨a2, c2, none, 0, none, 0⟩ s3 (w3.setCell ⟨w1.heap.size, 2, none⟩ (.slice a2 x2.length c2))) := CT2.set (i := 2) (v := .slice a2 x2.length c2) (by simp [cmA]) (CmR.mk (SP.mono hp2 (fun k hk => by unfold Since at hk; have := HRC.out; omega)) h2.front h2.sheet h2.byt hsh2 h2.hf h2.hs)
  clear CT2 hrd3 hrs3 hbut3 h2 CS1 hp2 hsh2 HRC
  simp [cmA] at o2_2
  go_wp2_with fail
  refine (has_at 57 16 true (by decide) _).mono ?_
  rintro e wx ⟨rfl, rfl⟩
  go_wp2_with fail
  refine (time_any _ g ba cap l _ CS2.out.rd (CS2.out.bts HB.out) hc hl).mono ?_
  rintro e w4 ⟨x3, v, s4, rfl, hv, hrd4, hrs4, hbut4⟩
  unfold RepT at hv
  subst hv
  obtain ⟨xt3, xu3⟩ := x3
  have CT3 := CS2.out.call hbut4 hrs4
  have h3 := CT3.cm
  have o3_3 := CT3.bx.cell 3
  have f3_3 := CT3.bx.frozen 3
  have o3_4 := CT3.bx.cell 4
  have f3_4 := CT3.bx.frozen 4
  have HRD4 := hid' hrd4
  have CS3 : Hid (CS w g w.heap.size w1.heap.size ba cap l ⟨1, x1, x2, (xt3, xu3), 0, [], 0, []⟩ ⟨a2, c2, none, 0, none, 0⟩ s4 ((w4.setCell ⟨w1.heap.size, 3, none⟩ (.int .i64 xt3)).setCell ⟨w1.heap.size, 4, none⟩ (.int .i64 xu3))) := CT3.set2 (i := 3) (j := 4) (v := .int .i64 xt3) (u := .int .i64 xu3) (by simp [cmA]) (CmR.mk h3.row h3.front h3.sheet h3.byt h3.hr h3.hf h3.hs)
  clear CT3 hrd4 hrs4 hbut4 h3 CS2
  simp [cmA] at o3_3 o3_4
  go_wp2_with fail
  refine (has_at 57 32 true (by decide) _).mono ?_
  rintro e wx ⟨rfl, rfl⟩
  go_wp2_with fail
  refine (takeInt_any _ g ba cap l _ CS3.out.rd (CS3.out.bts HB.out) hc hl).mono ?_
  rintro e w5 ⟨x4, v, s5, rfl, hv, hrd5, hrs5, hbut5⟩
  unfold RepI at hv
  subst hv
  have CT4 := CS3.out.call hbut5 hrs5
  have h4 := CT4.cm
  have o4_5 := CT4.bx.cell 5
  have f4_5 := CT4.bx.frozen 5
  have HRD5 := hid' hrd5
  have CS4 : Hid (CS w g w.heap.size w1.heap.size ba cap l ⟨1, x1, x2, (xt3, xu3), x4, [], 0, []⟩ ⟨a2, c2, none, 0, none, 0⟩ s5 (w5.setCell ⟨w1.heap.size, 5, none⟩ (.int .i64 x4))) := CT4.set (i := 5) (v := .int .i64 x4) (by simp [cmA]) (CmR.mk h4.row h4.front h4.sheet h4.byt h4.hr h4.hf h4.hs)
  clear CT4 hrd5 hrs5 hbut5 h4 CS3
  simp [cmA] at o4_5
  go_wp2_with fail
  refine (has_at 57 64 false (by decide) _).mono ?_
  rintro e wx ⟨rfl, rfl⟩
  obtain ⟨h1, h2, h3, h4⟩ := CS4.out.done
  have HZ := hid' (⟨_, _, _, rfl, h1, Rd.cmd HR1.out (fun _ => rest1 HRD2.out HRD3.out HRD4.out HRD5.out) (fun h => by cases h), h2, h3⟩ : RdAns cmdB Nice (RepC (g + 1)) w g ba cap l s (.returned (cmV ⟨1, x1, x2, (xt3, xu3), x4, [], 0, []⟩ ⟨a2, c2, none, 0, none, 0⟩)) _)
  obtain ⟨k0, k1, k2, k3, k4, k5, k6, k7, k8⟩ := cm_cells CS4.out.bx
  obtain ⟨r0, r1, r2, r3, r4, r5, r6, r7, r8⟩ := cm_cells CS4.out.res
  have f := fun i => CS4.out.res.frozen i
  have f0 := f 0
  have f1 := f 1
  have f2 := f 2
  have f3 := f 3
  have f4 := f 4
  have f5 := f 5
  have f6 := f 6
  have f7 := f 7
  have f8 := f 8
  obtain ⟨t0, t1, t2, t3, t4, t5, t6, t7, t8⟩ := cm_cells h4
  unfold set9 at HZ t0 t1 t2 t3 t4 t5 t6 t7 t8
  unfold cmV cmA at HZ
  simp only [c0, s0] at r0 r1 r2 r3 r4 r5 r6 r7 r8
  simp only [List.length_nil] at HZ k0 k1 k2 k3 k4 k5 k6 k7 k8 r0 r1 r2 r3 r4 r5 r6 r7 r8 t0 t1 t2 t3 t4 t5 t6 t7 t8
  clear h1 h2 h3 h4 HS HB f CS4 HR1 hbc
  go_wp2
  refine bodyPost_ret (v := .agg #[.int .i64 1, .int .i64 x1, .slice a2 x2.length c2, .int .i64 xt3, .int .i64 xu3, .int .i64 x4, .slice none 0 0, .int .i64 0, .slice none 0 0]) ?_ rfl HZ.out
  unfold results
  go_simp

set_option maxHeartbeats 8000000 in
theorem command2 (w : World) (g : Nat) (ba : Option Addr) (cap : Nat) (l : List Int) (s : Option (List Int)) (hr : RdS w g ba cap l s) (hb : Bts g w ba l) (hc : l.length ≤ cap) (hl : l.length ≤ 1000000000) (t : List Int) (hs : s = some (2 :: t)) :
    Calls Try.prog 40 #[.pointer (some ⟨g, 0, none⟩)] w (RdAns cmdB Nice (RepC (g + 1)) w g ba cap l s) := by
  have hgl := hr.lt
  have BA : Below w.heap.size w (w.alloc (.cells (cmA c0 s0) 31)) := (Below.refl _ _).alloc (Nat.le_refl _) _
  have H1 := hid' (takeDo_any _ g ba cap l s (hr.on BA) (hb.keep (BA.mono (Nat.le_of_lt hgl))) hl)
  have HB := hid' hb
  have HGL := hid' hgl
  have HS := hid' hs
  unfold cmA c0 s0 at H1
  simp only [List.length_nil] at H1
  clear hr hb BA hs
  go_enter Try.func40, Try.ntmps40
  go_wp2_with fail
  refine H1.out.mono ?_
  rintro e w1 ⟨x, v, s1, rfl, hv, hrd1, hrs1, hbut1⟩
  unfold RepI at hv
  subst hv
  clear H1
  obtain ⟨hx, hs1⟩ : x = 2 ∧ s1 = some t := by
    have e := HS.out
    subst e
    cases s1 with
    | none => exact absurd rfl (hrd1 2 t (by unfold DO; omega))
    | some r1 =>
      have := hrd1.2
      simp [doB] at this
      exact ⟨this.1.symm, by rw [this.2]⟩
  subst hx hs1
  have HR1 := hid' hrd1
  have CS0 := hid' (CS.start 2 HGL.out hbut1 hrs1)
  have hCl : g < w1.heap.size := by have := hbut1.size; rw [World.size_alloc] at this; omega
  obtain ⟨at', _, ⟨r, _, _, hrb⟩ | ⟨hbad, _⟩⟩ := hrs1
  case inr => cases hbad
  have hbc : (w1.alloc (.cells (cmA ⟨2, 0, [], (0, 0), 0, [], 0, []⟩ s0) 31)).cell? ⟨g, 2, none⟩ = some (.bool false) := (hrb.keep ((Below.refl _ _).alloc (Nat.le_refl _) _)).cell 2
  unfold cmA s0 at hbc CS0
  simp only [List.length_nil] at hbc CS0
  clear hrd1 hbut1 hrb
  go_wp2_with fail
  refine (usedBy_at 2 65 (by decide) _).mono ?_
  rintro e wx ⟨rfl, rfl⟩
  go_wp2_with fail
  refine (has_at 65 1 true (by decide) _).mono ?_
  rintro e wx ⟨rfl, rfl⟩
  go_wp2_with fail
  refine (takeInt_any _ g ba cap l _ CS0.out.rd (CS0.out.bts HB.out) hc hl).mono ?_
  rintro e w2 ⟨x1, v, s2, rfl, hv, hrd2, hrs2, hbut2⟩
  unfold RepI at hv
  subst hv
  have CT1 := CS0.out.call hbut2 hrs2
  have h1 := CT1.cm
  have o1_1 := CT1.bx.cell 1
  have f1_1 := CT1.bx.frozen 1
  have HRD2 := hid' hrd2
  have CS1 : Hid (CS w g w.heap.size w1.heap.size ba cap l ⟨2, x1, [], (0, 0), 0, [], 0, []⟩ ⟨none, 0, none, 0, none, 0⟩ s2 (w2.setCell ⟨w1.heap.size, 1, none⟩ (.int .i64 x1))) := CT1.set (i := 1) (v := .int .i64 x1) (by simp [cmA]) (CmR.mk h1.row h1.front h1.sheet h1.byt h1.hr h1.hf h1.hs)
  clear CT1 hrd2 hrs2 hbut2 h1 CS0
  simp [cmA] at o1_1
  go_wp2_with fail
  refine (has_at 65 2 false (by decide) _).mono ?_
  rintro e wx ⟨rfl, rfl⟩
  go_wp2_with fail
  refine (has_at 65 4 false (by decide) _).mono ?_
  rintro e wx ⟨rfl, rfl⟩
  go_wp2_with fail
  refine (has_at 65 8 false (by decide) _).mono ?_
  rintro e wx ⟨rfl, rfl⟩
  go_wp2_with fail
  refine (has_at 65 16 false (by decide) _).mono ?_
  rintro e wx ⟨rfl, rfl⟩
  go_wp2_with fail
  refine (has_at 65 32 false (by decide) _).mono ?_
  rintro e wx ⟨rfl, rfl⟩
  go_wp2_with fail
  refine (has_at 65 64 true (by decide) _).mono ?_
  rintro e wx ⟨rfl, rfl⟩
  go_wp2_with fail
  refine (takeFront_any _ g ba cap l _ CS1.out.rd (CS1.out.bts HB.out) hc hl (w1.heap.size + 1) (by omega) (by have := CS1.out.bx.lt; omega)).mono ?_
  rintro e w3 ⟨x2, v, s3, rfl, hv, hrd3, hrs3, hbut3⟩
  obtain ⟨a2, c2, hv, hp2, hsh2⟩ := hv
  subst hv
  have HRC : Hid (w.heap.size < w1.heap.size) := by have := CS1.out.hC; have := CS1.out.hRC; unfold Hid; omega
  have CT2 := CS1.out.call hbut3 hrs3
  have h2 := CT2.cm
  have o2_6 := CT2.bx.cell 6
  have f2_6 := CT2.bx.frozen 6
  have HRD3 := hid' hrd3
  have CS2 : Hid (CS w g w.heap.size w1.heap.size ba cap l ⟨2, x1, [], (0, 0), 0, x2, 0, []⟩ ⟨none, 0, a2, c2, none, 0⟩ s3 (w3.setCell ⟨w1.heap.size, 6, none⟩ (.slice a2 x2.length c2))) := CT2.set (i := 6) (v := .slice a2 x2.length c2) (by simp [cmA]) (CmR.mk h2.row (SP.mono hp2 (fun k hk => by unfold Since at hk; have := HRC.out; omega)) h2.sheet h2.byt h2.hr hsh2 h2.hs)
  clear CT2 hrd3 hrs3 hbut3 h2 CS1 hp2 hsh2 HRC
  simp [cmA] at o2_6
  obtain ⟨h1, h2, h3, h4⟩ := CS2.out.done
  have HZ := hid' (⟨_, _, _, rfl, h1, Rd.cmd HR1.out (fun _ => rest2 HRD2.out HRD3.out) (fun h => by cases h), h2, h3⟩ : RdAns cmdB Nice (RepC (g + 1)) w g ba cap l s (.returned (cmV ⟨2, x1, [], (0, 0), 0, x2, 0, []⟩ ⟨none, 0, a2, c2, none, 0⟩)) _)
  obtain ⟨k0, k1, k2, k3, k4, k5, k6, k7, k8⟩ := cm_cells CS2.out.bx
  obtain ⟨r0, r1, r2, r3, r4, r5, r6, r7, r8⟩ := cm_cells CS2.out.res
  have f := fun i => CS2.out.res.frozen i
  have f0 := f 0
  have f1 := f 1
  have f2 := f 2
  have f3 := f 3
  have f4 := f 4
  have f5 := f 5
  have f6 := f 6
  have f7 := f 7
  have f8 := f 8
  obtain ⟨t0, t1, t2, t3, t4, t5, t6, t7, t8⟩ := cm_cells h4
  unfold set9 at HZ t0 t1 t2 t3 t4 t5 t6 t7 t8
  unfold cmV cmA at HZ
  simp only [c0, s0] at r0 r1 r2 r3 r4 r5 r6 r7 r8
  simp only [List.length_nil] at HZ k0 k1 k2 k3 k4 k5 k6 k7 k8 r0 r1 r2 r3 r4 r5 r6 r7 r8 t0 t1 t2 t3 t4 t5 t6 t7 t8
  clear h1 h2 h3 h4 HS HB f CS2 HR1 hbc
  go_wp2
  refine bodyPost_ret (v := .agg #[.int .i64 2, .int .i64 x1, .slice none 0 0, .int .i64 0, .int .i64 0, .int .i64 0, .slice a2 x2.length c2, .int .i64 0, .slice none 0 0]) ?_ rfl HZ.out
  unfold results
  go_simp

set_option maxHeartbeats 8000000 in
theorem command3 (w : World) (g : Nat) (ba : Option Addr) (cap : Nat) (l : List Int) (s : Option (List Int)) (hr : RdS w g ba cap l s) (hb : Bts g w ba l) (hc : l.length ≤ cap) (hl : l.length ≤ 1000000000) (t : List Int) (hs : s = some (3 :: t)) :
    Calls Try.prog 40 #[.pointer (some ⟨g, 0, none⟩)] w (RdAns cmdB Nice (RepC (g + 1)) w g ba cap l s) := by
  have hgl := hr.lt
  have BA : Below w.heap.size w (w.alloc (.cells (cmA c0 s0) 31)) := (Below.refl _ _).alloc (Nat.le_refl _) _
  have H1 := hid' (takeDo_any _ g ba cap l s (hr.on BA) (hb.keep (BA.mono (Nat.le_of_lt hgl))) hl)
  have HB := hid' hb
  have HGL := hid' hgl
  have HS := hid' hs
  unfold cmA c0 s0 at H1
  simp only [List.length_nil] at H1
  clear hr hb BA hs
  go_enter Try.func40, Try.ntmps40
  go_wp2_with fail
  refine H1.out.mono ?_
  rintro e w1 ⟨x, v, s1, rfl, hv, hrd1, hrs1, hbut1⟩
  unfold RepI at hv
  subst hv
  clear H1
  obtain ⟨hx, hs1⟩ : x = 3 ∧ s1 = some t := by
    have e := HS.out
    subst e
    cases s1 with
    | none => exact absurd rfl (hrd1 3 t (by unfold DO; omega))
    | some r1 =>
      have := hrd1.2
      simp [doB] at this
      exact ⟨this.1.symm, by rw [this.2]⟩
  subst hx hs1
  have HR1 := hid' hrd1
  have CS0 := hid' (CS.start 3 HGL.out hbut1 hrs1)
  have hCl : g < w1.heap.size := by have := hbut1.size; rw [World.size_alloc] at this; omega
  obtain ⟨at', _, ⟨r, _, _, hrb⟩ | ⟨hbad, _⟩⟩ := hrs1
  case inr => cases hbad
  have hbc : (w1.alloc (.cells (cmA ⟨3, 0, [], (0, 0), 0, [], 0, []⟩ s0) 31)).cell? ⟨g, 2, none⟩ = some (.bool false) := (hrb.keep ((Below.refl _ _).alloc (Nat.le_refl _) _)).cell 2
  unfold cmA s0 at hbc CS0
  simp only [List.length_nil] at hbc CS0
  clear hrd1 hbut1 hrb
  go_wp2_with fail
  refine (usedBy_at 3 3 (by decide) _).mono ?_
  rintro e wx ⟨rfl, rfl⟩
  go_wp2_with fail
  refine (has_at 3 1 true (by decide) _).mono ?_
  rintro e wx ⟨rfl, rfl⟩
  go_wp2_with fail
  refine (takeInt_any _ g ba cap l _ CS0.out.rd (CS0.out.bts HB.out) hc hl).mono ?_
  rintro e w2 ⟨x1, v, s2, rfl, hv, hrd2, hrs2, hbut2⟩
  unfold RepI at hv
  subst hv
  have CT1 := CS0.out.call hbut2 hrs2
  have h1 := CT1.cm
  have o1_1 := CT1.bx.cell 1
  have f1_1 := CT1.bx.frozen 1
  have HRD2 := hid' hrd2
  have CS1 : Hid (CS w g w.heap.size w1.heap.size ba cap l ⟨3, x1, [], (0, 0), 0, [], 0, []⟩ ⟨none, 0, none, 0, none, 0⟩ s2 (w2.setCell ⟨w1.heap.size, 1, none⟩ (.int .i64 x1))) := CT1.set (i := 1) (v := .int .i64 x1) (by simp [cmA]) (CmR.mk h1.row h1.front h1.sheet h1.byt h1.hr h1.hf h1.hs)
  clear CT1 hrd2 hrs2 hbut2 h1 CS0
  simp [cmA] at o1_1
  go_wp2_with fail
  refine (has_at 3 2 true (by decide) _).mono ?_
  rintro e wx ⟨rfl, rfl⟩
  go_wp2_with fail
  refine (takeInt_any _ g ba cap l _ CS1.out.rd (CS1.out.bts HB.out) hc hl).mono ?_
  rintro e w3 ⟨x2, v, s3, rfl, hv, hrd3, hrs3, hbut3⟩
  unfold RepI at hv
  subst hv
  have CT2 := CS1.out.call hbut3 hrs3
  have h2 := CT2.cm
  have o2_7 := CT2.bx.cell 7
  have f2_7 := CT2.bx.frozen 7
  have HRD3 := hid' hrd3
  have CS2 : Hid (CS w g w.heap.size w1.heap.size ba cap l ⟨3, x1, [], (0, 0), 0, [], x2, []⟩ ⟨none, 0, none, 0, none, 0⟩ s3 (w3.setCell ⟨w1.heap.size, 7, none⟩ (.int .i64 x2))) := CT2.set (i := 7) (v := .int .i64 x2) (by simp [cmA]) (CmR.mk h2.row h2.front h2.sheet h2.byt h2.hr h2.hf h2.hs)
  clear CT2 hrd3 hrs3 hbut3 h2 CS1
  simp [cmA] at o2_7
  go_wp2_with fail
  refine (has_at 3 4 false (by decide) _).mono ?_
  rintro e wx ⟨rfl, rfl⟩
  go_wp2_with fail
  refine (has_at 3 8 false (by decide) _).mono ?_
  rintro e wx ⟨rfl, rfl⟩
  go_wp2_with fail
  refine (has_at 3 16 false (by decide) _).mono ?_
  rintro e wx ⟨rfl, rfl⟩
  go_wp2_with fail
  refine (has_at 3 32 false (by decide) _).mono ?_
  rintro e wx ⟨rfl, rfl⟩
  go_wp2_with fail
  refine (has_at 3 64 false (by decide) _).mono ?_
  rintro e wx ⟨rfl, rfl⟩
  obtain ⟨h1, h2, h3, h4⟩ := CS2.out.done
  have HZ := hid' (⟨_, _, _, rfl, h1, Rd.cmd HR1.out (fun _ => rest3 HRD2.out HRD3.out) (fun h => by cases h), h2, h3⟩ : RdAns cmdB Nice (RepC (g + 1)) w g ba cap l s (.returned (cmV ⟨3, x1, [], (0, 0), 0, [], x2, []⟩ ⟨none, 0, none, 0, none, 0⟩)) _)
  obtain ⟨k0, k1, k2, k3, k4, k5, k6, k7, k8⟩ := cm_cells CS2.out.bx
  obtain ⟨r0, r1, r2, r3, r4, r5, r6, r7, r8⟩ := cm_cells CS2.out.res
  have f := fun i => CS2.out.res.frozen i
  have f0 := f 0
  have f1 := f 1
  have f2 := f 2
  have f3 := f 3
  have f4 := f 4
  have f5 := f 5
  have f6 := f 6
  have f7 := f 7
  have f8 := f 8
  obtain ⟨t0, t1, t2, t3, t4, t5, t6, t7, t8⟩ := cm_cells h4
  unfold set9 at HZ t0 t1 t2 t3 t4 t5 t6 t7 t8
  unfold cmV cmA at HZ
  simp only [c0, s0] at r0 r1 r2 r3 r4 r5 r6 r7 r8
  simp only [List.length_nil] at HZ k0 k1 k2 k3 k4 k5 k6 k7 k8 r0 r1 r2 r3 r4 r5 r6 r7 r8 t0 t1 t2 t3 t4 t5 t6 t7 t8
  clear h1 h2 h3 h4 HS HB f CS2 HR1 hbc
  go_wp2
  refine bodyPost_ret (v := .agg #[.int .i64 3, .int .i64 x1, .slice none 0 0, .int .i64 0, .int .i64 0, .int .i64 0, .slice none 0 0, .int .i64 x2, .slice none 0 0]) ?_ rfl HZ.out
  unfold results
  go_simp

set_option maxHeartbeats 8000000 in
theorem command4 (w : World) (g : Nat) (ba : Option Addr) (cap : Nat) (l : List Int) (s : Option (List Int)) (hr : RdS w g ba cap l s) (hb : Bts g w ba l) (hc : l.length ≤ cap) (hl : l.length ≤ 1000000000) (t : List Int) (hs : s = some (4 :: t)) :
    Calls Try.prog 40 #[.pointer (some ⟨g, 0, none⟩)] w (RdAns cmdB Nice (RepC (g + 1)) w g ba cap l s) := by
  have hgl := hr.lt
  have BA : Below w.heap.size w (w.alloc (.cells (cmA c0 s0) 31)) := (Below.refl _ _).alloc (Nat.le_refl _) _
  have H1 := hid' (takeDo_any _ g ba cap l s (hr.on BA) (hb.keep (BA.mono (Nat.le_of_lt hgl))) hl)
  have HB := hid' hb
  have HGL := hid' hgl
  have HS := hid' hs
  unfold cmA c0 s0 at H1
  simp only [List.length_nil] at H1
  clear hr hb BA hs
  go_enter Try.func40, Try.ntmps40
  go_wp2_with fail
  refine H1.out.mono ?_
  rintro e w1 ⟨x, v, s1, rfl, hv, hrd1, hrs1, hbut1⟩
  unfold RepI at hv
  subst hv
  clear H1
  obtain ⟨hx, hs1⟩ : x = 4 ∧ s1 = some t := by
    have e := HS.out
    subst e
    cases s1 with
    | none => exact absurd rfl (hrd1 4 t (by unfold DO; omega))
    | some r1 =>
      have := hrd1.2
      simp [doB] at this
      exact ⟨this.1.symm, by rw [this.2]⟩
  subst hx hs1
  have HR1 := hid' hrd1
  have CS0 := hid' (CS.start 4 HGL.out hbut1 hrs1)
  have hCl : g < w1.heap.size := by have := hbut1.size; rw [World.size_alloc] at this; omega
  obtain ⟨at', _, ⟨r, _, _, hrb⟩ | ⟨hbad, _⟩⟩ := hrs1
  case inr => cases hbad
  have hbc : (w1.alloc (.cells (cmA ⟨4, 0, [], (0, 0), 0, [], 0, []⟩ s0) 31)).cell? ⟨g, 2, none⟩ = some (.bool false) := (hrb.keep ((Below.refl _ _).alloc (Nat.le_refl _) _)).cell 2
  unfold cmA s0 at hbc CS0
  simp only [List.length_nil] at hbc CS0
  clear hrd1 hbut1 hrb
  go_wp2_with fail
  refine (usedBy_at 4 65 (by decide) _).mono ?_
  rintro e wx ⟨rfl, rfl⟩
  go_wp2_with fail
  refine (has_at 65 1 true (by decide) _).mono ?_
  rintro e wx ⟨rfl, rfl⟩
  go_wp2_with fail
  refine (takeInt_any _ g ba cap l _ CS0.out.rd (CS0.out.bts HB.out) hc hl).mono ?_
  rintro e w2 ⟨x1, v, s2, rfl, hv, hrd2, hrs2, hbut2⟩
  unfold RepI at hv
  subst hv
  have CT1 := CS0.out.call hbut2 hrs2
  have h1 := CT1.cm
  have o1_1 := CT1.bx.cell 1
  have f1_1 := CT1.bx.frozen 1
  have HRD2 := hid' hrd2
  have CS1 : Hid (CS w g w.heap.size w1.heap.size ba cap l ⟨4, x1, [], (0, 0), 0, [], 0, []⟩ ⟨none, 0, none, 0, none, 0⟩ s2 (w2.setCell ⟨w1.heap.size, 1, none⟩ (.int .i64 x1))) := CT1.set (i := 1) (v := .int .i64 x1) (by simp [cmA]) (CmR.mk h1.row h1.front h1.sheet h1.byt h1.hr h1.hf h1.hs)
  clear CT1 hrd2 hrs2 hbut2 h1 CS0
  simp [cmA] at o1_1
  go_wp2_with fail
  refine (has_at 65 2 false (by decide) _).mono ?_
  rintro e wx ⟨rfl, rfl⟩
  go_wp2_with fail
  refine (has_at 65 4 false (by decide) _).mono ?_
  rintro e wx ⟨rfl, rfl⟩
  go_wp2_with fail
  refine (has_at 65 8 false (by decide) _).mono ?_
  rintro e wx ⟨rfl, rfl⟩
  go_wp2_with fail
  refine (has_at 65 16 false (by decide) _).mono ?_
  rintro e wx ⟨rfl, rfl⟩
  go_wp2_with fail
  refine (has_at 65 32 false (by decide) _).mono ?_
  rintro e wx ⟨rfl, rfl⟩
  go_wp2_with fail
  refine (has_at 65 64 true (by decide) _).mono ?_
  rintro e wx ⟨rfl, rfl⟩
  go_wp2_with fail
  refine (takeFront_any _ g ba cap l _ CS1.out.rd (CS1.out.bts HB.out) hc hl (w1.heap.size + 1) (by omega) (by have := CS1.out.bx.lt; omega)).mono ?_
  rintro e w3 ⟨x2, v, s3, rfl, hv, hrd3, hrs3, hbut3⟩
  obtain ⟨a2, c2, hv, hp2, hsh2⟩ := hv
  subst hv
  have HRC : Hid (w.heap.size < w1.heap.size) := by have := CS1.out.hC; have := CS1.out.hRC; unfold Hid; omega
  have CT2 := CS1.out.call hbut3 hrs3
  have h2 := CT2.cm
  have o2_6 := CT2.bx.cell 6
  have f2_6 := CT2.bx.frozen 6
  have HRD3 := hid' hrd3
  have CS2 : Hid (CS w g w.heap.size w1.heap.size ba cap l ⟨4, x1, [], (0, 0), 0, x2, 0, []⟩ ⟨none, 0, a2, c2, none, 0⟩ s3 (w3.setCell ⟨w1.heap.size, 6, none⟩ (.slice a2 x2.length c2))) := CT2.set (i := 6) (v := .slice a2 x2.length c2) (by simp [cmA]) (CmR.mk h2.row (SP.mono hp2 (fun k hk => by unfold Since at hk; have := HRC.out; omega)) h2.sheet h2.byt h2.hr hsh2 h2.hs)
  clear CT2 hrd3 hrs3 hbut3 h2 CS1 hp2 hsh2 HRC
  simp [cmA] at o2_6
  obtain ⟨h1, h2, h3, h4⟩ := CS2.out.done
  have HZ := hid' (⟨_, _, _, rfl, h1, Rd.cmd HR1.out (fun _ => rest4 HRD2.out HRD3.out) (fun h => by cases h), h2, h3⟩ : RdAns cmdB Nice (RepC (g + 1)) w g ba cap l s (.returned (cmV ⟨4, x1, [], (0, 0), 0, x2, 0, []⟩ ⟨none, 0, a2, c2, none, 0⟩)) _)
  obtain ⟨k0, k1, k2, k3, k4, k5, k6, k7, k8⟩ := cm_cells CS2.out.bx
  obtain ⟨r0, r1, r2, r3, r4, r5, r6, r7, r8⟩ := cm_cells CS2.out.res
  have f := fun i => CS2.out.res.frozen i
  have f0 := f 0
  have f1 := f 1
  have f2 := f 2
  have f3 := f 3
  have f4 := f 4
  have f5 := f 5
  have f6 := f 6
  have f7 := f 7
  have f8 := f 8
  obtain ⟨t0, t1, t2, t3, t4, t5, t6, t7, t8⟩ := cm_cells h4
  unfold set9 at HZ t0 t1 t2 t3 t4 t5 t6 t7 t8
  unfold cmV cmA at HZ
  simp only [c0, s0] at r0 r1 r2 r3 r4 r5 r6 r7 r8
  simp only [List.length_nil] at HZ k0 k1 k2 k3 k4 k5 k6 k7 k8 r0 r1 r2 r3 r4 r5 r6 r7 r8 t0 t1 t2 t3 t4 t5 t6 t7 t8
  clear h1 h2 h3 h4 HS HB f CS2 HR1 hbc
  go_wp2
  refine bodyPost_ret (v := .agg #[.int .i64 4, .int .i64 x1, .slice none 0 0, .int .i64 0, .int .i64 0, .int .i64 0, .slice a2 x2.length c2, .int .i64 0, .slice none 0 0]) ?_ rfl HZ.out
  unfold results
  go_simp

set_option maxHeartbeats 8000000 in
theorem command5 (w : World) (g : Nat) (ba : Option Addr) (cap : Nat) (l : List Int) (s : Option (List Int)) (hr : RdS w g ba cap l s) (hb : Bts g w ba l) (hc : l.length ≤ cap) (hl : l.length ≤ 1000000000) (t : List Int) (hs : s = some (5 :: t)) :
    Calls Try.prog 40 #[.pointer (some ⟨g, 0, none⟩)] w (RdAns cmdB Nice (RepC (g + 1)) w g ba cap l s) := by
  have hgl := hr.lt
  have BA : Below w.heap.size w (w.alloc (.cells (cmA c0 s0) 31)) := (Below.refl _ _).alloc (Nat.le_refl _) _
  have H1 := hid' (takeDo_any _ g ba cap l s (hr.on BA) (hb.keep (BA.mono (Nat.le_of_lt hgl))) hl)
  have HB := hid' hb
  have HGL := hid' hgl
  have HS := hid' hs
  unfold cmA c0 s0 at H1
  simp only [List.length_nil] at H1
  clear hr hb BA hs
  go_enter Try.func40, Try.ntmps40
  go_wp2_with fail
  refine H1.out.mono ?_
  rintro e w1 ⟨x, v, s1, rfl, hv, hrd1, hrs1, hbut1⟩
  unfold RepI at hv
  subst hv
  clear H1
  obtain ⟨hx, hs1⟩ : x = 5 ∧ s1 = some t := by
    have e := HS.out
    subst e
    cases s1 with
    | none => exact absurd rfl (hrd1 5 t (by unfold DO; omega))
    | some r1 =>
      have := hrd1.2
      simp [doB] at this
      exact ⟨this.1.symm, by rw [this.2]⟩
  subst hx hs1
  have HR1 := hid' hrd1
  have CS0 := hid' (CS.start 5 HGL.out hbut1 hrs1)
  have hCl : g < w1.heap.size := by have := hbut1.size; rw [World.size_alloc] at this; omega
  obtain ⟨at', _, ⟨r, _, _, hrb⟩ | ⟨hbad, _⟩⟩ := hrs1
  case inr => cases hbad
  have hbc : (w1.alloc (.cells (cmA ⟨5, 0, [], (0, 0), 0, [], 0, []⟩ s0) 31)).cell? ⟨g, 2, none⟩ = some (.bool false) := (hrb.keep ((Below.refl _ _).alloc (Nat.le_refl _) _)).cell 2
  unfold cmA s0 at hbc CS0
  simp only [List.length_nil] at hbc CS0
  clear hrd1 hbut1 hrb
  go_wp2_with fail
  refine (usedBy_at 5 17 (by decide) _).mono ?_
  rintro e wx ⟨rfl, rfl⟩
  go_wp2_with fail
  refine (has_at 17 1 true (by decide) _).mono ?_
  rintro e wx ⟨rfl, rfl⟩
  go_wp2_with fail
  refine (takeInt_any _ g ba cap l _ CS0.out.rd (CS0.out.bts HB.out) hc hl).mono ?_
  rintro e w2 ⟨x1, v, s2, rfl, hv, hrd2, hrs2, hbut2⟩
  unfold RepI at hv
  subst hv
  have CT1 := CS0.out.call hbut2 hrs2
  have h1 := CT1.cm
  have o1_1 := CT1.bx.cell 1
  have f1_1 := CT1.bx.frozen 1
  have HRD2 := hid' hrd2
  have CS1 : Hid (CS w g w.heap.size w1.heap.size ba cap l ⟨5, x1, [], (0, 0), 0, [], 0, []⟩ ⟨none, 0, none, 0, none, 0⟩ s2 (w2.setCell ⟨w1.heap.size, 1, none⟩ (.int .i64 x1))) := CT1.set (i := 1) (v := .int .i64 x1) (by simp [cmA]) (CmR.mk h1.row h1.front h1.sheet h1.byt h1.hr h1.hf h1.hs)
  clear CT1 hrd2 hrs2 hbut2 h1 CS0
  simp [cmA] at o1_1
  go_wp2_with fail
  refine (has_at 17 2 false (by decide) _).mono ?_
  rintro e wx ⟨rfl, rfl⟩
  go_wp2_with fail
  refine (has_at 17 4 false (by decide) _).mono ?_
  rintro e wx ⟨rfl, rfl⟩
  go_wp2_with fail
  refine (has_at 17 8 false (by decide) _).mono ?_
  rintro e wx ⟨rfl, rfl⟩
  go_wp2_with fail
  refine (has_at 17 16 true (by decide) _).mono ?_
  rintro e wx ⟨rfl, rfl⟩
  go_wp2_with fail
  refine (time_any _ g ba cap l _ CS1.out.rd (CS1.out.bts HB.out) hc hl).mono ?_
  rintro e w3 ⟨x2, v, s3, rfl, hv, hrd3, hrs3, hbut3⟩
  unfold RepT at hv
  subst hv
  obtain ⟨xt2, xu2⟩ := x2
  have CT2 := CS1.out.call hbut3 hrs3
  have h2 := CT2.cm
  have o2_3 := CT2.bx.cell 3
  have f2_3 := CT2.bx.frozen 3
  have o2_4 := CT2.bx.cell 4
  have f2_4 := CT2.bx.frozen 4
  have HRD3 := hid' hrd3
  have CS2 : Hid (CS w g w.heap.size w1.heap.size ba cap l ⟨5, x1, [], (xt2, xu2), 0, [], 0, []⟩ ⟨none, 0, none, 0, none, 0⟩ s3 ((w3.setCell ⟨w1.heap.size, 3, none⟩ (.int .i64 xt2)).setCell ⟨w1.heap.size, 4, none⟩ (.int .i64 xu2))) := CT2.set2 (i := 3) (j := 4) (v := .int .i64 xt2) (u := .int .i64 xu2) (by simp [cmA]) (CmR.mk h2.row h2.front h2.sheet h2.byt h2.hr h2.hf h2.hs)
  clear CT2 hrd3 hrs3 hbut3 h2 CS1
  simp [cmA] at o2_3 o2_4
  go_wp2_with fail
  refine (has_at 17 32 false (by decide) _).mono ?_
  rintro e wx ⟨rfl, rfl⟩
  go_wp2_with fail
  refine (has_at 17 64 false (by decide) _).mono ?_
  rintro e wx ⟨rfl, rfl⟩
  obtain ⟨h1, h2, h3, h4⟩ := CS2.out.done
  have HZ := hid' (⟨_, _, _, rfl, h1, Rd.cmd HR1.out (fun _ => rest5 HRD2.out HRD3.out) (fun h => by cases h), h2, h3⟩ : RdAns cmdB Nice (RepC (g + 1)) w g ba cap l s (.returned (cmV ⟨5, x1, [], (xt2, xu2), 0, [], 0, []⟩ ⟨none, 0, none, 0, none, 0⟩)) _)
  obtain ⟨k0, k1, k2, k3, k4, k5, k6, k7, k8⟩ := cm_cells CS2.out.bx
  obtain ⟨r0, r1, r2, r3, r4, r5, r6, r7, r8⟩ := cm_cells CS2.out.res
  have f := fun i => CS2.out.res.frozen i
  have f0 := f 0
  have f1 := f 1
  have f2 := f 2
  have f3 := f 3
  have f4 := f 4
  have f5 := f 5
  have f6 := f 6
  have f7 := f 7
  have f8 := f 8
  obtain ⟨t0, t1, t2, t3, t4, t5, t6, t7, t8⟩ := cm_cells h4
  unfold set9 at HZ t0 t1 t2 t3 t4 t5 t6 t7 t8
  unfold cmV cmA at HZ
  simp only [c0, s0] at r0 r1 r2 r3 r4 r5 r6 r7 r8
  simp only [List.length_nil] at HZ k0 k1 k2 k3 k4 k5 k6 k7 k8 r0 r1 r2 r3 r4 r5 r6 r7 r8 t0 t1 t2 t3 t4 t5 t6 t7 t8
  clear h1 h2 h3 h4 HS HB f CS2 HR1 hbc
  go_wp2
  refine bodyPost_ret (v := .agg #[.int .i64 5, .int .i64 x1, .slice none 0 0, .int .i64 xt2, .int .i64 xu2, .int .i64 0, .slice none 0 0, .int .i64 0, .slice none 0 0]) ?_ rfl HZ.out
  unfold results
  go_simp

set_option maxHeartbeats 8000000 in
theorem command6 (w : World) (g : Nat) (ba : Option Addr) (cap : Nat) (l : List Int) (s : Option (List Int)) (hr : RdS w g ba cap l s) (hb : Bts g w ba l) (hc : l.length ≤ cap) (hl : l.length ≤ 1000000000) (t : List Int) (hs : s = some (6 :: t)) :
    Calls Try.prog 40 #[.pointer (some ⟨g, 0, none⟩)] w (RdAns cmdB Nice (RepC (g + 1)) w g ba cap l s) := by
  have hgl := hr.lt
  have BA : Below w.heap.size w (w.alloc (.cells (cmA c0 s0) 31)) := (Below.refl _ _).alloc (Nat.le_refl _) _
  have H1 := hid' (takeDo_any _ g ba cap l s (hr.on BA) (hb.keep (BA.mono (Nat.le_of_lt hgl))) hl)
  have HB := hid' hb
  have HGL := hid' hgl
  have HS := hid' hs
  unfold cmA c0 s0 at H1
  simp only [List.length_nil] at H1
  clear hr hb BA hs
  go_enter Try.func40, Try.ntmps40
  go_wp2_with fail
  refine H1.out.mono ?_
  rintro e w1 ⟨x, v, s1, rfl, hv, hrd1, hrs1, hbut1⟩
  unfold RepI at hv
  subst hv
  clear H1
  obtain ⟨hx, hs1⟩ : x = 6 ∧ s1 = some t := by
    have e := HS.out
    subst e
    cases s1 with
    | none => exact absurd rfl (hrd1 6 t (by unfold DO; omega))
    | some r1 =>
      have := hrd1.2
      simp [doB] at this
      exact ⟨this.1.symm, by rw [this.2]⟩
  subst hx hs1
  have HR1 := hid' hrd1
  have CS0 := hid' (CS.start 6 HGL.out hbut1 hrs1)
  have hCl : g < w1.heap.size := by have := hbut1.size; rw [World.size_alloc] at this; omega
  obtain ⟨at', _, ⟨r, _, _, hrb⟩ | ⟨hbad, _⟩⟩ := hrs1
  case inr => cases hbad
  have hbc : (w1.alloc (.cells (cmA ⟨6, 0, [], (0, 0), 0, [], 0, []⟩ s0) 31)).cell? ⟨g, 2, none⟩ = some (.bool false) := (hrb.keep ((Below.refl _ _).alloc (Nat.le_refl _) _)).cell 2
  unfold cmA s0 at hbc CS0
  simp only [List.length_nil] at hbc CS0
  clear hrd1 hbut1 hrb
  go_wp2_with fail
  refine (usedBy_at 6 1 (by decide) _).mono ?_
  rintro e wx ⟨rfl, rfl⟩
  go_wp2_with fail
  refine (has_at 1 1 true (by decide) _).mono ?_
  rintro e wx ⟨rfl, rfl⟩
  go_wp2_with fail
  refine (takeInt_any _ g ba cap l _ CS0.out.rd (CS0.out.bts HB.out) hc hl).mono ?_
  rintro e w2 ⟨x1, v, s2, rfl, hv, hrd2, hrs2, hbut2⟩
  unfold RepI at hv
  subst hv
  have CT1 := CS0.out.call hbut2 hrs2
  have h1 := CT1.cm
  have o1_1 := CT1.bx.cell 1
  have f1_1 := CT1.bx.frozen 1
  have HRD2 := hid' hrd2
  have CS1 : Hid (CS w g w.heap.size w1.heap.size ba cap l ⟨6, x1, [], (0, 0), 0, [], 0, []⟩ ⟨none, 0, none, 0, none, 0⟩ s2 (w2.setCell ⟨w1.heap.size, 1, none⟩ (.int .i64 x1))) := CT1.set (i := 1) (v := .int .i64 x1) (by simp [cmA]) (CmR.mk h1.row h1.front h1.sheet h1.byt h1.hr h1.hf h1.hs)
  clear CT1 hrd2 hrs2 hbut2 h1 CS0
  simp [cmA] at o1_1
  go_wp2_with fail
  refine (has_at 1 2 false (by decide) _).mono ?_
  rintro e wx ⟨rfl, rfl⟩
  go_wp2_with fail
  refine (has_at 1 4 false (by decide) _).mono ?_
  rintro e wx ⟨rfl, rfl⟩
  go_wp2_with fail
  refine (has_at 1 8 false (by decide) _).mono ?_
  rintro e wx ⟨rfl, rfl⟩
  go_wp2_with fail
  refine (has_at 1 16 false (by decide) _).mono ?_
  rintro e wx ⟨rfl, rfl⟩
  go_wp2_with fail
  refine (has_at 1 32 false (by decide) _).mono ?_
  rintro e wx ⟨rfl, rfl⟩
  go_wp2_with fail
  refine (has_at 1 64 false (by decide) _).mono ?_
  rintro e wx ⟨rfl, rfl⟩
  obtain ⟨h1, h2, h3, h4⟩ := CS1.out.done
  have HZ := hid' (⟨_, _, _, rfl, h1, Rd.cmd HR1.out (fun _ => rest6 HRD2.out) (fun h => by cases h), h2, h3⟩ : RdAns cmdB Nice (RepC (g + 1)) w g ba cap l s (.returned (cmV ⟨6, x1, [], (0, 0), 0, [], 0, []⟩ ⟨none, 0, none, 0, none, 0⟩)) _)
  obtain ⟨k0, k1, k2, k3, k4, k5, k6, k7, k8⟩ := cm_cells CS1.out.bx
  obtain ⟨r0, r1, r2, r3, r4, r5, r6, r7, r8⟩ := cm_cells CS1.out.res
  have f := fun i => CS1.out.res.frozen i
  have f0 := f 0
  have f1 := f 1
  have f2 := f 2
  have f3 := f 3
  have f4 := f 4
  have f5 := f 5
  have f6 := f 6
  have f7 := f 7
  have f8 := f 8
  obtain ⟨t0, t1, t2, t3, t4, t5, t6, t7, t8⟩ := cm_cells h4
  unfold set9 at HZ t0 t1 t2 t3 t4 t5 t6 t7 t8
  unfold cmV cmA at HZ
  simp only [c0, s0] at r0 r1 r2 r3 r4 r5 r6 r7 r8
  simp only [List.length_nil] at HZ k0 k1 k2 k3 k4 k5 k6 k7 k8 r0 r1 r2 r3 r4 r5 r6 r7 r8 t0 t1 t2 t3 t4 t5 t6 t7 t8
  clear h1 h2 h3 h4 HS HB f CS1 HR1 hbc
  go_wp2
  refine bodyPost_ret (v := .agg #[.int .i64 6, .int .i64 x1, .slice none 0 0, .int .i64 0, .int .i64 0, .int .i64 0, .slice none 0 0, .int .i64 0, .slice none 0 0]) ?_ rfl HZ.out
  unfold results
  go_simp

end Go.Proofs.Ytgalmkhgbokidaa
