/-
  What is proved here: the reader's command reads the command that the bytes tell.
  What is proved here: Get tells the command that the bytes tell from a place on.
-/
import Derived.Test.YtgalmkhgbokidaaMgI

namespace Go.Proofs.Ytgalmkhgbokidaa
open Go.RowKit Go.Proofs
set_option maxRecDepth 20000
set_option linter.unusedVariables false
set_option linter.unusedSimpArgs false

/-- The end: the command's variable is loaded and laid into the result. -/
structure CE (w : World) (g R C : Nat) (ba : Option Addr) (cap : Nat) (l : List Int) (c : Cm) (s : CmS) (st : Option (List Int)) (W : World) : Prop where
  cs : CS w g R C ba cap l c s st W

theorem cmR1 (P : Nat → Prop) (w : World) (op : Int) : CmR P w ⟨op, 0, [], (0, 0), 0, [], 0, []⟩ s0 := cmR0 P w op 0 (0, 0) 0 0

theorem CS.start {w w1 : World} {g : Nat} {ba : Option Addr} {cap : Nat} {l : List Int} {st : Option (List Int)} (d : Int) (hg : g < w.heap.size) (hbut : But g (w.alloc (.cells (cmA c0 s0) 31)) w1) (hrd : RdS w1 g ba cap l st) :
    CS w g w.heap.size w1.heap.size ba cap l ⟨d, 0, [], (0, 0), 0, [], 0, []⟩ s0 st (w1.alloc (.cells (cmA ⟨d, 0, [], (0, 0), 0, [], 0, []⟩ s0) 31)) :=
  have hb0 : But g w (w.alloc (.cells (cmA c0 s0) 31)) := But.of_below ((Below.refl _ _).alloc (Nat.le_refl _) _)
  have hs : w.heap.size < w1.heap.size := by
    have := hbut.size
    rw [World.size_alloc] at this
    omega
  have hA : Below w1.heap.size w1 (w1.alloc (.cells (cmA ⟨d, 0, [], (0, 0), 0, [], 0, []⟩ s0) 31)) := (Below.refl _ _).alloc (Nat.le_refl _) _
  ⟨(hb0.trans hbut).trans (But.of_below hA), ((Bx.new w _ _).but hbut (by omega)).keep hA, Bx.new _ _ _, hrd.on hA, cmR1 _ _ _, Nat.le_refl _, by omega, hg, by omega⟩

set_option maxHeartbeats 8000000 in
theorem command_bad (w : World) (g : Nat) (ba : Option Addr) (cap : Nat) (l : List Int) (s : Option (List Int)) (hr : RdS w g ba cap l s) (hb : Bts g w ba l) (hc : l.length ≤ cap) (hl : l.length ≤ 1000000000) (hs : ∀ d s1, Rd doB DO s d s1 → s1 = none) :
    Calls Try.prog 40 #[.pointer (some ⟨g, 0, none⟩)] w (RdAns cmdB Nice (RepC (g + 1)) w g ba cap l s) := by
  have hgl := hr.lt
  have BA : Below w.heap.size w (w.alloc (.cells (cmA c0 s0) 31)) := (Below.refl _ _).alloc (Nat.le_refl _) _
  have H1 := hid' (takeDo_any _ g ba cap l s (hr.on BA) (hb.keep (BA.mono (Nat.le_of_lt hgl))) hl)
  have HB := hid' hb
  have HGL := hid' hgl
  have HS := hid' hs
  unfold cmA c0 s0 at H1
  simp only [List.length_nil] at H1
  clear hr hb BA hs
  go_enter Try.func40, Try.ntmps40
  go_wp2_with fail
  refine H1.out.mono ?_
  rintro e w1 ⟨x, v, s1, rfl, hv, hrd1, hrs1, hbut1⟩
  unfold RepI at hv
  subst hv
  clear H1
  have hs1 : s1 = none := HS.out x s1 hrd1
  subst hs1
  have CS0 := CS.start x HGL.out hbut1 hrs1
  obtain ⟨at', _, ⟨r, hbad, _⟩ | ⟨_, hrb⟩⟩ := hrs1
  · cases hbad
  have hbc : (w1.alloc (.cells (cmA ⟨x, 0, [], (0, 0), 0, [], 0, []⟩ s0) 31)).cell? ⟨g, 2, none⟩ = some (.bool true) := (hrb.keep ((Below.refl _ _).alloc (Nat.le_refl _) _)).cell 2
  obtain ⟨h1, h2, h3, h4⟩ := CS0.done
  have HZ : Hid (RdAns cmdB Nice (RepC (g + 1)) w g ba cap l s (.returned (cmV ⟨x, 0, [], (0, 0), 0, [], 0, []⟩ s0)) (set9 (w1.alloc (.cells (cmA ⟨x, 0, [], (0, 0), 0, [], 0, []⟩ s0) 31)) w.heap.size ⟨x, 0, [], (0, 0), 0, [], 0, []⟩ s0)) := ⟨_, _, none, rfl, h1, Rd.cmd hrd1 (fun h => absurd rfl h) (fun _ => rfl), h2, h3⟩
  obtain ⟨r0, r1, r2, r3, r4, r5, r6, r7, r8⟩ := cm_cells CS0.res
  have f := fun i => CS0.res.frozen i
  have f0 := f 0
  have f1 := f 1
  have f2 := f 2
  have f3 := f 3
  have f4 := f 4
  have f5 := f 5
  have f6 := f 6
  have f7 := f 7
  have f8 := f 8
  obtain ⟨t0, t1, t2, t3, t4, t5, t6, t7, t8⟩ := cm_cells h4
  unfold set9 at HZ t0 t1 t2 t3 t4 t5 t6 t7 t8
  unfold cmV at HZ
  unfold cmA s0 at HZ hbc r0 r1 r2 r3 r4 r5 r6 r7 r8 f0 f1 f2 f3 f4 f5 f6 f7 f8 t0 t1 t2 t3 t4 t5 t6 t7 t8
  unfold c0 at r0 r1 r2 r3 r4 r5 r6 r7 r8
  simp only [List.length_nil] at HZ hbc r0 r1 r2 r3 r4 r5 r6 r7 r8 f0 f1 f2 f3 f4 f5 f6 f7 f8 t0 t1 t2 t3 t4 t5 t6 t7 t8
  clear CS0 h1 h2 h3 h4 hrd1 hbut1 hrb HS HB f
  go_wp2
  refine bodyPost_ret (v := .agg #[.int .i64 x, .int .i64 0, .slice none 0 0, .int .i64 0, .int .i64 0, .int .i64 0, .slice none 0 0, .int .i64 0, .slice none 0 0]) ?_ rfl HZ.out
  unfold results
  go_simp

set_option maxHeartbeats 8000000 in
theorem command0 (w : World) (g : Nat) (ba : Option Addr) (cap : Nat) (l : List Int) (s : Option (List Int)) (hr : RdS w g ba cap l s) (hb : Bts g w ba l) (hc : l.length ≤ cap) (hl : l.length ≤ 1000000000) (t : List Int) (hs : s = some (0 :: t)) :
    Calls Try.prog 40 #[.pointer (some ⟨g, 0, none⟩)] w (RdAns cmdB Nice (RepC (g + 1)) w g ba cap l s) := by
  have hgl := hr.lt
  have BA : Below w.heap.size w (w.alloc (.cells (cmA c0 s0) 31)) := (Below.refl _ _).alloc (Nat.le_refl _) _
  have H1 := hid' (takeDo_any _ g ba cap l s (hr.on BA) (hb.keep (BA.mono (Nat.le_of_lt hgl))) hl)
  have HB := hid' hb
  have HGL := hid' hgl
  have HS := hid' hs
  unfold cmA c0 s0 at H1
  simp only [List.length_nil] at H1
  clear hr hb BA hs
  go_enter Try.func40, Try.ntmps40
  go_wp2_with fail
  refine H1.out.mono ?_
  rintro e w1 ⟨x, v, s1, rfl, hv, hrd1, hrs1, hbut1⟩
  unfold RepI at hv
  subst hv
  clear H1
  obtain ⟨hx, hs1⟩ : x = 0 ∧ s1 = some t := by
    have e := HS.out
    subst e
    cases s1 with
    | none => exact absurd rfl (hrd1 0 t (by unfold DO; omega))
    | some r1 =>
      have := hrd1.2
      simp [doB] at this
      exact ⟨this.1.symm, by rw [this.2]⟩
  subst hx hs1
  have HR1 := hid' hrd1
  have CS0 := hid' (CS.start 0 HGL.out hbut1 hrs1)
  have hCl : g < w1.heap.size := by have := hbut1.size; rw [World.size_alloc] at this; omega
  obtain ⟨at', _, ⟨r, _, _, hrb⟩ | ⟨hbad, _⟩⟩ := hrs1
  case inr => cases hbad
  have hbc : (w1.alloc (.cells (cmA ⟨0, 0, [], (0, 0), 0, [], 0, []⟩ s0) 31)).cell? ⟨g, 2, none⟩ = some (.bool false) := (hrb.keep ((Below.refl _ _).alloc (Nat.le_refl _) _)).cell 2
  unfold cmA s0 at hbc CS0
  simp only [List.length_nil] at hbc CS0
  clear hrd1 hbut1 hrb
  go_wp2_with fail
  refine (usedBy_at 0 4 (by decide) _).mono ?_
  rintro e wx ⟨rfl, rfl⟩
  go_wp2_with fail
  refine (has_at 4 1 false (by decide) _).mono ?_
  rintro e wx ⟨rfl, rfl⟩
  go_wp2_with fail
  refine (has_at 4 2 false (by decide) _).mono ?_
  rintro e wx ⟨rfl, rfl⟩
  go_wp2_with fail
  refine (has_at 4 4 true (by decide) _).mono ?_
  rintro e wx ⟨rfl, rfl⟩
  go_wp2_with fail
  refine (takeSheet_any _ g ba cap l _ CS0.out.rd (CS0.out.bts HB.out) hc hl (w1.heap.size + 1) (by omega) (by have := CS0.out.bx.lt; omega)).mono ?_
  rintro e w2 ⟨x1, v, s2, rfl, hv, hrd2, hrs2, hbut2⟩
  obtain ⟨a1, c1, hv, hp1, hsh1, hby1⟩ := hv
  subst hv
  have HRC : Hid (w.heap.size < w1.heap.size) := by have := CS0.out.hC; have := CS0.out.hRC; unfold Hid; omega
  have CT1 := CS0.out.call hbut2 hrs2
  have h1 := CT1.cm
  have o1_8 := CT1.bx.cell 8
  have f1_8 := CT1.bx.frozen 8
  have HRD2 := hid' hrd2
  have CS1 : Hid (CS w g w.heap.size w1.heap.size ba cap l ⟨0, 0, [], (0, 0), 0, [], 0, x1⟩ ⟨none, 0, none, 0, a1, c1⟩ s2 (w2.setCell ⟨w1.heap.size, 8, none⟩ (.slice a1 x1.length c1))) := CT1.set (i := 8) (v := .slice a1 x1.length c1) (by simp [cmA]) (CmR.mk h1.row h1.front (SP.mono hp1 (fun k hk => by unfold Since at hk; have := HRC.out; omega)) hby1 h1.hr h1.hf hsh1)
  clear CT1 hrd2 hrs2 hbut2 h1 CS0 hp1 hsh1 HRC
  simp [cmA] at o1_8
  go_wp2_with fail
  refine (has_at 4 8 false (by decide) _).mono ?_
  rintro e wx ⟨rfl, rfl⟩
  go_wp2_with fail
  refine (has_at 4 16 false (by decide) _).mono ?_
  rintro e wx ⟨rfl, rfl⟩
  go_wp2_with fail
  refine (has_at 4 32 false (by decide) _).mono ?_
  rintro e wx ⟨rfl, rfl⟩
  go_wp2_with fail
  refine (has_at 4 64 false (by decide) _).mono ?_
  rintro e wx ⟨rfl, rfl⟩
  obtain ⟨h1, h2, h3, h4⟩ := CS1.out.done
  have HZ := hid' (⟨_, _, _, rfl, h1, Rd.cmd HR1.out (fun _ => rest0 HRD2.out) (fun h => by cases h), h2, h3⟩ : RdAns cmdB Nice (RepC (g + 1)) w g ba cap l s (.returned (cmV ⟨0, 0, [], (0, 0), 0, [], 0, x1⟩ ⟨none, 0, none, 0, a1, c1⟩)) _)
  obtain ⟨k0, k1, k2, k3, k4, k5, k6, k7, k8⟩ := cm_cells CS1.out.bx
  obtain ⟨r0, r1, r2, r3, r4, r5, r6, r7, r8⟩ := cm_cells CS1.out.res
  have f := fun i => CS1.out.res.frozen i
  have f0 := f 0
  have f1 := f 1
  have f2 := f 2
  have f3 := f 3
  have f4 := f 4
  have f5 := f 5
  have f6 := f 6
  have f7 := f 7
  have f8 := f 8
  obtain ⟨t0, t1, t2, t3, t4, t5, t6, t7, t8⟩ := cm_cells h4
  unfold set9 at HZ t0 t1 t2 t3 t4 t5 t6 t7 t8
  unfold cmV cmA at HZ
  simp only [c0, s0] at r0 r1 r2 r3 r4 r5 r6 r7 r8
  simp only [List.length_nil] at HZ k0 k1 k2 k3 k4 k5 k6 k7 k8 r0 r1 r2 r3 r4 r5 r6 r7 r8 t0 t1 t2 t3 t4 t5 t6 t7 t8
  clear h1 h2 h3 h4 HS HB f CS1 HR1 hbc
  go_wp2
  refine bodyPost_ret (v := .agg #[.int .i64 0, .int .i64 0, .slice none 0 0, .int .i64 0, .int .i64 0, .int .i64 0, .slice none 0 0, .int .i64 0, .slice a1 x1.length c1]) ?_ rfl HZ.out
  unfold results
  go_simp

set_option maxHeartbeats 8000000 in
theorem command1 (w : World) (g : Nat) (ba : Option Addr) (cap : Nat) (l : List Int) (s : Option (List Int)) (hr : RdS w g ba cap l s) (hb : Bts g w ba l) (hc : l.length ≤ cap) (hl : l.length ≤ 1000000000) (t : List Int) (hs : s = some (1 :: t)) :
    Calls Try.prog 40 #[.pointer (some ⟨g, 0, none⟩)] w (RdAns cmdB Nice (RepC (g + 1)) w g ba cap l s) := by
  have hgl := hr.lt
  have BA : Below w.heap.size w (w.alloc (.cells (cmA c0 s0) 31)) := (Below.refl _ _).alloc (Nat.le_refl _) _
  have H1 := hid' (takeDo_any _ g ba cap l s (hr.on BA) (hb.keep (BA.mono (Nat.le_of_lt hgl))) hl)
  have HB := hid' hb
  have HGL := hid' hgl
  have HS := hid' hs
  unfold cmA c0 s0 at H1
  simp only [List.length_nil] at H1
  clear hr hb BA hs
  go_enter Try.func40, Try.ntmps40
  go_wp2_with fail
  refine H1.out.mono ?_
  rintro e w1 ⟨x, v, s1, rfl, hv, hrd1, hrs1, hbut1⟩
  unfold RepI at hv
  subst hv
  clear H1
  obtain ⟨hx, hs1⟩ : x = 1 ∧ s1 = some t := by
    have e := HS.out
    subst e
    cases s1 with
    | none => exact absurd rfl (hrd1 1 t (by unfold DO; omega))
    | some r1 =>
      have := hrd1.2
      simp [doB] at this
      exact ⟨this.1.symm, by rw [this.2]⟩
  subst hx hs1
  have HR1 := hid' hrd1
  have CS0 := hid' (CS.start 1 HGL.out hbut1 hrs1)
  have hCl : g < w1.heap.size := by have := hbut1.size; rw [World.size_alloc] at this; omega
  obtain ⟨at', _, ⟨r, _, _, hrb⟩ | ⟨hbad, _⟩⟩ := hrs1
  case inr => cases hbad
  have hbc : (w1.alloc (.cells (cmA ⟨1, 0, [], (0, 0), 0, [], 0, []⟩ s0) 31)).cell? ⟨g, 2, none⟩ = some (.bool false) := (hrb.keep ((Below.refl _ _).alloc (Nat.le_refl _) _)).cell 2
  unfold cmA s0 at hbc CS0
  simp only [List.length_nil] at hbc CS0
  clear hrd1 hbut1 hrb
  go_wp2_with fail
  refine (usedBy_at 1 57 (by decide) _).mono ?_
  rintro e wx ⟨rfl, rfl⟩
  go_wp2_with fail
  refine (has_at 57 1 true (by decide) _).mono ?_
  rintro e wx ⟨rfl, rfl⟩
  go_wp2_with fail
  refine (takeInt_any _ g ba cap l _ CS0.out.rd (CS0.out.bts HB.out) hc hl).mono ?_
  rintro e w2 ⟨x1, v, s2, rfl, hv, hrd2, hrs2, hbut2⟩
  unfold RepI at hv
  subst hv
  have CT1 := CS0.out.call hbut2 hrs2
  have h1 := CT1.cm
  have o1_1 := CT1.bx.cell 1
  have f1_1 := CT1.bx.frozen 1
  have HRD2 := hid' hrd2
  have CS1 : Hid (CS w g w.heap.size w1.heap.size ba cap l ⟨1, x1, [], (0, 0), 0, [], 0, []⟩ ⟨none, 0, none, 0, none, 0⟩ s2 (w2.setCell ⟨w1.heap.size, 1, none⟩ (.int .i64 x1))) := CT1.set (i := 1) (v := .int .i64 x1) (by simp [cmA]) (CmR.mk h1.row h1.front h1.sheet h1.byt h1.hr h1.hf h1.hs)
  clear CT1 hrd2 hrs2 hbut2 h1 CS0
  simp [cmA] at o1_1
  go_wp2_with fail
  refine (has_at 57 2 false (by decide) _).mono ?_
  rintro e wx ⟨rfl, rfl⟩
  go_wp2_with fail
  refine (has_at 57 4 false (by decide) _).mono ?_
  rintro e wx ⟨rfl, rfl⟩
  go_wp2_with fail
  refine (has_at 57 8 true (by decide) _).mono ?_
  rintro e wx ⟨rfl, rfl⟩
  go_wp2_with fail
  refine (takeRow_any _ g ba cap l _ CS1.out.rd (CS1.out.bts HB.out) hc hl (w1.heap.size + 1) (by omega) (by have := CS1.out.bx.lt; omega)).mono ?_
  rintro e w3 ⟨x2, v, s3, rfl, hv, hrd3, hrs3, hbut3⟩
  obtain ⟨a2, c2, hv, hp2, hsh2⟩ := hv
  subst hv
  have HRC : Hid (w.heap.size < w1.heap.size) := by have := CS1.out.hC; have := CS1.out.hRC; unfold Hid; omega
  have CT2 := CS1.out.call hbut3 hrs3
  have h2 := CT2.cm
  have o2_2 := CT2.bx.cell 2
  have f2_2 := CT2.bx.frozen 2
  have HRD3 := hid' hrd3
  have CS2 : Hid (CS w g w.heap.size w1.heap.size ba cap l ⟨1, x1, x2, (0, 0), 0, [], 0, []⟩ ⟨a2, c2, none, 0, none, 0⟩ s3 (w3.setCell ⟨w1.heap.size, 2, none⟩ (.slice a2 x2.length c2))) := CT2.set (i := 2) (v := .slice a2 x2.length c2) (by simp [cmA]) (CmR.mk (SP.mono hp2 (fun k hk => by unfold Since at hk; have := HRC.out; omega)) h2.front h2.sheet h2.byt hsh2 h2.hf h2.hs)
  clear CT2 hrd3 hrs3 hbut3 h2 CS1 hp2 hsh2 HRC
  simp [cmA] at o2_2
  go_wp2_with fail
  refine (has_at 57 16 true (by decide) _).mono ?_
  rintro e wx ⟨rfl, rfl⟩
  go_wp2_with fail
  refine (time_any _ g ba cap l _ CS2.out.rd (CS2.out.bts HB.out) hc hl).mono ?_
  rintro e w4 ⟨x3, v, s4, rfl, hv, hrd4, hrs4, hbut4⟩
  unfold RepT at hv
  subst hv
  obtain ⟨xt3, xu3⟩ := x3
  have CT3 := CS2.out.call hbut4 hrs4
  have h3 := CT3.cm
  have o3_3 := CT3.bx.cell 3
  have f3_3 := CT3.bx.frozen 3
  have o3_4 := CT3.bx.cell 4
  have f3_4 := CT3.bx.frozen 4
  have HRD4 := hid' hrd4
  have CS3 : Hid (CS w g w.heap.size w1.heap.size ba cap l ⟨1, x1, x2, (xt3, xu3), 0, [], 0, []⟩ ⟨a2, c2, none, 0, none, 0⟩ s4 ((w4.setCell ⟨w1.heap.size, 3, none⟩ (.int .i64 xt3)).setCell ⟨w1.heap.size, 4, none⟩ (.int .i64 xu3))) := CT3.set2 (i := 3) (j := 4) (v := .int .i64 xt3) (u := .int .i64 xu3) (by simp [cmA]) (CmR.mk h3.row h3.front h3.sheet h3.byt h3.hr h3.hf h3.hs)
  clear CT3 hrd4 hrs4 hbut4 h3 CS2
  simp [cmA] at o3_3 o3_4
  go_wp2_with fail
  refine (has_at 57 32 true (by decide) _).mono ?_
  rintro e wx ⟨rfl, rfl⟩
  go_wp2_with fail
  refine (takeInt_any _ g ba cap l _ CS3.out.rd (CS3.out.bts HB.out) hc hl).mono ?_
  rintro e w5 ⟨x4, v, s5, rfl, hv, hrd5, hrs5, hbut5⟩
  unfold RepI at hv
  subst hv
  have CT4 := CS3.out.call hbut5 hrs5
  have h4 := CT4.cm
  have o4_5 := CT4.bx.cell 5
  have f4_5 := CT4.bx.frozen 5
  have HRD5 := hid' hrd5
  have CS4 : Hid (CS w g w.heap.size w1.heap.size ba cap l ⟨1, x1, x2, (xt3, xu3), x4, [], 0, []⟩ ⟨a2, c2, none, 0, none, 0⟩ s5 (w5.setCell ⟨w1.heap.size, 5, none⟩ (.int .i64 x4))) := CT4.set (i := 5) (v := .int .i64 x4) (by simp [cmA]) (CmR.mk h4.row h4.front h4.sheet h4.byt h4.hr h4.hf h4.hs)
  clear CT4 hrd5 hrs5 hbut5 h4 CS3
  simp [cmA] at o4_5
  go_wp2_with fail
  refine (has_at 57 64 false (by decide) _).mono ?_
  rintro e wx ⟨rfl, rfl⟩
  obtain ⟨h1, h2, h3, h4⟩ := CS4.out.done
  have HZ := hid' (⟨_, _, _, rfl, h1, Rd.cmd HR1.out (fun _ => rest1 HRD2.out HRD3.out HRD4.out HRD5.out) (fun h => by cases h), h2, h3⟩ : RdAns cmdB Nice (RepC (g + 1)) w g ba cap l s (.returned (cmV ⟨1, x1, x2, (xt3, xu3), x4, [], 0, []⟩ ⟨a2, c2, none, 0, none, 0⟩)) _)
  obtain ⟨k0, k1, k2, k3, k4, k5, k6, k7, k8⟩ := cm_cells CS4.out.bx
  obtain ⟨r0, r1, r2, r3, r4, r5, r6, r7, r8⟩ := cm_cells CS4.out.res
  have f := fun i => CS4.out.res.frozen i
  have f0 := f 0
  have f1 := f 1
  have f2 := f 2
  have f3 := f 3
  have f4 := f 4
  have f5 := f 5
  have f6 := f 6
  have f7 := f 7
  have f8 := f 8
  obtain ⟨t0, t1, t2, t3, t4, t5, t6, t7, t8⟩ := cm_cells h4
  unfold set9 at HZ t0 t1 t2 t3 t4 t5 t6 t7 t8
  unfold cmV cmA at HZ
  simp only [c0, s0] at r0 r1 r2 r3 r4 r5 r6 r7 r8
  simp only [List.length_nil] at HZ k0 k1 k2 k3 k4 k5 k6 k7 k8 r0 r1 r2 r3 r4 r5 r6 r7 r8 t0 t1 t2 t3 t4 t5 t6 t7 t8
  clear h1 h2 h3 h4 HS HB f CS4 HR1 hbc
  go_wp2
  refine bodyPost_ret (v := .agg #[.int .i64 1, .int .i64 x1, .slice a2 x2.length c2, .int .i64 xt3, .int .i64 xu3, .int .i64 x4, .slice none 0 0, .int .i64 0, .slice none 0 0]) ?_ rfl HZ.out
  unfold results
  go_simp

set_option maxHeartbeats 8000000 in
theorem command2 (w : World) (g : Nat) (ba : Option Addr) (cap : Nat) (l : List Int) (s : Option (List Int)) (hr : RdS w g ba cap l s) (hb : Bts g w ba l) (hc : l.length ≤ cap) (hl : l.length ≤ 1000000000) (t : List Int) (hs : s = some (2 :: t)) :
    Calls Try.prog 40 #[.pointer (some ⟨g, 0, none⟩)] w (RdAns cmdB Nice (RepC (g + 1)) w g ba cap l s) := by
  have hgl := hr.lt
  have BA : Below w.heap.size w (w.alloc (.cells (cmA c0 s0) 31)) := (Below.refl _ _).alloc (Nat.le_refl _) _
  have H1 := hid' (takeDo_any _ g ba cap l s (hr.on BA) (hb.keep (BA.mono (Nat.le_of_lt hgl))) hl)
  have HB := hid' hb
  have HGL := hid' hgl
  have HS := hid' hs
  unfold cmA c0 s0 at H1
  simp only [List.length_nil] at H1
  clear hr hb BA hs
  go_enter Try.func40, Try.ntmps40
  go_wp2_with fail
  refine H1.out.mono ?_
  rintro e w1 ⟨x, v, s1, rfl, hv, hrd1, hrs1, hbut1⟩
  unfold RepI at hv
  subst hv
  clear H1
  obtain ⟨hx, hs1⟩ : x = 2 ∧ s1 = some t := by
    have e := HS.out
    subst e
    cases s1 with
    | none => exact absurd rfl (hrd1 2 t (by unfold DO; omega))
    | some r1 =>
      have := hrd1.2
      simp [doB] at this
      exact ⟨this.1.symm, by rw [this.2]⟩
  subst hx hs1
  have HR1 := hid' hrd1
  have CS0 := hid' (CS.start 2 HGL.out hbut1 hrs1)
  have hCl : g < w1.heap.size := by have := hbut1.size; rw [World.size_alloc] at this; omega
  obtain ⟨at', _, ⟨r, _, _, hrb⟩ | ⟨hbad, _⟩⟩ := hrs1
  case inr => cases hbad
  have hbc : (w1.alloc (.cells (cmA ⟨2, 0, [], (0, 0), 0, [], 0, []⟩ s0) 31)).cell? ⟨g, 2, none⟩ = some (.bool false) := (hrb.keep ((Below.refl _ _).alloc (Nat.le_refl _) _)).cell 2
  unfold cmA s0 at hbc CS0
  simp only [List.length_nil] at hbc CS0
  clear hrd1 hbut1 hrb
  go_wp2_with fail
  refine (usedBy_at 2 65 (by decide) _).mono ?_
  rintro e wx ⟨rfl, rfl⟩
  go_wp2_with fail
  refine (has_at 65 1 true (by decide) _).mono ?_
  rintro e wx ⟨rfl, rfl⟩
  go_wp2_with fail
  refine (takeInt_any _ g ba cap l _ CS0.out.rd (CS0.out.bts HB.out) hc hl).mono ?_
  rintro e w2 ⟨x1, v, s2, rfl, hv, hrd2, hrs2, hbut2⟩
  unfold RepI at hv
  subst hv
  have CT1 := CS0.out.call hbut2 hrs2
  have h1 := CT1.cm
  have o1_1 := CT1.bx.cell 1
  have f1_1 := CT1.bx.frozen 1
  have HRD2 := hid' hrd2
  have CS1 : Hid (CS w g w.heap.size w1.heap.size ba cap l ⟨2, x1, [], (0, 0), 0, [], 0, []⟩ ⟨none, 0, none, 0, none, 0⟩ s2 (w2.setCell ⟨w1.heap.size, 1, none⟩ (.int .i64 x1))) := CT1.set (i := 1) (v := .int .i64 x1) (by simp [cmA]) (CmR.mk h1.row h1.front h1.sheet h1.byt h1.hr h1.hf h1.hs)
  clear CT1 hrd2 hrs2 hbut2 h1 CS0
  simp [cmA] at o1_1
  go_wp2_with fail
  refine (has_at 65 2 false (by decide) _).mono ?_
  rintro e wx ⟨rfl, rfl⟩
  go_wp2_with fail
  refine (has_at 65 4 false (by decide) _).mono ?_
  rintro e wx ⟨rfl, rfl⟩
  go_wp2_with fail
  refine (has_at 65 8 false (by decide) _).mono ?_
  rintro e wx ⟨rfl, rfl⟩
  go_wp2_with fail
  refine (has_at 65 16 false (by decide) _).mono ?_
  rintro e wx ⟨rfl, rfl⟩
  go_wp2_with fail
  refine (has_at 65 32 false (by decide) _).mono ?_
  rintro e wx ⟨rfl, rfl⟩
  go_wp2_with fail
  refine (has_at 65 64 true (by decide) _).mono ?_
  rintro e wx ⟨rfl, rfl⟩
  go_wp2_with fail
  refine (takeFront_any _ g ba cap l _ CS1.out.rd (CS1.out.bts HB.out) hc hl (w1.heap.size + 1) (by omega) (by have := CS1.out.bx.lt; omega)).mono ?_
  rintro e w3 ⟨x2, v, s3, rfl, hv, hrd3, hrs3, hbut3⟩
  obtain ⟨a2, c2, hv, hp2, hsh2⟩ := hv
  subst hv
  have HRC : Hid (w.heap.size < w1.heap.size) := by have := CS1.out.hC; have := CS1.out.hRC; unfold Hid; omega
  have CT2 := CS1.out.call hbut3 hrs3
  have h2 := CT2.cm
  have o2_6 := CT2.bx.cell 6
  have f2_6 := CT2.bx.frozen 6
  have HRD3 := hid' hrd3
  have CS2 : Hid (CS w g w.heap.size w1.heap.size ba cap l ⟨2, x1, [], (0, 0), 0, x2, 0, []⟩ ⟨none, 0, a2, c2, none, 0⟩ s3 (w3.setCell ⟨w1.heap.size, 6, none⟩ (.slice a2 x2.length c2))) := CT2.set (i := 6) (v := .slice a2 x2.length c2) (by simp [cmA]) (CmR.mk h2.row (SP.mono hp2 (fun k hk => by unfold Since at hk; have := HRC.out; omega)) h2.sheet h2.byt h2.hr hsh2 h2.hs)
  clear CT2 hrd3 hrs3 hbut3 h2 CS1 hp2 hsh2 HRC
  simp [cmA] at o2_6
  obtain ⟨h1, h2, h3, h4⟩ := CS2.out.done
  have HZ := hid' (⟨_, _, _, rfl, h1, Rd.cmd HR1.out (fun _ => rest2 HRD2.out HRD3.out) (fun h => by cases h), h2, h3⟩ : RdAns cmdB Nice (RepC (g + 1)) w g ba cap l s (.returned (cmV ⟨2, x1, [], (0, 0), 0, x2, 0, []⟩ ⟨none, 0, a2, c2, none, 0⟩)) _)
  obtain ⟨k0, k1, k2, k3, k4, k5, k6, k7, k8⟩ := cm_cells CS2.out.bx
  obtain ⟨r0, r1, r2, r3, r4, r5, r6, r7, r8⟩ := cm_cells CS2.out.res
  have f := fun i => CS2.out.res.frozen i
  have f0 := f 0
  have f1 := f 1
  have f2 := f 2
  have f3 := f 3
  have f4 := f 4
  have f5 := f 5
  have f6 := f 6
  have f7 := f 7
  have f8 := f 8
  obtain ⟨t0, t1, t2, t3, t4, t5, t6, t7, t8⟩ := cm_cells h4
  unfold set9 at HZ t0 t1 t2 t3 t4 t5 t6 t7 t8
  unfold cmV cmA at HZ
  simp only [c0, s0] at r0 r1 r2 r3 r4 r5 r6 r7 r8
  simp only [List.length_nil] at HZ k0 k1 k2 k3 k4 k5 k6 k7 k8 r0 r1 r2 r3 r4 r5 r6 r7 r8 t0 t1 t2 t3 t4 t5 t6 t7 t8
  clear h1 h2 h3 h4 HS HB f CS2 HR1 hbc
  go_wp2
  refine bodyPost_ret (v := .agg #[.int .i64 2, .int .i64 x1, .slice none 0 0, .int .i64 0, .int .i64 0, .int .i64 0, .slice a2 x2.length c2, .int .i64 0, .slice none 0 0]) ?_ rfl HZ.out
  unfold results
  go_simp

set_option maxHeartbeats 8000000 in
theorem command3 (w : World) (g : Nat) (ba : Option Addr) (cap : Nat) (l : List Int) (s : Option (List Int)) (hr : RdS w g ba cap l s) (hb : Bts g w ba l) (hc : l.length ≤ cap) (hl : l.length ≤ 1000000000) (t : List Int) (hs : s = some (3 :: t)) :
    Calls Try.prog 40 #[.pointer (some ⟨g, 0, none⟩)] w (RdAns cmdB Nice (RepC (g + 1)) w g ba cap l s) := by
  have hgl := hr.lt
  have BA : Below w.heap.size w (w.alloc (.cells (cmA c0 s0) 31)) := (Below.refl _ _).alloc (Nat.le_refl _) _
  have H1 := hid' (takeDo_any _ g ba cap l s (hr.on BA) (hb.keep (BA.mono (Nat.le_of_lt hgl))) hl)
  have HB := hid' hb
  have HGL := hid' hgl
  have HS := hid' hs
  unfold cmA c0 s0 at H1
  simp only [List.length_nil] at H1
  clear hr hb BA hs
  go_enter Try.func40, Try.ntmps40
  go_wp2_with fail
  refine H1.out.mono ?_
  rintro e w1 ⟨x, v, s1, rfl, hv, hrd1, hrs1, hbut1⟩
  unfold RepI at hv
  subst hv
  clear H1
  obtain ⟨hx, hs1⟩ : x = 3 ∧ s1 = some t := by
    have e := HS.out
    subst e
    cases s1 with
    | none => exact absurd rfl (hrd1 3 t (by unfold DO; omega))
    | some r1 =>
      have := hrd1.2
      simp [doB] at this
      exact ⟨this.1.symm, by rw [this.2]⟩
  subst hx hs1
  have HR1 := hid' hrd1
  have CS0 := hid' (CS.start 3 HGL.out hbut1 hrs1)
  have hCl : g < w1.heap.size := by have := hbut1.size; rw [World.size_alloc] at this; omega
  obtain ⟨at', _, ⟨r, _, _, hrb⟩ | ⟨hbad, _⟩⟩ := hrs1
  case inr => cases hbad
  have hbc : (w1.alloc (.cells (cmA ⟨3, 0, [], (0, 0), 0, [], 0, []⟩ s0) 31)).cell? ⟨g, 2, none⟩ = some (.bool false) := (hrb.keep ((Below.refl _ _).alloc (Nat.le_refl _) _)).cell 2
  unfold cmA s0 at hbc CS0
  simp only [List.length_nil] at hbc CS0
  clear hrd1 hbut1 hrb
  go_wp2_with fail
  refine (usedBy_at 3 3 (by decide) _).mono ?_
  rintro e wx ⟨rfl, rfl⟩
  go_wp2_with fail
  refine (has_at 3 1 true (by decide) _).mono ?_
  rintro e wx ⟨rfl, rfl⟩
  go_wp2_with fail
  refine (takeInt_any _ g ba cap l _ CS0.out.rd (CS0.out.bts HB.out) hc hl).mono ?_
  rintro e w2 ⟨x1, v, s2, rfl, hv, hrd2, hrs2, hbut2⟩
  unfold RepI at hv
  subst hv
  have CT1 := CS0.out.call hbut2 hrs2
  have h1 := CT1.cm
  have o1_1 := CT1.bx.cell 1
  have f1_1 := CT1.bx.frozen 1
  have HRD2 := hid' hrd2
  have CS1 : Hid (CS w g w.heap.size w1.heap.size ba cap l ⟨3, x1, [], (0, 0), 0, [], 0, []⟩ ⟨none, 0, none, 0, none, 0⟩ s2 (w2.setCell ⟨w1.heap.size, 1, none⟩ (.int .i64 x1))) := CT1.set (i := 1) (v := .int .i64 x1) (by simp [cmA]) (CmR.mk h1.row h1.front h1.sheet h1.byt h1.hr h1.hf h1.hs)
  clear CT1 hrd2 hrs2 hbut2 h1 CS0
  simp [cmA] at o1_1
  go_wp2_with fail
  refine (has_at 3 2 true (by decide) _).mono ?_
  rintro e wx ⟨rfl, rfl⟩
  go_wp2_with fail
  refine (takeInt_any _ g ba cap l _ CS1.out.rd (CS1.out.bts HB.out) hc hl).mono ?_
  rintro e w3 ⟨x2, v, s3, rfl, hv, hrd3, hrs3, hbut3⟩
  unfold RepI at hv
  subst hv
  have CT2 := CS1.out.call hbut3 hrs3
  have h2 := CT2.cm
  have o2_7 := CT2.bx.cell 7
  have f2_7 := CT2.bx.frozen 7
  have HRD3 := hid' hrd3
  have CS2 : Hid (CS w g w.heap.size w1.heap.size ba cap l ⟨3, x1, [], (0, 0), 0, [], x2, []⟩ ⟨none, 0, none, 0, none, 0⟩ s3 (w3.setCell ⟨w1.heap.size, 7, none⟩ (.int .i64 x2))) := CT2.set (i := 7) (v := .int .i64 x2) (by simp [cmA]) (CmR.mk h2.row h2.front h2.sheet h2.byt h2.hr h2.hf h2.hs)
  clear CT2 hrd3 hrs3 hbut3 h2 CS1
  simp [cmA] at o2_7
  go_wp2_with fail
  refine (has_at 3 4 false (by decide) _).mono ?_
  rintro e wx ⟨rfl, rfl⟩
  go_wp2_with fail
  refine (has_at 3 8 false (by decide) _).mono ?_
  rintro e wx ⟨rfl, rfl⟩
  go_wp2_with fail
  refine (has_at 3 16 false (by decide) _).mono ?_
  rintro e wx ⟨rfl, rfl⟩
  go_wp2_with fail
  refine (has_at 3 32 false (by decide) _).mono ?_
  rintro e wx ⟨rfl, rfl⟩
  go_wp2_with fail
  refine (has_at 3 64 false (by decide) _).mono ?_
  rintro e wx ⟨rfl, rfl⟩
  obtain ⟨h1, h2, h3, h4⟩ := CS2.out.done
  have HZ := hid' (⟨_, _, _, rfl, h1, Rd.cmd HR1.out (fun _ => rest3 HRD2.out HRD3.out) (fun h => by cases h), h2, h3⟩ : RdAns cmdB Nice (RepC (g + 1)) w g ba cap l s (.returned (cmV ⟨3, x1, [], (0, 0), 0, [], x2, []⟩ ⟨none, 0, none, 0, none, 0⟩)) _)
  obtain ⟨k0, k1, k2, k3, k4, k5, k6, k7, k8⟩ := cm_cells CS2.out.bx
  obtain ⟨r0, r1, r2, r3, r4, r5, r6, r7, r8⟩ := cm_cells CS2.out.res
  have f := fun i => CS2.out.res.frozen i
  have f0 := f 0
  have f1 := f 1
  have f2 := f 2
  have f3 := f 3
  have f4 := f 4
  have f5 := f 5
  have f6 := f 6
  have f7 := f 7
  have f8 := f 8
  obtain ⟨t0, t1, t2, t3, t4, t5, t6, t7, t8⟩ := cm_cells h4
  unfold set9 at HZ t0 t1 t2 t3 t4 t5 t6 t7 t8
  unfold cmV cmA at HZ
  simp only [c0, s0] at r0 r1 r2 r3 r4 r5 r6 r7 r8
  simp only [List.length_nil] at HZ k0 k1 k2 k3 k4 k5 k6 k7 k8 r0 r1 r2 r3 r4 r5 r6 r7 r8 t0 t1 t2 t3 t4 t5 t6 t7 t8
  clear h1 h2 h3 h4 HS HB f CS2 HR1 hbc
  go_wp2
  refine bodyPost_ret (v := .agg #[.int .i64 3, .int .i64 x1, .slice none 0 0, .int .i64 0, .int .i64 0, .int .i64 0, .slice none 0 0, .int .i64 x2, .slice none 0 0]) ?_ rfl HZ.out
  unfold results
  go_simp

set_option maxHeartbeats 8000000 in
theorem command4 (w : World) (g : Nat) (ba : Option Addr) (cap : Nat) (l : List Int) (s : Option (List Int)) (hr : RdS w g ba cap l s) (hb : Bts g w ba l) (hc : l.length ≤ cap) (hl : l.length ≤ 1000000000) (t : List Int) (hs : s = some (4 :: t)) :
    Calls Try.prog 40 #[.pointer (some ⟨g, 0, none⟩)] w (RdAns cmdB Nice (RepC (g + 1)) w g ba cap l s) := by
  have hgl := hr.lt
  have BA : Below w.heap.size w (w.alloc (.cells (cmA c0 s0) 31)) := (Below.refl _ _).alloc (Nat.le_refl _) _
  have H1 := hid' (takeDo_any _ g ba cap l s (hr.on BA) (hb.keep (BA.mono (Nat.le_of_lt hgl))) hl)
  have HB := hid' hb
  have HGL := hid' hgl
  have HS := hid' hs
  unfold cmA c0 s0 at H1
  simp only [List.length_nil] at H1
  clear hr hb BA hs
  go_enter Try.func40, Try.ntmps40
  go_wp2_with fail
  refine H1.out.mono ?_
  rintro e w1 ⟨x, v, s1, rfl, hv, hrd1, hrs1, hbut1⟩
  unfold RepI at hv
  subst hv
  clear H1
  obtain ⟨hx, hs1⟩ : x = 4 ∧ s1 = some t := by
    have e := HS.out
    subst e
    cases s1 with
    | none => exact absurd rfl (hrd1 4 t (by unfold DO; omega))
    | some r1 =>
      have := hrd1.2
      simp [doB] at this
      exact ⟨this.1.symm, by rw [this.2]⟩
  subst hx hs1
  have HR1 := hid' hrd1
  have CS0 := hid' (CS.start 4 HGL.out hbut1 hrs1)
  have hCl : g < w1.heap.size := by have := hbut1.size; rw [World.size_alloc] at this; omega
  obtain ⟨at', _, ⟨r, _, _, hrb⟩ | ⟨hbad, _⟩⟩ := hrs1
  case inr => cases hbad
  have hbc : (w1.alloc (.cells (cmA ⟨4, 0, [], (0, 0), 0, [], 0, []⟩ s0) 31)).cell? ⟨g, 2, none⟩ = some (.bool false) := (hrb.keep ((Below.refl _ _).alloc (Nat.le_refl _) _)).cell 2
  unfold cmA s0 at hbc CS0
  simp only [List.length_nil] at hbc CS0
  clear hrd1 hbut1 hrb
  go_wp2_with fail
  refine (usedBy_at 4 65 (by decide) _).mono ?_
  rintro e wx ⟨rfl, rfl⟩
  go_wp2_with fail
  refine (has_at 65 1 true (by decide) _).mono ?_
  rintro e wx ⟨rfl, rfl⟩
  go_wp2_with fail
  refine (takeInt_any _ g ba cap l _ CS0.out.rd (CS0.out.bts HB.out) hc hl).mono ?_
  rintro e w2 ⟨x1, v, s2, rfl, hv, hrd2, hrs2, hbut2⟩
  unfold RepI at hv
  subst hv
  have CT1 := CS0.out.call hbut2 hrs2
  have h1 := CT1.cm
  have o1_1 := CT1.bx.cell 1
  have f1_1 := CT1.bx.frozen 1
  have HRD2 := hid' hrd2
  have CS1 : Hid (CS w g w.heap.size w1.heap.size ba cap l ⟨4, x1, [], (0, 0), 0, [], 0, []⟩ ⟨none, 0, none, 0, none, 0⟩ s2 (w2.setCell ⟨w1.heap.size, 1, none⟩ (.int .i64 x1))) := CT1.set (i := 1) (v := .int .i64 x1) (by simp [cmA]) (CmR.mk h1.row h1.front h1.sheet h1.byt h1.hr h1.hf h1.hs)
  clear CT1 hrd2 hrs2 hbut2 h1 CS0
  simp [cmA] at o1_1
  go_wp2_with fail
  refine (has_at 65 2 false (by decide) _).mono ?_
  rintro e wx ⟨rfl, rfl⟩
  go_wp2_with fail
  refine (has_at 65 4 false (by decide) _).mono ?_
  rintro e wx ⟨rfl, rfl⟩
  go_wp2_with fail
  refine (has_at 65 8 false (by decide) _).mono ?_
  rintro e wx ⟨rfl, rfl⟩
  go_wp2_with fail
  refine (has_at 65 16 false (by decide) _).mono ?_
  rintro e wx ⟨rfl, rfl⟩
  go_wp2_with fail
  refine (has_at 65 32 false (by decide) _).mono ?_
  rintro e wx ⟨rfl, rfl⟩
  go_wp2_with fail
  refine (has_at 65 64 true (by decide) _).mono ?_
  rintro e wx ⟨rfl, rfl⟩
  go_wp2_with fail
  refine (takeFront_any _ g ba cap l _ CS1.out.rd (CS1.out.bts HB.out) hc hl (w1.heap.size + 1) (by omega) (by have := CS1.out.bx.lt; omega)).mono ?_
  rintro e w3 ⟨x2, v, s3, rfl, hv, hrd3, hrs3, hbut3⟩
  obtain ⟨a2, c2, hv, hp2, hsh2⟩ := hv
  subst hv
  have HRC : Hid (w.heap.size < w1.heap.size) := by have := CS1.out.hC; have := CS1.out.hRC; unfold Hid; omega
  have CT2 := CS1.out.call hbut3 hrs3
  have h2 := CT2.cm
  have o2_6 := CT2.bx.cell 6
  have f2_6 := CT2.bx.frozen 6
  have HRD3 := hid' hrd3
  have CS2 : Hid (CS w g w.heap.size w1.heap.size ba cap l ⟨4, x1, [], (0, 0), 0, x2, 0, []⟩ ⟨none, 0, a2, c2, none, 0⟩ s3 (w3.setCell ⟨w1.heap.size, 6, none⟩ (.slice a2 x2.length c2))) := CT2.set (i := 6) (v := .slice a2 x2.length c2) (by simp [cmA]) (CmR.mk h2.row (SP.mono hp2 (fun k hk => by unfold Since at hk; have := HRC.out; omega)) h2.sheet h2.byt h2.hr hsh2 h2.hs)
  clear CT2 hrd3 hrs3 hbut3 h2 CS1 hp2 hsh2 HRC
  simp [cmA] at o2_6
  obtain ⟨h1, h2, h3, h4⟩ := CS2.out.done
  have HZ := hid' (⟨_, _, _, rfl, h1, Rd.cmd HR1.out (fun _ => rest4 HRD2.out HRD3.out) (fun h => by cases h), h2, h3⟩ : RdAns cmdB Nice (RepC (g + 1)) w g ba cap l s (.returned (cmV ⟨4, x1, [], (0, 0), 0, x2, 0, []⟩ ⟨none, 0, a2, c2, none, 0⟩)) _)
  obtain ⟨k0, k1, k2, k3, k4, k5, k6, k7, k8⟩ := cm_cells CS2.out.bx
  obtain ⟨r0, r1, r2, r3, r4, r5, r6, r7, r8⟩ := cm_cells CS2.out.res
  have f := fun i => CS2.out.res.frozen i
  have f0 := f 0
  have f1 := f 1
  have f2 := f 2
  have f3 := f 3
  have f4 := f 4
  have f5 := f 5
  have f6 := f 6
  have f7 := f 7
  have f8 := f 8
  obtain ⟨t0, t1, t2, t3, t4, t5, t6, t7, t8⟩ := cm_cells h4
  unfold set9 at HZ t0 t1 t2 t3 t4 t5 t6 t7 t8
  unfold cmV cmA at HZ
  simp only [c0, s0] at r0 r1 r2 r3 r4 r5 r6 r7 r8
  simp only [List.length_nil] at HZ k0 k1 k2 k3 k4 k5 k6 k7 k8 r0 r1 r2 r3 r4 r5 r6 r7 r8 t0 t1 t2 t3 t4 t5 t6 t7 t8
  clear h1 h2 h3 h4 HS HB f CS2 HR1 hbc
  go_wp2
  refine bodyPost_ret (v := .agg #[.int .i64 4, .int .i64 x1, .slice none 0 0, .int .i64 0, .int .i64 0, .int .i64 0, .slice a2 x2.length c2, .int .i64 0, .slice none 0 0]) ?_ rfl HZ.out
  unfold results
  go_simp

set_option maxHeartbeats 8000000 in
theorem command5 (w : World) (g : Nat) (ba : Option Addr) (cap : Nat) (l : List Int) (s : Option (List Int)) (hr : RdS w g ba cap l s) (hb : Bts g w ba l) (hc : l.length ≤ cap) (hl : l.length ≤ 1000000000) (t : List Int) (hs : s = some (5 :: t)) :
    Calls Try.prog 40 #[.pointer (some ⟨g, 0, none⟩)] w (RdAns cmdB Nice (RepC (g + 1)) w g ba cap l s) := by
  have hgl := hr.lt
  have BA : Below w.heap.size w (w.alloc (.cells (cmA c0 s0) 31)) := (Below.refl _ _).alloc (Nat.le_refl _) _
  have H1 := hid' (takeDo_any _ g ba cap l s (hr.on BA) (hb.keep (BA.mono (Nat.le_of_lt hgl))) hl)
  have HB := hid' hb
  have HGL := hid' hgl
  have HS := hid' hs
  unfold cmA c0 s0 at H1
  simp only [List.length_nil] at H1
  clear hr hb BA hs
  go_enter Try.func40, Try.ntmps40
  go_wp2_with fail
  refine H1.out.mono ?_
  rintro e w1 ⟨x, v, s1, rfl, hv, hrd1, hrs1, hbut1⟩
  unfold RepI at hv
  subst hv
  clear H1
  obtain ⟨hx, hs1⟩ : x = 5 ∧ s1 = some t := by
    have e := HS.out
    subst e
    cases s1 with
    | none => exact absurd rfl (hrd1 5 t (by unfold DO; omega))
    | some r1 =>
      have := hrd1.2
      simp [doB] at this
      exact ⟨this.1.symm, by rw [this.2]⟩
  subst hx hs1
  have HR1 := hid' hrd1
  have CS0 := hid' (CS.start 5 HGL.out hbut1 hrs1)
  have hCl : g < w1.heap.size := by have := hbut1.size; rw [World.size_alloc] at this; omega
  obtain ⟨at', _, ⟨r, _, _, hrb⟩ | ⟨hbad, _⟩⟩ := hrs1
  case inr => cases hbad
  have hbc : (w1.alloc (.cells (cmA ⟨5, 0, [], (0, 0), 0, [], 0, []⟩ s0) 31)).cell? ⟨g, 2, none⟩ = some (.bool false) := (hrb.keep ((Below.refl _ _).alloc (Nat.le_refl _) _)).cell 2
  unfold cmA s0 at hbc CS0
  simp only [List.length_nil] at hbc CS0
  clear hrd1 hbut1 hrb
  go_wp2_with fail
  refine (usedBy_at 5 17 (by decide) _).mono ?_
  rintro e wx ⟨rfl, rfl⟩
  go_wp2_with fail
  refine (has_at 17 1 true (by decide) _).mono ?_
  rintro e wx ⟨rfl, rfl⟩
  go_wp2_with fail
  refine (takeInt_any _ g ba cap l _ CS0.out.rd (CS0.out.bts HB.out) hc hl).mono ?_
  rintro e w2 ⟨x1, v, s2, rfl, hv, hrd2, hrs2, hbut2⟩
  unfold RepI at hv
  subst hv
  have CT1 := CS0.out.call hbut2 hrs2
  have h1 := CT1.cm
  have o1_1 := CT1.bx.cell 1
  have f1_1 := CT1.bx.frozen 1
  have HRD2 := hid' hrd2
  have CS1 : Hid (CS w g w.heap.size w1.heap.size ba cap l ⟨5, x1, [], (0, 0), 0, [], 0, []⟩ ⟨none, 0, none, 0, none, 0⟩ s2 (w2.setCell ⟨w1.heap.size, 1, none⟩ (.int .i64 x1))) := CT1.set (i := 1) (v := .int .i64 x1) (by simp [cmA]) (CmR.mk h1.row h1.front h1.sheet h1.byt h1.hr h1.hf h1.hs)
  clear CT1 hrd2 hrs2 hbut2 h1 CS0
  simp [cmA] at o1_1
  go_wp2_with fail
  refine (has_at 17 2 false (by decide) _).mono ?_
  rintro e wx ⟨rfl, rfl⟩
  go_wp2_with fail
  refine (has_at 17 4 false (by decide) _).mono ?_
  rintro e wx ⟨rfl, rfl⟩
  go_wp2_with fail
  refine (has_at 17 8 false (by decide) _).mono ?_
  rintro e wx ⟨rfl, rfl⟩
  go_wp2_with fail
  refine (has_at 17 16 true (by decide) _).mono ?_
  rintro e wx ⟨rfl, rfl⟩
  go_wp2_with fail
  refine (time_any _ g ba cap l _ CS1.out.rd (CS1.out.bts HB.out) hc hl).mono ?_
  rintro e w3 ⟨x2, v, s3, rfl, hv, hrd3, hrs3, hbut3⟩
  unfold RepT at hv
  subst hv
  obtain ⟨xt2, xu2⟩ := x2
  have CT2 := CS1.out.call hbut3 hrs3
  have h2 := CT2.cm
  have o2_3 := CT2.bx.cell 3
  have f2_3 := CT2.bx.frozen 3
  have o2_4 := CT2.bx.cell 4
  have f2_4 := CT2.bx.frozen 4
  have HRD3 := hid' hrd3
  have CS2 : Hid (CS w g w.heap.size w1.heap.size ba cap l ⟨5, x1, [], (xt2, xu2), 0, [], 0, []⟩ ⟨none, 0, none, 0, none, 0⟩ s3 ((w3.setCell ⟨w1.heap.size, 3, none⟩ (.int .i64 xt2)).setCell ⟨w1.heap.size, 4, none⟩ (.int .i64 xu2))) := CT2.set2 (i := 3) (j := 4) (v := .int .i64 xt2) (u := .int .i64 xu2) (by simp [cmA]) (CmR.mk h2.row h2.front h2.sheet h2.byt h2.hr h2.hf h2.hs)
  clear CT2 hrd3 hrs3 hbut3 h2 CS1
  simp [cmA] at o2_3 o2_4
  go_wp2_with fail
  refine (has_at 17 32 false (by decide) _).mono ?_
  rintro e wx ⟨rfl, rfl⟩
  go_wp2_with fail
  refine (has_at 17 64 false (by decide) _).mono ?_
  rintro e wx ⟨rfl, rfl⟩
  obtain ⟨h1, h2, h3, h4⟩ := CS2.out.done
  have HZ := hid' (⟨_, _, _, rfl, h1, Rd.cmd HR1.out (fun _ => rest5 HRD2.out HRD3.out) (fun h => by cases h), h2, h3⟩ : RdAns cmdB Nice (RepC (g + 1)) w g ba cap l s (.returned (cmV ⟨5, x1, [], (xt2, xu2), 0, [], 0, []⟩ ⟨none, 0, none, 0, none, 0⟩)) _)
  obtain ⟨k0, k1, k2, k3, k4, k5, k6, k7, k8⟩ := cm_cells CS2.out.bx
  obtain ⟨r0, r1, r2, r3, r4, r5, r6, r7, r8⟩ := cm_cells CS2.out.res
  have f := fun i => CS2.out.res.frozen i
  have f0 := f 0
  have f1 := f 1
  have f2 := f 2
  have f3 := f 3
  have f4 := f 4
  have f5 := f 5
  have f6 := f 6
  have f7 := f 7
  have f8 := f 8
  obtain ⟨t0, t1, t2, t3, t4, t5, t6, t7, t8⟩ := cm_cells h4
  unfold set9 at HZ t0 t1 t2 t3 t4 t5 t6 t7 t8
  unfold cmV cmA at HZ
  simp only [c0, s0] at r0 r1 r2 r3 r4 r5 r6 r7 r8
  simp only [List.length_nil] at HZ k0 k1 k2 k3 k4 k5 k6 k7 k8 r0 r1 r2 r3 r4 r5 r6 r7 r8 t0 t1 t2 t3 t4 t5 t6 t7 t8
  clear h1 h2 h3 h4 HS HB f CS2 HR1 hbc
  go_wp2
  refine bodyPost_ret (v := .agg #[.int .i64 5, .int .i64 x1, .slice none 0 0, .int .i64 xt2, .int .i64 xu2, .int .i64 0, .slice none 0 0, .int .i64 0, .slice none 0 0]) ?_ rfl HZ.out
  unfold results
  go_simp

set_option maxHeartbeats 8000000 in
theorem command6 (w : World) (g : Nat) (ba : Option Addr) (cap : Nat) (l : List Int) (s : Option (List Int)) (hr : RdS w g ba cap l s) (hb : Bts g w ba l) (hc : l.length ≤ cap) (hl : l.length ≤ 1000000000) (t : List Int) (hs : s = some (6 :: t)) :
    Calls Try.prog 40 #[.pointer (some ⟨g, 0, none⟩)] w (RdAns cmdB Nice (RepC (g + 1)) w g ba cap l s) := by
  have hgl := hr.lt
  have BA : Below w.heap.size w (w.alloc (.cells (cmA c0 s0) 31)) := (Below.refl _ _).alloc (Nat.le_refl _) _
  have H1 := hid' (takeDo_any _ g ba cap l s (hr.on BA) (hb.keep (BA.mono (Nat.le_of_lt hgl))) hl)
  have HB := hid' hb
  have HGL := hid' hgl
  have HS := hid' hs
  unfold cmA c0 s0 at H1
  simp only [List.length_nil] at H1
  clear hr hb BA hs
  go_enter Try.func40, Try.ntmps40
  go_wp2_with fail
  refine H1.out.mono ?_
  rintro e w1 ⟨x, v, s1, rfl, hv, hrd1, hrs1, hbut1⟩
  unfold RepI at hv
  subst hv
  clear H1
  obtain ⟨hx, hs1⟩ : x = 6 ∧ s1 = some t := by
    have e := HS.out
    subst e
    cases s1 with
    | none => exact absurd rfl (hrd1 6 t (by unfold DO; omega))
    | some r1 =>
      have := hrd1.2
      simp [doB] at this
      exact ⟨this.1.symm, by rw [this.2]⟩
  subst hx hs1
  have HR1 := hid' hrd1
  have CS0 := hid' (CS.start 6 HGL.out hbut1 hrs1)
  have hCl : g < w1.heap.size := by have := hbut1.size; rw [World.size_alloc] at this; omega
  obtain ⟨at', _, ⟨r, _, _, hrb⟩ | ⟨hbad, _⟩⟩ := hrs1
  case inr => cases hbad
  have hbc : (w1.alloc (.cells (cmA ⟨6, 0, [], (0, 0), 0, [], 0, []⟩ s0) 31)).cell? ⟨g, 2, none⟩ = some (.bool false) := (hrb.keep ((Below.refl _ _).alloc (Nat.le_refl _) _)).cell 2
  unfold cmA s0 at hbc CS0
  simp only [List.length_nil] at hbc CS0
  clear hrd1 hbut1 hrb
  go_wp2_with fail
  refine (usedBy_at 6 1 (by decide) _).mono ?_
  rintro e wx ⟨rfl, rfl⟩
  go_wp2_with fail
  refine (has_at 1 1 true (by decide) _).mono ?_
  rintro e wx ⟨rfl, rfl⟩
  go_wp2_with fail
  refine (takeInt_any _ g ba cap l _ CS0.out.rd (CS0.out.bts HB.out) hc hl).mono ?_
  rintro e w2 ⟨x1, v, s2, rfl, hv, hrd2, hrs2, hbut2⟩
  unfold RepI at hv
  subst hv
  have CT1 := CS0.out.call hbut2 hrs2
  have h1 := CT1.cm
  have o1_1 := CT1.bx.cell 1
  have f1_1 := CT1.bx.frozen 1
  have HRD2 := hid' hrd2
  have CS1 : Hid (CS w g w.heap.size w1.heap.size ba cap l ⟨6, x1, [], (0, 0), 0, [], 0, []⟩ ⟨none, 0, none, 0, none, 0⟩ s2 (w2.setCell ⟨w1.heap.size, 1, none⟩ (.int .i64 x1))) := CT1.set (i := 1) (v := .int .i64 x1) (by simp [cmA]) (CmR.mk h1.row h1.front h1.sheet h1.byt h1.hr h1.hf h1.hs)
  clear CT1 hrd2 hrs2 hbut2 h1 CS0
  simp [cmA] at o1_1
  go_wp2_with fail
  refine (has_at 1 2 false (by decide) _).mono ?_
  rintro e wx ⟨rfl, rfl⟩
  go_wp2_with fail
  refine (has_at 1 4 false (by decide) _).mono ?_
  rintro e wx ⟨rfl, rfl⟩
  go_wp2_with fail
  refine (has_at 1 8 false (by decide) _).mono ?_
  rintro e wx ⟨rfl, rfl⟩
  go_wp2_with fail
  refine (has_at 1 16 false (by decide) _).mono ?_
  rintro e wx ⟨rfl, rfl⟩
  go_wp2_with fail
  refine (has_at 1 32 false (by decide) _).mono ?_
  rintro e wx ⟨rfl, rfl⟩
  go_wp2_with fail
  refine (has_at 1 64 false (by decide) _).mono ?_
  rintro e wx ⟨rfl, rfl⟩
  obtain ⟨h1, h2, h3, h4⟩ := CS1.out.done
  have HZ := hid' (⟨_, _, _, rfl, h1, Rd.cmd HR1.out (fun _ => rest6 HRD2.out) (fun h => by cases h), h2, h3⟩ : RdAns cmdB Nice (RepC (g + 1)) w g ba cap l s (.returned (cmV ⟨6, x1, [], (0, 0), 0, [], 0, []⟩ ⟨none, 0, none, 0, none, 0⟩)) _)
  obtain ⟨k0, k1, k2, k3, k4, k5, k6, k7, k8⟩ := cm_cells CS1.out.bx
  obtain ⟨r0, r1, r2, r3, r4, r5, r6, r7, r8⟩ := cm_cells CS1.out.res
  have f := fun i => CS1.out.res.frozen i
  have f0 := f 0
  have f1 := f 1
  have f2 := f 2
  have f3 := f 3
  have f4 := f 4
  have f5 := f 5
  have f6 := f 6
  have f7 := f 7
  have f8 := f 8
  obtain ⟨t0, t1, t2, t3, t4, t5, t6, t7, t8⟩ := cm_cells h4
  unfold set9 at HZ t0 t1 t2 t3 t4 t5 t6 t7 t8
  unfold cmV cmA at HZ
  simp only [c0, s0] at r0 r1 r2 r3 r4 r5 r6 r7 r8
  simp only [List.length_nil] at HZ k0 k1 k2 k3 k4 k5 k6 k7 k8 r0 r1 r2 r3 r4 r5 r6 r7 r8 t0 t1 t2 t3 t4 t5 t6 t7 t8
  clear h1 h2 h3 h4 HS HB f CS1 HR1 hbc
  go_wp2
  refine bodyPost_ret (v := .agg #[.int .i64 6, .int .i64 x1, .slice none 0 0, .int .i64 0, .int .i64 0, .int .i64 0, .slice none 0 0, .int .i64 0, .slice none 0 0]) ?_ rfl HZ.out
  unfold results
  go_simp

end Go.Proofs.Ytgalmkhgbokidaa

namespace Go.Proofs.Ytgalmkhgbokidaa
open Go.RowKit Go.Proofs
set_option maxRecDepth 20000
set_option linter.unusedVariables false
set_option linter.unusedSimpArgs false

theorem command_any (w : World) (g : Nat) (ba : Option Addr) (cap : Nat) (l : List Int) (r : List Int) (hr : RdS w g ba cap l (some r)) (hb : Bts g w ba l) (hc : l.length ≤ cap) (hl : l.length ≤ 1000000000) :
    Calls Try.prog 40 #[.pointer (some ⟨g, 0, none⟩)] w (RdAns cmdB Nice (RepC (g + 1)) w g ba cap l (some r)) := by
  cases r with
  | nil => exact command_bad w g ba cap l _ hr hb hc hl (fun d s1 h => by
      cases s1 with
      | none => rfl
      | some r1 => have := h.2; simp [doB] at this)
  | cons d t =>
    by_cases hd : DO d
    · rcases op_cases hd.1 hd.2 with rfl | rfl | rfl | rfl | rfl | rfl | rfl
      · exact command0 w g ba cap l _ hr hb hc hl t rfl
      · exact command1 w g ba cap l _ hr hb hc hl t rfl
      · exact command2 w g ba cap l _ hr hb hc hl t rfl
      · exact command3 w g ba cap l _ hr hb hc hl t rfl
      · exact command4 w g ba cap l _ hr hb hc hl t rfl
      · exact command5 w g ba cap l _ hr hb hc hl t rfl
      · exact command6 w g ba cap l _ hr hb hc hl t rfl
    · exact command_bad w g ba cap l _ hr hb hc hl (fun x s1 h => by
        cases s1 with
        | none => rfl
        | some r1 =>
          have h2 := h.2
          simp [doB] at h2
          exact absurd (h2.1 ▸ h.1) hd)

theorem RepC.zero (B : Nat) (W : World) : RepC B c0 (cmV c0 s0) W := ⟨s0, rfl, cmR0 _ _ _ _ _ _ _⟩

theorem set9_below {B R : Nat} {a W : World} (h : Below B a W) (hR : B ≤ R) (c : Cm) (s : CmS) : Below B a (set9 W R c s) := by
  unfold set9
  exact ((((((((h.setCell (p := ⟨R, _, none⟩) hR _).setCell (p := ⟨R, _, none⟩) hR _).setCell (p := ⟨R, _, none⟩) hR _).setCell (p := ⟨R, _, none⟩) hR _).setCell (p := ⟨R, _, none⟩) hR _).setCell (p := ⟨R, _, none⟩) hR _).setCell (p := ⟨R, _, none⟩) hR _).setCell (p := ⟨R, _, none⟩) hR _).setCell (p := ⟨R, _, none⟩) hR _

def gtVal (R g : Nat) (v : Value) (atE : Int) (i : Nat) : Option Value := [some v, some (ptr g), some (ptr g), some (.pointer (some ⟨g, 1, none⟩)), some (.int .i64 atE), none, none, none].getD i none

/-- What holds while Get's last statement goes on. -/
def gtInv (w : World) (R g : Nat) (ba : Option Addr) (n cap : Nat) (atE : Int) (c : Cm) (s : CmS) (vs : List Value) (W : World) : Prop :=
  Bx W R (cmA c s) 31 ∧ Bx W g #[.slice ba n cap, .int .i64 atE, .bool false] 82 ∧ Below R w W ∧ CmR (fun k => g < k) W c s ∧ match vs with
    | [] => True
    | [_] => True
    | [_, p] => p = .int .i64 atE
    | [_, p, q] => p = .int .i64 atE ∧ q = .int .i64 0
    | _ => False

section
variable {a : Act} {t u c : Nat} {dst : Option Tmp} {ty : TypeId} {pos : String} {aft : Array Edge} {guard : Option (Nat × Bool)}

theorem run_storeC {g : Nat} {c c' : Cm} {s s' : CmS} (w : World) (h : PB.slot a t = ptr g) (h' : PB.slot a u = cmV c s) (hb : Bx w g (cmA c' s') 31) :
    (execOp a.eval { dst := dst, op := .store 31 (.tmp t) (.tmp u), type := ty, pos := pos, after := aft, guard := guard }).run Try.prog w = .ok .skip (set9 w g c s) := by
  have h0 : a.tmps[t]?.getD undef = ptr g := by rw [← Array.getD_eq_getD_getElem?]; exact h
  have h1 : a.tmps[u]?.getD undef = cmV c s := by rw [← Array.getD_eq_getD_getElem?]; exact h'
  obtain ⟨r0, r1, r2, r3, r4, r5, r6, r7, r8⟩ := cm_cells hb
  have f0 := hb.frozen 0
  have f1 := hb.frozen 1
  have f2 := hb.frozen 2
  have f3 := hb.frozen 3
  have f4 := hb.frozen 4
  have f5 := hb.frozen 5
  have f6 := hb.frozen 6
  have f7 := hb.frozen 7
  have f8 := hb.frozen 8
  unfold set9
  unfold cmV cmA at h1
  unfold ptr at h0
  clear h h' hb
  go_simp

theorem run_assC {v : Value} (w : World) : (execOp a.eval { dst := dst, op := .assign (.const v), type := ty, pos := pos, after := aft, guard := guard }).run Try.prog w = .ok (.value v) w := by
  go_simp
end

set_option maxHeartbeats 8000000 in
theorem wGet_any (w : World) (ba : Option Addr) (cap : Nat) (l : List Int) (at' : Int) (hb : Bts w.heap.size w ba l) (hc : l.length ≤ cap) (hl : l.length ≤ 1000000000) :
    Calls Try.prog 17 #[.slice ba l.length cap, .int .i64 at'] w (GAns cmdB Nice RepC c0 l at' w) := by
  by_cases hout : at' < 0 ∨ (l.length : Int) < at'
  · have HZ : Hid (GAns cmdB Nice RepC c0 l at' w (.returned (.tuple #[cmV c0 s0, .int .i64 0, .int .i64 9])) (w.alloc (.cells (cmA c0 s0) 31))) := ⟨c0, _, 0, 9, rfl, RepC.zero _ _, (Below.refl _ _).alloc (Nat.le_refl _) _, .inl ⟨hout, rfl, rfl, rfl⟩⟩
    unfold cmV at HZ
    unfold cmA c0 s0 at HZ
    simp only [List.length_nil] at HZ
    generalize l.length = ln at *
    clear hb
    rcases hout with h | h
    · go_enter Try.func17, Try.ntmps17
      go_wp2
      refine bodyPost_ret (v := .tuple #[.agg #[.int .i64 0, .int .i64 0, .slice none 0 0, .int .i64 0, .int .i64 0, .int .i64 0, .slice none 0 0, .int .i64 0, .slice none 0 0], .int .i64 0, .int .i64 9]) ?_ rfl HZ.out
      unfold results
      go_simp
    · have hneg : ¬ at' < 0 := by omega
      go_enter Try.func17, Try.ntmps17
      go_wp2
      refine bodyPost_ret (v := .tuple #[.agg #[.int .i64 0, .int .i64 0, .slice none 0 0, .int .i64 0, .int .i64 0, .int .i64 0, .slice none 0 0, .int .i64 0, .slice none 0 0], .int .i64 0, .int .i64 9]) ?_ rfl HZ.out
      unfold results
      go_simp
  · obtain ⟨at0, rfl⟩ := Int.eq_ofNat_of_zero_le (show 0 ≤ at' by omega)
    have hat : at0 ≤ l.length := by omega
    have B0 : Below w.heap.size w (w.alloc (.cells (cmA c0 s0) 31)) := (Below.refl _ _).alloc (Nat.le_refl _) _
    have eg : (w.alloc (.cells (cmA c0 s0) 31)).heap.size = w.heap.size + 1 := World.size_alloc _ _
    have X0 : Bx (w.alloc (.cells (cmA c0 s0) 31)) w.heap.size (cmA c0 s0) 31 := Bx.new _ _ _
    have BA := (Below.refl (w.alloc (.cells (cmA c0 s0) 31)).heap.size _).alloc (Nat.le_refl _) (.cells #[.slice ba l.length cap, .int .i64 (at0 : Int), .bool false] 82)
    have G0 := Bx.new (w.alloc (.cells (cmA c0 s0) 31)) #[.slice ba l.length cap, .int .i64 (at0 : Int), .bool false] 82
    have X1 := hid' (X0.keep BA)
    have HB1 := hid' (bel_trans' B0 BA)
    rw [eg] at G0
    have HTK := hid' (command_any _ (w.heap.size + 1) ba cap l (l.drop at0) ⟨at0, hat, .inl ⟨_, rfl, rfl, G0⟩⟩ ((hb.keep HB1.out).mono (Nat.le_succ _)) hc hl)
    have HOK : Hid (∀ (x : Cm) (s : CmS) (nx : Nat) W, Below w.heap.size w W → CmR (Since w.heap.size) W x s → Nice x → l.drop at0 = cmdB x ++ l.drop nx → nx ≤ l.length → GAns cmdB Nice RepC c0 l (at0 : Int) w (.returned (.tuple #[cmV x s, .int .i64 (nx : Int), .int .i64 0])) W) := fun x s nx W h1 h2 h4 h5 h6 =>
      ⟨x, _, nx, 0, rfl, ⟨s, rfl, h2⟩, h1, .inr (.inl ⟨by omega, by omega, rfl, h4, by simpa using h5, by simp, by simpa using h6⟩)⟩
    have HNO : Hid (∀ W, Below w.heap.size w W → (∀ y r, Nice y → l.drop at0 ≠ cmdB y ++ r) → GAns cmdB Nice RepC c0 l (at0 : Int) w (.returned (.tuple #[cmV c0 s0, .int .i64 0, .int .i64 6])) W) := fun W h1 h2 =>
      ⟨c0, _, 0, 6, rfl, RepC.zero _ _, h1, .inr (.inr ⟨by omega, by omega, rfl, rfl, rfl, by simpa using h2⟩)⟩
    have hh1 : ¬ (at0 : Int) < 0 := by omega
    have hh2 : ¬ (l.length : Int) < (at0 : Int) := by omega
    unfold cmA c0 s0 at HTK
    simp only [List.length_nil] at HTK
    obtain ⟨ln, hln⟩ : ∃ n, l.length = n := ⟨_, rfl⟩
    rw [hln] at HTK hh2 X1 HB1 ⊢
    have HLN := hid' hln
    clear hb hout B0 BA X0 G0 eg hln
    go_enter Try.func17, Try.ntmps17
    go_wp2_with fail
    refine HTK.out.mono ?_
    rintro e w2 ⟨x, v, s', rfl, ⟨sx, hv, hcm⟩, hrd, hrs, hbut⟩
    subst hv
    have X2 := X1.out.but hbut (by omega)
    have HB2 := hid' (hbut.below' HB1.out (by omega) (Nat.le_refl _))
    have XR := set9_bx X2 x sx
    have HB3 := hid' (set9_below HB2.out (Nat.le_refl _) x sx)
    have RS3 := hrs.keep (set9_other w2 w.heap.size x sx (show w.heap.size + 1 ≠ w.heap.size by omega))
    have CM3 : CmR (fun k => w.heap.size + 1 < k) (set9 w2 w.heap.size x sx) x sx := hcm.keep (fun k hk hl => ⟨set9_other w2 w.heap.size x sx (by unfold Since at hk; omega), by unfold Since at hk; omega⟩) (by rw [set9_size]; exact Nat.le_refl _)
    obtain ⟨r0, r1, r2, r3, r4, r5, r6, r7, r8⟩ := cm_cells X2
    have f0 := X2.frozen 0
    have f1 := X2.frozen 1
    have f2 := X2.frozen 2
    have f3 := X2.frozen 3
    have f4 := X2.frozen 4
    have f5 := X2.frozen 5
    have f6 := X2.frozen 6
    have f7 := X2.frozen 7
    have f8 := X2.frozen 8
    obtain ⟨atE, bad, haE, hbxE, hsE⟩ := RS3.open'
    have cE2 : (set9 w2 w.heap.size x sx).cell? ⟨w.heap.size + 1, 2, none⟩ = some (.bool bad) := hbxE.cell 2
    rw [hsE] at hrd
    have HRD := hid' hrd
    have HXR := hid' XR
    have HCM := hid' CM3
    have HBE := hid' hbxE
    obtain ⟨W3, hW3⟩ : ∃ y : World, y = set9 w2 w.heap.size x sx := ⟨_, rfl⟩
    have HW3 := hid' hW3
    rw [← hW3] at HXR HCM HBE HB3
    unfold set9 at HW3 cE2
    clear hW3
    simp only [c0, s0, List.length_nil] at r0 r1 r2 r3 r4 r5 r6 r7 r8
    unfold cmV cmA
    clear hrd hrs hbut X2 XR RS3 CM3 hbxE hsE hcm X1 HB1 HTK HB2
    cases bad with
    | true =>
      have HZ := hid' (HNO.out (set9 W3 w.heap.size c0 s0) (set9_below HB3.out (Nat.le_refl _) _ _) HRD.out)
      unfold set9 cmV cmA at HZ
      simp only [c0, s0, List.length_nil] at HZ
      clear HNO HOK HRD HCM HBE HB3
      go_wp2_with fail
      rw [← HW3.out]
      obtain ⟨t0, t1, t2, t3, t4, t5, t6, t7, t8⟩ := cm_cells (set9_bx HXR.out c0 s0)
      unfold set9 at t0 t1 t2 t3 t4 t5 t6 t7 t8
      simp only [c0, s0, List.length_nil] at t0 t1 t2 t3 t4 t5 t6 t7 t8
      clear HXR HW3 r0 r1 r2 r3 r4 r5 r6 r7 r8 f0 f1 f2 f3 f4 f5 f6 f7 f8 cE2
      refine bodyPost_ret (v := .tuple #[.agg #[.int .i64 0, .int .i64 0, .slice none 0 0, .int .i64 0, .int .i64 0, .int .i64 0, .slice none 0 0, .int .i64 0, .slice none 0 0], .int .i64 0, .int .i64 6]) ?_ rfl HZ.out
      unfold results
      go_simp
    | false =>
      obtain ⟨hnice, hdrop⟩ := HRD.out
      have HI : Hid (gtInv w w.heap.size (w.heap.size + 1) ba ln cap (atE : Int) x sx [] W3.drew) := ⟨HXR.out.keep (Below.refl _ _).drew, by rw [← HLN.out]; exact HBE.out.keep (Below.refl _ _).drew, HB3.out.drew, HCM.out.on (Below.refl _ _).drew, trivial⟩
      have HFIN : Hid (∀ W, Below w.heap.size w W → CmR (fun k => w.heap.size + 1 < k) W x sx → GAns cmdB Nice RepC c0 l (at0 : Int) w (.returned (.tuple #[cmV x sx, .int .i64 (atE : Int), .int .i64 0])) W) := fun W h1 h2 => HOK.out x sx atE W h1 (h2.mono (fun k hk => by unfold Since; omega)) hnice hdrop haE
      clear HNO HOK HRD HXR HCM HBE HB3 hnice hdrop haE
      go_wp2_with fail
      rw [← HW3.out]
      clear HW3 r0 r1 r2 r3 r4 r5 r6 r7 r8 f0 f1 f2 f3 f4 f5 f6 f7 f8 cE2
      refine PQ.wp_region_quiet (gtVal w.heap.size (w.heap.size + 1) (cmV x sx) (atE : Int)) (gtInv w w.heap.size (w.heap.size + 1) ba ln cap (atE : Int) x sx) mixed' (by kernel_rfl) HI.out ?_ ?_
      · refine ⟨?_, ?_, ?_, ?_, ?_, ?_, ?_, ?_, trivial⟩
        · intro vs A W hI hC
          exact ⟨PB.wanted_free rfl, run_loadC (o := 0) W (hC.outer 4 rfl) (fun i hi => by rw [Nat.zero_add]; exact hI.1.cell i)⟩
        · intro vs A W hI hC
          exact ⟨PB.wanted_free rfl, run_moveD W (hC.outer 7 rfl)⟩
        · intro vs A W hI hC
          exact ⟨PB.wanted_free rfl, run_nilc W (hC.left 1 rfl)⟩
        · intro vs A W hI hC
          exact ⟨PB.wanted_free rfl, run_faRdr1 W (hC.left 2 rfl)⟩
        · intro vs A W hI hC
          exact ⟨PB.wanted_free rfl, run_loadZ W (hC.left 3 rfl) (hI.2.1.cell 1)⟩
        · intro vs A W hk hI hC
          obtain rfl : vs = [] := List.length_eq_zero_iff.1 hk
          refine ⟨PB.wanted_free rfl, PQ.loud_skip rfl (run_storeC W (hC.outer 4 rfl) (hC.left 0 rfl) hI.1) ?_⟩
          exact ⟨set9_bx hI.1 x sx, (set9_other W _ x sx (by omega)).trans hI.2.1, set9_below hI.2.2.1 (Nat.le_refl _) x sx, hI.2.2.2.1.keep (fun k hk hl => ⟨set9_other W _ x sx (by omega), hk⟩) (by rw [set9_size]; exact Nat.le_refl _), trivial⟩
        · intro vs A W hk hI hC
          match vs, hk, hI, hC with
          | [p], _, hI, hC =>
            exact ⟨PB.wanted_free rfl, PQ.loud_value (run_assD W (hC.left 4 rfl)) ⟨hI.1, hI.2.1, hI.2.2.1, hI.2.2.2.1, rfl⟩⟩
        · intro vs A W hk hI hC
          match vs, hk, hI, hC with
          | [p, q], _, hI, hC =>
            exact ⟨PB.wanted_free rfl, PQ.loud_value (run_assC W) ⟨hI.1, hI.2.1, hI.2.2.1, hI.2.2.2.1, hI.2.2.2.2, rfl⟩⟩
      · intro vs A W hk hI hE
        match vs, hk, hI, hE with
        | [p, q, r], _, hI, hE =>
          obtain ⟨hX, _, hB, hCm, rfl, rfl⟩ := hI
          have h5 : PB.slot A 5 = .int .i64 (atE : Int) := hE.left 6
          have h6 : PB.slot A 6 = .int .i64 0 := hE.left 7
          have h4 : PB.slot A 4 = .pointer (some ⟨w.heap.size, 0, none⟩) := hE.outer 4 rfl
          have HZ := hid' (HFIN.out W hB hCm)
          have hA := PT.frame_of (A := A) (n := 33) hE.size
          have hd : A.defers = [] := hE.defers
          rw [hd] at hA
          obtain ⟨fr, hfr⟩ : ∃ f, PB.slot A = f := ⟨_, rfl⟩
          rw [hfr] at hA h4 h5 h6
          rw [hA]
          obtain ⟨t0, t1, t2, t3, t4, t5, t6, t7, t8⟩ := cm_cells hX
          clear hA hfr hd hE hX hB hCm
          simp only [List.range, List.range.loop, List.map_cons, List.map_nil, h4, h5, h6]
          unfold cmV cmA at HZ
          go_wp2
          refine bodyPost_ret (v := .tuple #[.agg #[.int .i64 x.op, .int .i64 x.node, .slice sx.ra x.row.length sx.rc, .int .i64 x.time.1, .int .i64 x.time.2, .int .i64 x.diff, .slice sx.fa x.front.length sx.fc, .int .i64 x.fuel, .slice sx.sa x.sheet.length sx.sc], .int .i64 (atE : Int), .int .i64 0]) ?_ rfl HZ.out
          unfold results
          go_simp

end Go.Proofs.Ytgalmkhgbokidaa
