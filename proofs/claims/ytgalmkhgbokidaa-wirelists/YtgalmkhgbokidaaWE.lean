/-
  What is proved here: Check of commands, by the program and by the document.
-/
import Derived.Test.YtgalmkhgbokidaaWD
namespace Go.Proofs.Ytgalmkhgbokidaa
open Go.RowKit Go.Proofs
set_option maxRecDepth 20000
set_option linter.unusedVariables false
set_option linter.unusedSimpArgs false

theorem usedBy_at (d m : Int) (h : mask d = m) (w : World) : Calls Try.prog 33 #[.int .i64 d] w fun e w' => e = .returned (.int .u64 m) ∧ w' = w := by
  subst h; exact usedBy_any d w

/-- The object that a command's variable holds. -/
def cmO (c : Cm) (s : CmS) : Obj := .cells (cmA c s) 31

set_option maxHeartbeats 4000000 in
theorem wCheck_any (P : Nat → Prop) (w : World) (c : Cm) (s : CmS) (h : CmR P w c s) : Calls Try.prog 13 #[cmV c s] w fun e w' => e = .returned (.int .i64 (chk c)) ∧ Below w.heap.size w w' := by
  have HB := hid' ((Below.refl _ w).alloc (Nat.le_refl _) (cmO c s))
  have HR := hid' (fun W (hW : Below w.heap.size w W) => rowCheck_any P W s.ra s.rc c.row (SP.on h.row hW))
  obtain ⟨op, node, row, ⟨t1, t2⟩, diff, front, fuel, sheet⟩ := c
  obtain ⟨ra, rc, fa, fc, sa, sc⟩ := s
  have HC : Hid (chk ⟨op, node, row, (t1, t2), diff, front, fuel, sheet⟩ = if op < 0 ∨ 6 < op then 8 else if op = 0 then (if 65536 < sheet.length then 2 else 0) else if op = 2 ∨ op = 4 then (if 16 < front.length then 3 else 0) else if op = 1 then chkR row else 0) := rfl
  unfold cmV cmA
  unfold cmO cmA at HB
  simp only at HB HR ⊢
  generalize row.length = rn at *
  clear h
  by_cases h0 : op = 0
  · subst h0
    generalize sheet.length = sn at *
    by_cases hs : 65536 < sn
    · have E : Hid (chk ⟨0, node, row, (t1, t2), diff, front, fuel, sheet⟩ = 2) := by unfold Hid; rw [HC.out]; simp [hs]
      clear HC HR
      go_enter Try.func13, Try.ntmps13
      go_wp2_with fail
      refine (usedBy_at 0 4 (by decide) _).mono ?_
      rintro e w1 ⟨rfl, rfl⟩
      go_wp2_with fail
      refine (has_at 4 4 true (by decide) _).mono ?_
      rintro e w1 ⟨rfl, rfl⟩
      go_wp2
      go_ret
      exact ⟨by rw [E.out]; rfl, HB.out⟩
    · have E : Hid (chk ⟨0, node, row, (t1, t2), diff, front, fuel, sheet⟩ = 0) := by unfold Hid; rw [HC.out]; simp [hs]
      clear HC HR
      go_enter Try.func13, Try.ntmps13
      go_wp2_with fail
      refine (usedBy_at 0 4 (by decide) _).mono ?_
      rintro e w1 ⟨rfl, rfl⟩
      go_wp2_with fail
      refine (has_at 4 4 true (by decide) _).mono ?_
      rintro e w1 ⟨rfl, rfl⟩
      go_wp2_with fail
      refine (has_at 4 64 false (by decide) _).mono ?_
      rintro e w1 ⟨rfl, rfl⟩
      go_wp2_with fail
      refine (has_at 4 8 false (by decide) _).mono ?_
      rintro e w1 ⟨rfl, rfl⟩
      go_wp2
      go_ret
      exact ⟨by rw [E.out]; rfl, HB.out⟩
  by_cases h1 : op = 1
  · subst h1
    have E : Hid (chk ⟨1, node, row, (t1, t2), diff, front, fuel, sheet⟩ = chkR row) := by unfold Hid; rw [HC.out]; simp
    clear HC
    go_enter Try.func13, Try.ntmps13
    go_wp2_with fail
    refine (usedBy_at 1 57 (by decide) _).mono ?_
    rintro e w1 ⟨rfl, rfl⟩
    go_wp2_with fail
    refine (has_at 57 4 false (by decide) _).mono ?_
    rintro e w1 ⟨rfl, rfl⟩
    go_wp2_with fail
    refine (has_at 57 64 false (by decide) _).mono ?_
    rintro e w1 ⟨rfl, rfl⟩
    go_wp2_with fail
    refine (has_at 57 8 true (by decide) _).mono ?_
    rintro e w1 ⟨rfl, rfl⟩
    go_wp2_with fail
    refine (HR.out _ HB.out).mono ?_
    rintro e w2 ⟨rfl, hb2⟩
    have HB2 := hid' (bel_trans' HB.out hb2)
    clear hb2 HR
    generalize chkR row = q at *
    go_wp2
    go_ret
    exact ⟨by rw [E.out]; rfl, HB2.out⟩
  by_cases h2 : op = 2
  · subst h2
    generalize front.length = fn at *
    by_cases hs : 16 < fn
    · have E : Hid (chk ⟨2, node, row, (t1, t2), diff, front, fuel, sheet⟩ = 3) := by unfold Hid; rw [HC.out]; simp [hs]
      clear HC HR
      go_enter Try.func13, Try.ntmps13
      go_wp2_with fail
      refine (usedBy_at 2 65 (by decide) _).mono ?_
      rintro e w1 ⟨rfl, rfl⟩
      go_wp2_with fail
      refine (has_at 65 4 false (by decide) _).mono ?_
      rintro e w1 ⟨rfl, rfl⟩
      go_wp2_with fail
      refine (has_at 65 64 true (by decide) _).mono ?_
      rintro e w1 ⟨rfl, rfl⟩
      go_wp2
      go_ret
      exact ⟨by rw [E.out]; rfl, HB.out⟩
    · have E : Hid (chk ⟨2, node, row, (t1, t2), diff, front, fuel, sheet⟩ = 0) := by unfold Hid; rw [HC.out]; simp [hs]
      clear HC HR
      go_enter Try.func13, Try.ntmps13
      go_wp2_with fail
      refine (usedBy_at 2 65 (by decide) _).mono ?_
      rintro e w1 ⟨rfl, rfl⟩
      go_wp2_with fail
      refine (has_at 65 4 false (by decide) _).mono ?_
      rintro e w1 ⟨rfl, rfl⟩
      go_wp2_with fail
      refine (has_at 65 64 true (by decide) _).mono ?_
      rintro e w1 ⟨rfl, rfl⟩
      go_wp2_with fail
      refine (has_at 65 8 false (by decide) _).mono ?_
      rintro e w1 ⟨rfl, rfl⟩
      go_wp2
      go_ret
      exact ⟨by rw [E.out]; rfl, HB.out⟩
  by_cases h3 : op = 3
  · subst h3
    have E : Hid (chk ⟨3, node, row, (t1, t2), diff, front, fuel, sheet⟩ = 0) := by unfold Hid; rw [HC.out]; simp
    clear HC HR
    go_enter Try.func13, Try.ntmps13
    go_wp2_with fail
    refine (usedBy_at 3 3 (by decide) _).mono ?_
    rintro e w1 ⟨rfl, rfl⟩
    go_wp2_with fail
    refine (has_at 3 4 false (by decide) _).mono ?_
    rintro e w1 ⟨rfl, rfl⟩
    go_wp2_with fail
    refine (has_at 3 64 false (by decide) _).mono ?_
    rintro e w1 ⟨rfl, rfl⟩
    go_wp2_with fail
    refine (has_at 3 8 false (by decide) _).mono ?_
    rintro e w1 ⟨rfl, rfl⟩
    go_wp2
    go_ret
    exact ⟨by rw [E.out]; rfl, HB.out⟩
  by_cases h4 : op = 4
  · subst h4
    generalize front.length = fn at *
    by_cases hs : 16 < fn
    · have E : Hid (chk ⟨4, node, row, (t1, t2), diff, front, fuel, sheet⟩ = 3) := by unfold Hid; rw [HC.out]; simp [hs]
      clear HC HR
      go_enter Try.func13, Try.ntmps13
      go_wp2_with fail
      refine (usedBy_at 4 65 (by decide) _).mono ?_
      rintro e w1 ⟨rfl, rfl⟩
      go_wp2_with fail
      refine (has_at 65 4 false (by decide) _).mono ?_
      rintro e w1 ⟨rfl, rfl⟩
      go_wp2_with fail
      refine (has_at 65 64 true (by decide) _).mono ?_
      rintro e w1 ⟨rfl, rfl⟩
      go_wp2
      go_ret
      exact ⟨by rw [E.out]; rfl, HB.out⟩
    · have E : Hid (chk ⟨4, node, row, (t1, t2), diff, front, fuel, sheet⟩ = 0) := by unfold Hid; rw [HC.out]; simp [hs]
      clear HC HR
      go_enter Try.func13, Try.ntmps13
      go_wp2_with fail
      refine (usedBy_at 4 65 (by decide) _).mono ?_
      rintro e w1 ⟨rfl, rfl⟩
      go_wp2_with fail
      refine (has_at 65 4 false (by decide) _).mono ?_
      rintro e w1 ⟨rfl, rfl⟩
      go_wp2_with fail
      refine (has_at 65 64 true (by decide) _).mono ?_
      rintro e w1 ⟨rfl, rfl⟩
      go_wp2_with fail
      refine (has_at 65 8 false (by decide) _).mono ?_
      rintro e w1 ⟨rfl, rfl⟩
      go_wp2
      go_ret
      exact ⟨by rw [E.out]; rfl, HB.out⟩
  by_cases h5 : op = 5
  · subst h5
    have E : Hid (chk ⟨5, node, row, (t1, t2), diff, front, fuel, sheet⟩ = 0) := by unfold Hid; rw [HC.out]; simp
    clear HC HR
    go_enter Try.func13, Try.ntmps13
    go_wp2_with fail
    refine (usedBy_at 5 17 (by decide) _).mono ?_
    rintro e w1 ⟨rfl, rfl⟩
    go_wp2_with fail
    refine (has_at 17 4 false (by decide) _).mono ?_
    rintro e w1 ⟨rfl, rfl⟩
    go_wp2_with fail
    refine (has_at 17 64 false (by decide) _).mono ?_
    rintro e w1 ⟨rfl, rfl⟩
    go_wp2_with fail
    refine (has_at 17 8 false (by decide) _).mono ?_
    rintro e w1 ⟨rfl, rfl⟩
    go_wp2
    go_ret
    exact ⟨by rw [E.out]; rfl, HB.out⟩
  by_cases h6 : op = 6
  · subst h6
    have E : Hid (chk ⟨6, node, row, (t1, t2), diff, front, fuel, sheet⟩ = 0) := by unfold Hid; rw [HC.out]; simp
    clear HC HR
    go_enter Try.func13, Try.ntmps13
    go_wp2_with fail
    refine (usedBy_at 6 1 (by decide) _).mono ?_
    rintro e w1 ⟨rfl, rfl⟩
    go_wp2_with fail
    refine (has_at 1 4 false (by decide) _).mono ?_
    rintro e w1 ⟨rfl, rfl⟩
    go_wp2_with fail
    refine (has_at 1 64 false (by decide) _).mono ?_
    rintro e w1 ⟨rfl, rfl⟩
    go_wp2_with fail
    refine (has_at 1 8 false (by decide) _).mono ?_
    rintro e w1 ⟨rfl, rfl⟩
    go_wp2
    go_ret
    exact ⟨by rw [E.out]; rfl, HB.out⟩
  have hm : mask op = 0 := by unfold mask; simp [h0, h1, h2, h3, h4, h5, h6]
  have E : Hid (chk ⟨op, node, row, (t1, t2), diff, front, fuel, sheet⟩ = 8) := by unfold Hid; rw [HC.out, if_pos (by omega)]
  clear HC HR
  go_enter Try.func13, Try.ntmps13
  go_wp2_with fail
  refine (usedBy_at op 0 hm _).mono ?_
  rintro e w1 ⟨rfl, rfl⟩
  go_wp2
  go_ret
  exact ⟨by rw [E.out]; rfl, HB.out⟩

set_option maxHeartbeats 4000000 in
theorem rCheck_any (P : Nat → Prop) (w : World) (c : Cm) (s : CmS) (h : CmR P w c s) : Calls Try.prog 11 #[cmV c s] w fun e w' => e = .returned (.int .i64 (chk c)) ∧ Below w.heap.size w w' := by
  have HB := hid' ((Below.refl _ w).alloc (Nat.le_refl _) (cmO c s))
  have HR := hid' (fun W (hW : Below w.heap.size w W) => oCheck_any P W s.ra s.rc c.row (SP.on h.row hW))
  obtain ⟨op, node, row, ⟨t1, t2⟩, diff, front, fuel, sheet⟩ := c
  obtain ⟨ra, rc, fa, fc, sa, sc⟩ := s
  have HC : Hid (chk ⟨op, node, row, (t1, t2), diff, front, fuel, sheet⟩ = if op < 0 ∨ 6 < op then 8 else if op = 0 then (if 65536 < sheet.length then 2 else 0) else if op = 2 ∨ op = 4 then (if 16 < front.length then 3 else 0) else if op = 1 then chkR row else 0) := rfl
  unfold cmV cmA
  unfold cmO cmA at HB
  simp only at HB HR ⊢
  generalize row.length = rn at *
  clear h
  by_cases h0 : op = 0
  · subst h0
    generalize sheet.length = sn at *
    by_cases hs : 65536 < sn
    · have E : Hid (chk ⟨0, node, row, (t1, t2), diff, front, fuel, sheet⟩ = 2) := by unfold Hid; rw [HC.out]; simp [hs]
      clear HC HR
      go_enter Try.func11, Try.ntmps11
      go_wp2
      go_ret
      exact ⟨by rw [E.out]; rfl, HB.out⟩
    · have E : Hid (chk ⟨0, node, row, (t1, t2), diff, front, fuel, sheet⟩ = 0) := by unfold Hid; rw [HC.out]; simp [hs]
      clear HC HR
      go_enter Try.func11, Try.ntmps11
      go_wp2
      go_ret
      exact ⟨by rw [E.out]; rfl, HB.out⟩
  by_cases h1 : op = 1
  · subst h1
    have E : Hid (chk ⟨1, node, row, (t1, t2), diff, front, fuel, sheet⟩ = chkR row) := by unfold Hid; rw [HC.out]; simp
    clear HC
    go_enter Try.func11, Try.ntmps11
    go_wp2_with fail
    refine (HR.out _ HB.out).mono ?_
    rintro e w2 ⟨rfl, rfl⟩
    clear HR
    generalize chkR row = q at *
    go_wp2
    go_ret
    exact ⟨by rw [E.out]; rfl, HB.out⟩
  by_cases h2 : op = 2
  · subst h2
    generalize front.length = fn at *
    by_cases hs : 16 < fn
    · have E : Hid (chk ⟨2, node, row, (t1, t2), diff, front, fuel, sheet⟩ = 3) := by unfold Hid; rw [HC.out]; simp [hs]
      clear HC HR
      go_enter Try.func11, Try.ntmps11
      go_wp2
      go_ret
      exact ⟨by rw [E.out]; rfl, HB.out⟩
    · have E : Hid (chk ⟨2, node, row, (t1, t2), diff, front, fuel, sheet⟩ = 0) := by unfold Hid; rw [HC.out]; simp [hs]
      clear HC HR
      go_enter Try.func11, Try.ntmps11
      go_wp2
      go_ret
      exact ⟨by rw [E.out]; rfl, HB.out⟩
  by_cases h3 : op = 3
  · subst h3
    have E : Hid (chk ⟨3, node, row, (t1, t2), diff, front, fuel, sheet⟩ = 0) := by unfold Hid; rw [HC.out]; simp
    clear HC HR
    go_enter Try.func11, Try.ntmps11
    go_wp2
    go_ret
    exact ⟨by rw [E.out]; rfl, HB.out⟩
  by_cases h4 : op = 4
  · subst h4
    generalize front.length = fn at *
    by_cases hs : 16 < fn
    · have E : Hid (chk ⟨4, node, row, (t1, t2), diff, front, fuel, sheet⟩ = 3) := by unfold Hid; rw [HC.out]; simp [hs]
      clear HC HR
      go_enter Try.func11, Try.ntmps11
      go_wp2
      go_ret
      exact ⟨by rw [E.out]; rfl, HB.out⟩
    · have E : Hid (chk ⟨4, node, row, (t1, t2), diff, front, fuel, sheet⟩ = 0) := by unfold Hid; rw [HC.out]; simp [hs]
      clear HC HR
      go_enter Try.func11, Try.ntmps11
      go_wp2
      go_ret
      exact ⟨by rw [E.out]; rfl, HB.out⟩
  by_cases h5 : op = 5
  · subst h5
    have E : Hid (chk ⟨5, node, row, (t1, t2), diff, front, fuel, sheet⟩ = 0) := by unfold Hid; rw [HC.out]; simp
    clear HC HR
    go_enter Try.func11, Try.ntmps11
    go_wp2
    go_ret
    exact ⟨by rw [E.out]; rfl, HB.out⟩
  by_cases h6 : op = 6
  · subst h6
    have E : Hid (chk ⟨6, node, row, (t1, t2), diff, front, fuel, sheet⟩ = 0) := by unfold Hid; rw [HC.out]; simp
    clear HC HR
    go_enter Try.func11, Try.ntmps11
    go_wp2
    go_ret
    exact ⟨by rw [E.out]; rfl, HB.out⟩
  have E : Hid (chk ⟨op, node, row, (t1, t2), diff, front, fuel, sheet⟩ = 8) := by unfold Hid; rw [HC.out, if_pos (by omega)]
  clear HC HR
  by_cases hneg : op < 0
  · go_enter Try.func11, Try.ntmps11
    go_wp2
    go_ret
    exact ⟨by rw [E.out]; rfl, HB.out⟩
  · have hpos : 6 < op := by omega
    clear h0 h1 h2 h3 h4 h5 h6
    go_enter Try.func11, Try.ntmps11
    go_wp2
    go_ret
    exact ⟨by rw [E.out]; rfl, HB.out⟩

end Go.Proofs.Ytgalmkhgbokidaa
