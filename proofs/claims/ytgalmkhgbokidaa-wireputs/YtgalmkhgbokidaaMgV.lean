/-
  What is proved here: slices.Clone of bytes, rows and times.
  What is proved here: Plain of the program.
  What is proved here: Plain of the program.
  What is proved here: Plain of the program, of commands with a frontier.
  What is proved here: Plain of the program, of any command.
-/
import Derived.Test.YtgalmkhgbokidaaMgS
import Derived.Test.YtgalmkhgbokidaaMgK
import Derived.Test.YtgalmkhgbokidaaMgO
import Derived.Deep.Cut
import Derived.Test.YtgalmkhgbokidaaMgP

namespace Go.Proofs.Ytgalmkhgbokidaa
open Go.RowKit Go.Proofs
set_option maxRecDepth 20000
set_option linter.unusedVariables false
set_option linter.unusedSimpArgs false

theorem empty_own (w : World) (e k : Nat) : (w.alloc (.cells #[] e)).ownsRow w.heap.size e k (.slice (some ⟨w.heap.size, 0, none⟩) 0 0) 0 [] :=
  ⟨by simp, .inr ⟨w.heap.size, 0, #[], rfl, Nat.le_refl _, heap_alloc_new _ _, Nat.le_refl _, by unfold maxLen; omega, by simp, by simp⟩⟩

theorem SP.src' {α : Type} {k : Nat} {cs : α → List Value} {d : α} {P : Nat → Prop} {w : World} {ad : Addr} {l : List α} (hcs : ∀ x, (cs x).length = k) (h : SP k cs d P w (some ad) l) : ∀ j u, (l.flatMap cs)[j]? = some u → w.cell? (ad.add j) = some u := by
  intro j u hj
  by_cases hl : l = []
  · subst hl; simp at hj
  · obtain ⟨b, off, e⟩ := SP.lt h hl
    cases e
    exact SP.src hcs h j u hj

theorem flat1 {α : Type} {cs : α → List Value} {l : List α} (h : ∀ x, ∀ u ∈ cs x, u.oneCell' = true) {u : Value} (hu : u ∈ l.flatMap cs) : u.oneCell' = true := by
  obtain ⟨x, _, hx⟩ := List.mem_flatMap.1 hu
  exact h x u hx
theorem oneB8 (x : Int) : ∀ u ∈ cB x, u.oneCell' = true := by
  intro u hu
  simp [cB] at hu
  subst hu
  rfl

set_option maxHeartbeats 4000000 in
theorem cloneB (P : Nat → Prop) (w : World) (a : Option Addr) (cap : Nat) (xs : List Int) (hx : SP 1 cB 0 P w a xs) (hs : Sh a xs.length cap) (hl : xs.length ≤ 1000000) :
    Calls Try.prog 37 #[.slice a xs.length cap] w fun e w' => ∃ a' c', e = .returned (.slice a' xs.length c') ∧ SP 1 cB 0 (Since w.heap.size) w' a' xs ∧ Sh a' xs.length c' ∧ Below w.heap.size w w' := by
  obtain ⟨i0, hi, hz0, hz1, hz2⟩ := info_parts Try.info5
  cases a with
  | none =>
    obtain ⟨h1, rfl⟩ := hs.1 rfl
    obtain rfl := List.length_eq_zero_iff.1 h1
    simp only [List.length_nil]
    have q : ∀ (w : World), (binOp .eql 22 (.slice none 0 0) (.slice none 0 0)).run Try.prog w = .ok (.bool true) w := fun w => Lib.run_eql_slice_nil w _ _ none 0 0 0 0 Try.underlying22
    go_enter Try.func37, Try.ntmps37
    go_wp2
    go_ret
    exact ⟨none, 0, rfl, SP.nil _ _ _, Sh.nil, Below.refl _ _⟩
  | some ad =>
    have BA := (Below.refl w.heap.size w).alloc (Nat.le_refl _) (.cells #[] 5)
    have HSR := hid' (SP.src' cB_len (SP.on hx BA))
    have HOW := hid' (empty_own w 5 1)
    have HBA := hid' BA
    have HFIN : Hid (∀ v W, W.ownsRow w.heap.size 5 1 v (0 + xs.length) ([] ++ xs.flatMap cB) → Below w.heap.size w W → ∃ a' c', v = .slice a' xs.length c' ∧ SP 1 cB 0 (Since w.heap.size) W a' xs ∧ Sh a' xs.length c' ∧ Below w.heap.size w W) := fun v W h1 h2 => by
      rw [Nat.zero_add, List.nil_append] at h1
      obtain ⟨a', c', rfl, h3, h4⟩ := SP.of_owns (d := 0) cB_len h1
      exact ⟨a', c', rfl, h3, h4, h2⟩
    have HLX := hid' (flat_len cB_len xs)
    have q : ∀ (w : World) (a : Addr) (n c : Nat), (binOp .eql 22 (.slice (some a) n c) (.slice none 0 0)).run Try.prog w = .ok (.bool false) w := fun w a n c => Lib.run_eql_slice_nil w _ _ (some a) n c 0 0 Try.underlying22
    clear hx hs BA
    generalize hn : xs.length = n at *
    have HN := hid' hn
    clear hn
    go_enter Try.func37, Try.ntmps37
    go_wp2_with (at_builtin; refine wpList_append_own _ rfl _ _ 22 rfl w.heap.size 5 i0 (.int .u8 0) 1 1 Try.underlying22 hi hz0 hz1 hz2 rfl (by decide) _ 0 [] rfl HOW.out ad n cap (xs.flatMap cB) rfl HLX.out HSR.out (fun u hu => flat1 oneB8 hu) (by unfold maxLen; omega) (by omega) HBA.out.size ?_; intro v' w1 hown1 hgr1 _)
    have HZ := hid' (HFIN.out v' w1 hown1 (HBA.out.grown hgr1 HBA.out.size (fun j hj => (HOW.out.lt j hj).1)))
    clear HFIN hown1 hgr1 HSR HOW HLX
    go_ret
    obtain ⟨a', c', rfl, h3, h4, h5⟩ := HZ.out
    exact ⟨a', c', rfl, h3, h4, h5⟩

set_option maxHeartbeats 4000000 in
theorem cloneV (P : Nat → Prop) (w : World) (a : Option Addr) (cap : Nat) (xs : List V) (hx : SP 3 cV d0 P w a xs) (hs : Sh a xs.length cap) (hl : xs.length ≤ 1000000) :
    Calls Try.prog 38 #[.slice a xs.length cap] w fun e w' => ∃ a' c', e = .returned (.slice a' xs.length c') ∧ SP 3 cV d0 (Since w.heap.size) w' a' xs ∧ Sh a' xs.length c' ∧ Below w.heap.size w w' := by
  obtain ⟨i0, hi, hz0, hz1, hz2⟩ := info_parts Try.infoVal
  cases a with
  | none =>
    obtain ⟨h1, rfl⟩ := hs.1 rfl
    obtain rfl := List.length_eq_zero_iff.1 h1
    simp only [List.length_nil]
    have q : ∀ (w : World), (binOp .eql 24 (.slice none 0 0) (.slice none 0 0)).run Try.prog w = .ok (.bool true) w := fun w => Lib.run_eql_slice_nil w _ _ none 0 0 0 0 Try.underlying24
    go_enter Try.func38, Try.ntmps38
    go_wp2
    go_ret
    exact ⟨none, 0, rfl, SP.nil _ _ _, Sh.nil, Below.refl _ _⟩
  | some ad =>
    have BA := (Below.refl w.heap.size w).alloc (Nat.le_refl _) (.cells #[] 78)
    have HSR := hid' (SP.src' cV_len (SP.on hx BA))
    have HOW := hid' (empty_own w 78 3)
    have HBA := hid' BA
    have HFIN : Hid (∀ v W, W.ownsRow w.heap.size 78 3 v (0 + xs.length) ([] ++ xs.flatMap cV) → Below w.heap.size w W → ∃ a' c', v = .slice a' xs.length c' ∧ SP 3 cV d0 (Since w.heap.size) W a' xs ∧ Sh a' xs.length c' ∧ Below w.heap.size w W) := fun v W h1 h2 => by
      rw [Nat.zero_add, List.nil_append] at h1
      obtain ⟨a', c', rfl, h3, h4⟩ := SP.of_owns (d := d0) cV_len h1
      exact ⟨a', c', rfl, h3, h4, h2⟩
    have HLX := hid' (flat_len cV_len xs)
    have q : ∀ (w : World) (a : Addr) (n c : Nat), (binOp .eql 24 (.slice (some a) n c) (.slice none 0 0)).run Try.prog w = .ok (.bool false) w := fun w a n c => Lib.run_eql_slice_nil w _ _ (some a) n c 0 0 Try.underlying24
    clear hx hs BA
    generalize hn : xs.length = n at *
    have HN := hid' hn
    clear hn
    go_enter Try.func38, Try.ntmps38
    go_wp2_with (at_builtin; refine wpList_append_own _ rfl _ _ 24 rfl w.heap.size 78 i0 (.agg #[.int .i64 0, .int .i64 0, .string ⟨#[]⟩]) 3 32 Try.underlying24 hi hz0 hz1 hz2 rfl (by decide) _ 0 [] rfl HOW.out ad n cap (xs.flatMap cV) rfl HLX.out HSR.out (fun u hu => flat1 oneV hu) (by unfold maxLen; omega) (by omega) HBA.out.size ?_; intro v' w1 hown1 hgr1 _)
    have HZ := hid' (HFIN.out v' w1 hown1 (HBA.out.grown hgr1 HBA.out.size (fun j hj => (HOW.out.lt j hj).1)))
    clear HFIN hown1 hgr1 HSR HOW HLX
    go_ret
    obtain ⟨a', c', rfl, h3, h4, h5⟩ := HZ.out
    exact ⟨a', c', rfl, h3, h4, h5⟩

set_option maxHeartbeats 4000000 in
theorem cloneT (P : Nat → Prop) (w : World) (a : Option Addr) (cap : Nat) (xs : List T) (hx : SP 2 cT t0 P w a xs) (hs : Sh a xs.length cap) (hl : xs.length ≤ 1000000) :
    Calls Try.prog 39 #[.slice a xs.length cap] w fun e w' => ∃ a' c', e = .returned (.slice a' xs.length c') ∧ SP 2 cT t0 (Since w.heap.size) w' a' xs ∧ Sh a' xs.length c' ∧ Below w.heap.size w w' := by
  obtain ⟨i0, hi, hz0, hz1, hz2⟩ := info_parts Try.infoTime
  cases a with
  | none =>
    obtain ⟨h1, rfl⟩ := hs.1 rfl
    obtain rfl := List.length_eq_zero_iff.1 h1
    simp only [List.length_nil]
    have q : ∀ (w : World), (binOp .eql 29 (.slice none 0 0) (.slice none 0 0)).run Try.prog w = .ok (.bool true) w := fun w => Lib.run_eql_slice_nil w _ _ none 0 0 0 0 Try.underlying29
    go_enter Try.func39, Try.ntmps39
    go_wp2
    go_ret
    exact ⟨none, 0, rfl, SP.nil _ _ _, Sh.nil, Below.refl _ _⟩
  | some ad =>
    have BA := (Below.refl w.heap.size w).alloc (Nat.le_refl _) (.cells #[] 26)
    have HSR := hid' (SP.src' cT_len (SP.on hx BA))
    have HOW := hid' (empty_own w 26 2)
    have HBA := hid' BA
    have HFIN : Hid (∀ v W, W.ownsRow w.heap.size 26 2 v (0 + xs.length) ([] ++ xs.flatMap cT) → Below w.heap.size w W → ∃ a' c', v = .slice a' xs.length c' ∧ SP 2 cT t0 (Since w.heap.size) W a' xs ∧ Sh a' xs.length c' ∧ Below w.heap.size w W) := fun v W h1 h2 => by
      rw [Nat.zero_add, List.nil_append] at h1
      obtain ⟨a', c', rfl, h3, h4⟩ := SP.of_owns (d := t0) cT_len h1
      exact ⟨a', c', rfl, h3, h4, h2⟩
    have HLX := hid' (flat_len cT_len xs)
    have q : ∀ (w : World) (a : Addr) (n c : Nat), (binOp .eql 29 (.slice (some a) n c) (.slice none 0 0)).run Try.prog w = .ok (.bool false) w := fun w a n c => Lib.run_eql_slice_nil w _ _ (some a) n c 0 0 Try.underlying29
    clear hx hs BA
    generalize hn : xs.length = n at *
    have HN := hid' hn
    clear hn
    go_enter Try.func39, Try.ntmps39
    go_wp2_with (at_builtin; refine wpList_append_own _ rfl _ _ 29 rfl w.heap.size 26 i0 (.agg #[.int .i64 0, .int .i64 0]) 2 16 Try.underlying29 hi hz0 hz1 hz2 rfl (by decide) _ 0 [] rfl HOW.out ad n cap (xs.flatMap cT) rfl HLX.out HSR.out (fun u hu => flat1 oneT hu) (by unfold maxLen; omega) (by omega) HBA.out.size ?_; intro v' w1 hown1 hgr1 _)
    have HZ := hid' (HFIN.out v' w1 hown1 (HBA.out.grown hgr1 HBA.out.size (fun j hj => (HOW.out.lt j hj).1)))
    clear HFIN hown1 hgr1 HSR HOW HLX
    go_ret
    obtain ⟨a', c', rfl, h3, h4, h5⟩ := HZ.out
    exact ⟨a', c', rfl, h3, h4, h5⟩

end Go.Proofs.Ytgalmkhgbokidaa

namespace Go.Proofs.Ytgalmkhgbokidaa
open Go.RowKit Go.Proofs
set_option maxRecDepth 20000
set_option linter.unusedVariables false
set_option linter.unusedSimpArgs false

/-- What Plain tells. -/
def PlAns (P : Nat → Prop) (c : Cm) (w : World) (e : Ending) (w' : World) : Prop := ∃ s', e = .returned (cmV (plain c) s') ∧ CmR (Since w.heap.size) w' (plain c) s' ∧ Below w.heap.size w w'

set_option maxHeartbeats 8000000 in
theorem wpl6 (P : Nat → Prop) (w : World) (node : Int) (row : List V) (t1 t2 diff : Int) (front : List T) (fuel : Int) (sheet : List Int) (ra : Option Addr) (rc : Nat) (fa : Option Addr) (fc : Nat) (sa : Option Addr) (sc : Nat) (h : CmR P w ⟨6, node, row, (t1, t2), diff, front, fuel, sheet⟩ ⟨ra, rc, fa, fc, sa, sc⟩) :
    Calls Try.prog 15 #[cmV ⟨6, node, row, (t1, t2), diff, front, fuel, sheet⟩ ⟨ra, rc, fa, fc, sa, sc⟩] w (PlAns P ⟨6, node, row, (t1, t2), diff, front, fuel, sheet⟩ w) := by
  have HP : Hid (plain ⟨6, node, row, (t1, t2), diff, front, fuel, sheet⟩ = ⟨6, node, [], (0, 0), 0, [], 0, []⟩) := by unfold Hid; simp [plain]
  have HZ : Hid (∀ W, Below w.heap.size w W → PlAns P ⟨6, node, row, (t1, t2), diff, front, fuel, sheet⟩ w (.returned (.agg #[.int .i64 6, .int .i64 node, .slice none 0 0, .int .i64 0, .int .i64 0, .int .i64 0, .slice none 0 0, .int .i64 0, .slice none 0 0])) W) := fun W hW => ⟨s0, by rw [HP.out]; rfl, by rw [HP.out]; exact cmR0 _ _ _ _ _ _ _, hW⟩
  have HB : Hid (∀ (x y z : Obj), Below w.heap.size w (((w.alloc x).alloc y).alloc z)) := fun x y z => bel_trans' (bel_trans' ((Below.refl _ _).alloc (Nat.le_refl _) _) ((Below.refl _ _).alloc (Nat.le_refl _) _)) ((Below.refl _ _).alloc (Nat.le_refl _) _)
  unfold cmV cmA
  simp only
  generalize row.length = rn at *
  generalize front.length = fn at *
  generalize sheet.length = sn at *
  clear h
  go_enter Try.func15, Try.ntmps15
  go_wp2_with fail
  refine (usedBy_at 6 1 (by decide) _).mono ?_
  rintro e w1 ⟨rfl, rfl⟩
  go_wp2_with fail
  refine (has_at 1 1 true (by decide) _).mono ?_
  rintro e wx ⟨rfl, rfl⟩
  go_wp2_with fail
  refine (has_at 1 2 false (by decide) _).mono ?_
  rintro e wx ⟨rfl, rfl⟩
  go_wp2_with fail
  refine (has_at 1 4 false (by decide) _).mono ?_
  rintro e wx ⟨rfl, rfl⟩
  go_wp2_with fail
  refine (has_at 1 8 false (by decide) _).mono ?_
  rintro e wx ⟨rfl, rfl⟩
  go_wp2_with fail
  refine (has_at 1 16 false (by decide) _).mono ?_
  rintro e wx ⟨rfl, rfl⟩
  go_wp2_with fail
  refine (has_at 1 32 false (by decide) _).mono ?_
  rintro e wx ⟨rfl, rfl⟩
  go_wp2_with fail
  refine (has_at 1 64 false (by decide) _).mono ?_
  rintro e wx ⟨rfl, rfl⟩
  go_wp2
  refine bodyPost_ret (v := .agg #[.int .i64 6, .int .i64 node, .slice none 0 0, .int .i64 0, .int .i64 0, .int .i64 0, .slice none 0 0, .int .i64 0, .slice none 0 0]) ?_ rfl (HZ.out _ (HB.out _ _ _))
  unfold results
  go_simp

set_option maxHeartbeats 8000000 in
theorem wpl3 (P : Nat → Prop) (w : World) (node : Int) (row : List V) (t1 t2 diff : Int) (front : List T) (fuel : Int) (sheet : List Int) (ra : Option Addr) (rc : Nat) (fa : Option Addr) (fc : Nat) (sa : Option Addr) (sc : Nat) (h : CmR P w ⟨3, node, row, (t1, t2), diff, front, fuel, sheet⟩ ⟨ra, rc, fa, fc, sa, sc⟩) :
    Calls Try.prog 15 #[cmV ⟨3, node, row, (t1, t2), diff, front, fuel, sheet⟩ ⟨ra, rc, fa, fc, sa, sc⟩] w (PlAns P ⟨3, node, row, (t1, t2), diff, front, fuel, sheet⟩ w) := by
  have HP : Hid (plain ⟨3, node, row, (t1, t2), diff, front, fuel, sheet⟩ = ⟨3, node, [], (0, 0), 0, [], fuel, []⟩) := by unfold Hid; simp [plain]
  have HZ : Hid (∀ W, Below w.heap.size w W → PlAns P ⟨3, node, row, (t1, t2), diff, front, fuel, sheet⟩ w (.returned (.agg #[.int .i64 3, .int .i64 node, .slice none 0 0, .int .i64 0, .int .i64 0, .int .i64 0, .slice none 0 0, .int .i64 fuel, .slice none 0 0])) W) := fun W hW => ⟨s0, by rw [HP.out]; rfl, by rw [HP.out]; exact cmR0 _ _ _ _ _ _ _, hW⟩
  have HB : Hid (∀ (x y z : Obj), Below w.heap.size w (((w.alloc x).alloc y).alloc z)) := fun x y z => bel_trans' (bel_trans' ((Below.refl _ _).alloc (Nat.le_refl _) _) ((Below.refl _ _).alloc (Nat.le_refl _) _)) ((Below.refl _ _).alloc (Nat.le_refl _) _)
  unfold cmV cmA
  simp only
  generalize row.length = rn at *
  generalize front.length = fn at *
  generalize sheet.length = sn at *
  clear h
  go_enter Try.func15, Try.ntmps15
  go_wp2_with fail
  refine (usedBy_at 3 3 (by decide) _).mono ?_
  rintro e w1 ⟨rfl, rfl⟩
  go_wp2_with fail
  refine (has_at 3 1 true (by decide) _).mono ?_
  rintro e wx ⟨rfl, rfl⟩
  go_wp2_with fail
  refine (has_at 3 2 true (by decide) _).mono ?_
  rintro e wx ⟨rfl, rfl⟩
  go_wp2_with fail
  refine (has_at 3 4 false (by decide) _).mono ?_
  rintro e wx ⟨rfl, rfl⟩
  go_wp2_with fail
  refine (has_at 3 8 false (by decide) _).mono ?_
  rintro e wx ⟨rfl, rfl⟩
  go_wp2_with fail
  refine (has_at 3 16 false (by decide) _).mono ?_
  rintro e wx ⟨rfl, rfl⟩
  go_wp2_with fail
  refine (has_at 3 32 false (by decide) _).mono ?_
  rintro e wx ⟨rfl, rfl⟩
  go_wp2_with fail
  refine (has_at 3 64 false (by decide) _).mono ?_
  rintro e wx ⟨rfl, rfl⟩
  go_wp2
  refine bodyPost_ret (v := .agg #[.int .i64 3, .int .i64 node, .slice none 0 0, .int .i64 0, .int .i64 0, .int .i64 0, .slice none 0 0, .int .i64 fuel, .slice none 0 0]) ?_ rfl (HZ.out _ (HB.out _ _ _))
  unfold results
  go_simp

set_option maxHeartbeats 8000000 in
theorem wpl5 (P : Nat → Prop) (w : World) (node : Int) (row : List V) (t1 t2 diff : Int) (front : List T) (fuel : Int) (sheet : List Int) (ra : Option Addr) (rc : Nat) (fa : Option Addr) (fc : Nat) (sa : Option Addr) (sc : Nat) (h : CmR P w ⟨5, node, row, (t1, t2), diff, front, fuel, sheet⟩ ⟨ra, rc, fa, fc, sa, sc⟩) :
    Calls Try.prog 15 #[cmV ⟨5, node, row, (t1, t2), diff, front, fuel, sheet⟩ ⟨ra, rc, fa, fc, sa, sc⟩] w (PlAns P ⟨5, node, row, (t1, t2), diff, front, fuel, sheet⟩ w) := by
  have HP : Hid (plain ⟨5, node, row, (t1, t2), diff, front, fuel, sheet⟩ = ⟨5, node, [], (t1, t2), 0, [], 0, []⟩) := by unfold Hid; simp [plain]
  have HZ : Hid (∀ W, Below w.heap.size w W → PlAns P ⟨5, node, row, (t1, t2), diff, front, fuel, sheet⟩ w (.returned (.agg #[.int .i64 5, .int .i64 node, .slice none 0 0, .int .i64 t1, .int .i64 t2, .int .i64 0, .slice none 0 0, .int .i64 0, .slice none 0 0])) W) := fun W hW => ⟨s0, by rw [HP.out]; rfl, by rw [HP.out]; exact cmR0 _ _ _ _ _ _ _, hW⟩
  have HB : Hid (∀ (x y z : Obj), Below w.heap.size w (((w.alloc x).alloc y).alloc z)) := fun x y z => bel_trans' (bel_trans' ((Below.refl _ _).alloc (Nat.le_refl _) _) ((Below.refl _ _).alloc (Nat.le_refl _) _)) ((Below.refl _ _).alloc (Nat.le_refl _) _)
  unfold cmV cmA
  simp only
  generalize row.length = rn at *
  generalize front.length = fn at *
  generalize sheet.length = sn at *
  clear h
  go_enter Try.func15, Try.ntmps15
  go_wp2_with fail
  refine (usedBy_at 5 17 (by decide) _).mono ?_
  rintro e w1 ⟨rfl, rfl⟩
  go_wp2_with fail
  refine (has_at 17 1 true (by decide) _).mono ?_
  rintro e wx ⟨rfl, rfl⟩
  go_wp2_with fail
  refine (has_at 17 2 false (by decide) _).mono ?_
  rintro e wx ⟨rfl, rfl⟩
  go_wp2_with fail
  refine (has_at 17 4 false (by decide) _).mono ?_
  rintro e wx ⟨rfl, rfl⟩
  go_wp2_with fail
  refine (has_at 17 8 false (by decide) _).mono ?_
  rintro e wx ⟨rfl, rfl⟩
  go_wp2_with fail
  refine (has_at 17 16 true (by decide) _).mono ?_
  rintro e wx ⟨rfl, rfl⟩
  go_wp2_with fail
  refine (has_at 17 32 false (by decide) _).mono ?_
  rintro e wx ⟨rfl, rfl⟩
  go_wp2_with fail
  refine (has_at 17 64 false (by decide) _).mono ?_
  rintro e wx ⟨rfl, rfl⟩
  go_wp2
  refine bodyPost_ret (v := .agg #[.int .i64 5, .int .i64 node, .slice none 0 0, .int .i64 t1, .int .i64 t2, .int .i64 0, .slice none 0 0, .int .i64 0, .slice none 0 0]) ?_ rfl (HZ.out _ (HB.out _ _ _))
  unfold results
  go_simp

end Go.Proofs.Ytgalmkhgbokidaa

namespace Go.Proofs.Ytgalmkhgbokidaa
open Go.RowKit Go.Proofs
set_option maxRecDepth 20000
set_option linter.unusedVariables false
set_option linter.unusedSimpArgs false

set_option maxHeartbeats 8000000 in
theorem wpl0 (P : Nat → Prop) (w : World) (node : Int) (row : List V) (t1 t2 diff : Int) (front : List T) (fuel : Int) (sheet : List Int) (ra : Option Addr) (rc : Nat) (fa : Option Addr) (fc : Nat) (sa : Option Addr) (sc : Nat) (h : CmR P w ⟨0, node, row, (t1, t2), diff, front, fuel, sheet⟩ ⟨ra, rc, fa, fc, sa, sc⟩) (hl : sheet.length ≤ 1000000) :
    Calls Try.prog 15 #[cmV ⟨0, node, row, (t1, t2), diff, front, fuel, sheet⟩ ⟨ra, rc, fa, fc, sa, sc⟩] w (PlAns P ⟨0, node, row, (t1, t2), diff, front, fuel, sheet⟩ w) := by
  have HP : Hid (plain ⟨0, node, row, (t1, t2), diff, front, fuel, sheet⟩ = ⟨0, 0, [], (0, 0), 0, [], 0, sheet⟩) := by unfold Hid; simp [plain]
  have hby := h.byt
  have HZ : Hid (∀ W a' c', SP 1 cB 0 (Since w.heap.size) W a' sheet → Sh a' sheet.length c' → Below w.heap.size w W → PlAns P ⟨0, node, row, (t1, t2), diff, front, fuel, sheet⟩ w (.returned (.agg #[.int .i64 0, .int .i64 0, .slice none 0 0, .int .i64 0, .int .i64 0, .int .i64 0, .slice none 0 0, .int .i64 0, .slice a' sheet.length c'])) W) := fun W a' c' h1 h2 hW => ⟨⟨none, 0, none, 0, a', c'⟩, by rw [HP.out]; rfl, by rw [HP.out]; exact ⟨SP.nil _ _ _, SP.nil _ _ _, h1, hby, Sh.nil, Sh.nil, h2⟩, hW⟩
  have HB : Hid (∀ (x y z : Obj), Below w.heap.size w (((w.alloc x).alloc y).alloc z)) := fun x y z => bel_trans' (bel_trans' ((Below.refl _ _).alloc (Nat.le_refl _) _) ((Below.refl _ _).alloc (Nat.le_refl _) _)) ((Below.refl _ _).alloc (Nat.le_refl _) _)
  have HBX : Hid (∀ (x y : Obj) (cs : Array Value), Bx (((w.alloc x).alloc y).alloc (.cells cs 31)) (w.heap.size + 1 + 1) cs 31) := fun x y cs => by
    have := Bx.new ((w.alloc x).alloc y) cs 31
    rwa [World.size_alloc, World.size_alloc] at this
  have HBY : Hid (∀ (x z : Obj) (cs : Array Value), Bx (((w.alloc x).alloc (.cells cs 31)).alloc z) (w.heap.size + 1) cs 31) := fun x z cs => by
    have := (Bx.new (w.alloc x) cs 31).keep ((Below.refl _ _).alloc (Nat.le_refl _) z)
    rwa [World.size_alloc] at this
  have HCL := hid' (fun W (hW : Below w.heap.size w W) => cloneB P W sa sc sheet (SP.on h.sheet hW) h.hs hl)
  unfold cmV cmA
  simp only at HCL ⊢
  clear h hby
  go_enter Try.func15, Try.ntmps15
  go_wp2_with fail
  refine (usedBy_at 0 4 (by decide) _).mono ?_
  rintro e w1 ⟨rfl, rfl⟩
  go_wp2_with fail
  refine (has_at 4 1 false (by decide) _).mono ?_
  rintro e wx ⟨rfl, rfl⟩
  go_wp2_with fail
  refine (has_at 4 2 false (by decide) _).mono ?_
  rintro e wx ⟨rfl, rfl⟩
  go_wp2_with fail
  refine (has_at 4 4 true (by decide) _).mono ?_
  rintro e wx ⟨rfl, rfl⟩
  go_wp2_with fail
  refine (HCL.out _ (HB.out _ _ _)).mono ?_
  rintro e w2 ⟨a', c', rfl, h1, h2, hb2⟩
  have X2 := (HBX.out _ _ _).keep hb2
  have Y2 := (HBY.out _ _ _).keep hb2
  have HBE := hid' (bel_trans' (HB.out _ _ _) hb2)
  have H1 := hid' h1
  have H2 := hid' h2
  have f8 := X2.frozen 8
  have r8 := X2.cell 8
  have HX3 := hid' (X2.setCell (i := 8) (v := .slice a' sheet.length c'))
  have Y3 := hid' ((Below.heap_setCell w2 (⟨w.heap.size + 1 + 1, 8, none⟩ : Addr) (.slice a' sheet.length c') _ (show w.heap.size + 1 ≠ w.heap.size + 1 + 1 by omega)).trans Y2)
  have HK : Hid (∀ (v : Value) (c : Cm) (s : CmS), SP 1 cB 0 (Since w.heap.size) (set9 (w2.setCell ⟨w.heap.size + 1 + 1, 8, none⟩ v) (w.heap.size + 1) c s) a' sheet) := fun v c s => SP.keep h1 (fun k hk hl => by
    have hk' : w.heap.size + 1 + 1 + 1 ≤ k := by have := hk; unfold Since at this; simp only [World.size_alloc] at this; omega
    exact ⟨(set9_other _ _ c s (by omega)).trans (Below.heap_setCell _ _ _ _ (show k ≠ w.heap.size + 1 + 1 by omega)), by unfold Since; omega⟩) (by rw [set9_size]; simp)
  clear h1 h2 hb2 HBX HBY HB HCL
  go_wp2_with fail
  refine (has_at 4 8 false (by decide) _).mono ?_
  rintro e wx ⟨rfl, rfl⟩
  go_wp2_with fail
  refine (has_at 4 16 false (by decide) _).mono ?_
  rintro e wx ⟨rfl, rfl⟩
  go_wp2_with fail
  refine (has_at 4 32 false (by decide) _).mono ?_
  rintro e wx ⟨rfl, rfl⟩
  go_wp2_with fail
  refine (has_at 4 64 false (by decide) _).mono ?_
  rintro e wx ⟨rfl, rfl⟩
  have HX4 := hid' (show Bx _ (w.heap.size + 1 + 1) #[.int .i64 0, .int .i64 0, .slice none 0 0, .int .i64 0, .int .i64 0, .int .i64 0, .slice none 0 0, .int .i64 0, .slice a' sheet.length c'] 31 from by simpa using HX3.out)
  obtain ⟨W3, hW3⟩ : ∃ W, w2.setCell ⟨w.heap.size + 1 + 1, 8, none⟩ (.slice a' sheet.length c') = W := ⟨_, rfl⟩
  rw [hW3] at HX4 Y3
  have HW3 := hid' hW3
  have x0 := HX4.out.cell 0
  have x1 := HX4.out.cell 1
  have x2 := HX4.out.cell 2
  have x3 := HX4.out.cell 3
  have x4 := HX4.out.cell 4
  have x5 := HX4.out.cell 5
  have x6 := HX4.out.cell 6
  have x7 := HX4.out.cell 7
  have x8 := HX4.out.cell 8
  clear X2 Y2 HX3
  rw [hW3]
  clear hW3
  have HY3 : Hid (Bx W3 (w.heap.size + 1) (cmA c0 s0) 31) := Y3.out
  have HT := hid' (set9_bx HY3.out ⟨0, 0, [], (0, 0), 0, [], 0, sheet⟩ ⟨none, 0, none, 0, a', c'⟩)
  obtain ⟨y0, y1, y2, y3, y4, y5, y6, y7, y8⟩ := cm_cells HY3.out
  have g0 := HY3.out.frozen 0
  have g1 := HY3.out.frozen 1
  have g2 := HY3.out.frozen 2
  have g3 := HY3.out.frozen 3
  have g4 := HY3.out.frozen 4
  have g5 := HY3.out.frozen 5
  have g6 := HY3.out.frozen 6
  have g7 := HY3.out.frozen 7
  have g8 := HY3.out.frozen 8
  simp only [c0, s0, List.length_nil] at y0 y1 y2 y3 y4 y5 y6 y7 y8
  have HB3 : Hid (Below w.heap.size w W3) := by rw [← HW3.out]; exact HBE.out.setCell (p := ⟨w.heap.size + 1 + 1, _, none⟩) (show w.heap.size ≤ w.heap.size + 1 + 1 by omega) _
  have HS3 : Hid (SP 1 cB 0 (Since w.heap.size) (set9 W3 (w.heap.size + 1) ⟨0, 0, [], (0, 0), 0, [], 0, sheet⟩ ⟨none, 0, none, 0, a', c'⟩) a' sheet) := by
    rw [← HW3.out]
    exact HK.out _ _ _
  have HF := hid' (HZ.out _ a' c' HS3.out H2.out (set9_below HB3.out (Nat.le_succ _) ⟨0, 0, [], (0, 0), 0, [], 0, sheet⟩ ⟨none, 0, none, 0, a', c'⟩))
  obtain ⟨t0, t1', t2', t3, t4, t5, t6, t7, t8⟩ := cm_cells HT.out
  unfold set9 at HF t0 t1' t2' t3 t4 t5 t6 t7 t8
  simp only [List.length_nil] at HF t0 t1' t2' t3 t4 t5 t6 t7 t8
  clear HT HS3 HB3 HY3 Y3 HZ HX4 H1 H2 HBE HK
  go_wp2
  refine bodyPost_ret (v := .agg #[.int .i64 0, .int .i64 0, .slice none 0 0, .int .i64 0, .int .i64 0, .int .i64 0, .slice none 0 0, .int .i64 0, .slice a' sheet.length c']) ?_ rfl HF.out
  unfold results
  go_simp

end Go.Proofs.Ytgalmkhgbokidaa

namespace Go.Proofs.Ytgalmkhgbokidaa
open Go.RowKit Go.Proofs
set_option maxRecDepth 20000
set_option linter.unusedVariables false
set_option linter.unusedSimpArgs false

set_option maxHeartbeats 8000000 in
theorem wpl2 (P : Nat → Prop) (w : World) (node : Int) (row : List V) (t1 t2 diff : Int) (front : List T) (fuel : Int) (sheet : List Int) (ra : Option Addr) (rc : Nat) (fa : Option Addr) (fc : Nat) (sa : Option Addr) (sc : Nat) (h : CmR P w ⟨2, node, row, (t1, t2), diff, front, fuel, sheet⟩ ⟨ra, rc, fa, fc, sa, sc⟩) (hl : front.length ≤ 1000000) :
    Calls Try.prog 15 #[cmV ⟨2, node, row, (t1, t2), diff, front, fuel, sheet⟩ ⟨ra, rc, fa, fc, sa, sc⟩] w (PlAns P ⟨2, node, row, (t1, t2), diff, front, fuel, sheet⟩ w) := by
  have HP : Hid (plain ⟨2, node, row, (t1, t2), diff, front, fuel, sheet⟩ = ⟨2, node, [], (0, 0), 0, front, 0, []⟩) := by unfold Hid; simp [plain]
  have hby := h.byt
  have HZ : Hid (∀ W a' c', SP 2 cT t0 (Since w.heap.size) W a' front → Sh a' front.length c' → Below w.heap.size w W → PlAns P ⟨2, node, row, (t1, t2), diff, front, fuel, sheet⟩ w (.returned (.agg #[.int .i64 2, .int .i64 node, .slice none 0 0, .int .i64 0, .int .i64 0, .int .i64 0, .slice a' front.length c', .int .i64 0, .slice none 0 0])) W) := fun W a' c' h1 h2 hW => ⟨⟨none, 0, a', c', none, 0⟩, by rw [HP.out]; rfl, by rw [HP.out]; exact ⟨SP.nil _ _ _, h1, SP.nil _ _ _, (fun z hz => by simp at hz), Sh.nil, h2, Sh.nil⟩, hW⟩
  have HB : Hid (∀ (x y z : Obj), Below w.heap.size w (((w.alloc x).alloc y).alloc z)) := fun x y z => bel_trans' (bel_trans' ((Below.refl _ _).alloc (Nat.le_refl _) _) ((Below.refl _ _).alloc (Nat.le_refl _) _)) ((Below.refl _ _).alloc (Nat.le_refl _) _)
  have HBX : Hid (∀ (x y : Obj) (cs : Array Value), Bx (((w.alloc x).alloc y).alloc (.cells cs 31)) (w.heap.size + 1 + 1) cs 31) := fun x y cs => by
    have := Bx.new ((w.alloc x).alloc y) cs 31
    rwa [World.size_alloc, World.size_alloc] at this
  have HBY : Hid (∀ (x z : Obj) (cs : Array Value), Bx (((w.alloc x).alloc (.cells cs 31)).alloc z) (w.heap.size + 1) cs 31) := fun x z cs => by
    have := (Bx.new (w.alloc x) cs 31).keep ((Below.refl _ _).alloc (Nat.le_refl _) z)
    rwa [World.size_alloc] at this
  have HCL := hid' (fun W (hW : Below w.heap.size w W) => cloneT P W fa fc front (SP.on h.front hW) h.hf hl)
  unfold cmV cmA
  simp only at HCL ⊢
  clear h hby
  go_enter Try.func15, Try.ntmps15
  go_wp2_with fail
  refine (usedBy_at 2 65 (by decide) _).mono ?_
  rintro e w1 ⟨rfl, rfl⟩
  go_wp2_with fail
  refine (has_at 65 1 true (by decide) _).mono ?_
  rintro e wx ⟨rfl, rfl⟩
  go_wp2_with fail
  refine (has_at 65 2 false (by decide) _).mono ?_
  rintro e wx ⟨rfl, rfl⟩
  go_wp2_with fail
  refine (has_at 65 4 false (by decide) _).mono ?_
  rintro e wx ⟨rfl, rfl⟩
  go_wp2_with fail
  refine (has_at 65 8 false (by decide) _).mono ?_
  rintro e wx ⟨rfl, rfl⟩
  go_wp2_with fail
  refine (has_at 65 16 false (by decide) _).mono ?_
  rintro e wx ⟨rfl, rfl⟩
  go_wp2_with fail
  refine (has_at 65 32 false (by decide) _).mono ?_
  rintro e wx ⟨rfl, rfl⟩
  go_wp2_with fail
  refine (has_at 65 64 true (by decide) _).mono ?_
  rintro e wx ⟨rfl, rfl⟩
  go_wp2_with fail
  refine (HCL.out _ (HB.out _ _ _)).mono ?_
  rintro e w2 ⟨a', c', rfl, h1, h2, hb2⟩
  have X2 := (HBX.out _ _ _).keep hb2
  have Y2 := (HBY.out _ _ _).keep hb2
  have HBE := hid' (bel_trans' (HB.out _ _ _) hb2)
  have H1 := hid' h1
  have H2 := hid' h2
  have f6 := X2.frozen 6
  have r6 := X2.cell 6
  have HX3 := hid' (X2.setCell (i := 6) (v := .slice a' front.length c'))
  have Y3 := hid' ((Below.heap_setCell w2 (⟨w.heap.size + 1 + 1, 6, none⟩ : Addr) (.slice a' front.length c') _ (show w.heap.size + 1 ≠ w.heap.size + 1 + 1 by omega)).trans Y2)
  have HK : Hid (∀ (v : Value) (c : Cm) (s : CmS), SP 2 cT t0 (Since w.heap.size) (set9 (w2.setCell ⟨w.heap.size + 1 + 1, 6, none⟩ v) (w.heap.size + 1) c s) a' front) := fun v c s => SP.keep h1 (fun k hk hl => by
    have hk' : w.heap.size + 1 + 1 + 1 ≤ k := by have := hk; unfold Since at this; simp only [World.size_alloc] at this; omega
    exact ⟨(set9_other _ _ c s (by omega)).trans (Below.heap_setCell _ _ _ _ (show k ≠ w.heap.size + 1 + 1 by omega)), by unfold Since; omega⟩) (by rw [set9_size]; simp)
  clear h1 h2 hb2 HBX HBY HB HCL
  go_upto_region 17 with fail
  have HX4 := hid' (show Bx _ (w.heap.size + 1 + 1) #[.int .i64 2, .int .i64 node, .slice none 0 0, .int .i64 0, .int .i64 0, .int .i64 0, .slice a' front.length c', .int .i64 0, .slice none 0 0] 31 from by simpa using HX3.out)
  obtain ⟨W3, hW3⟩ : ∃ W, w2.setCell ⟨w.heap.size + 1 + 1, 6, none⟩ (.slice a' front.length c') = W := ⟨_, rfl⟩
  rw [hW3] at HX4 Y3
  have HW3 := hid' hW3
  have x0 := HX4.out.cell 0
  have x1 := HX4.out.cell 1
  have x2 := HX4.out.cell 2
  have x3 := HX4.out.cell 3
  have x4 := HX4.out.cell 4
  have x5 := HX4.out.cell 5
  have x6 := HX4.out.cell 6
  have x7 := HX4.out.cell 7
  have x8 := HX4.out.cell 8
  clear X2 Y2 HX3
  rw [hW3]
  clear hW3
  have HY3 : Hid (Bx W3 (w.heap.size + 1) (cmA c0 s0) 31) := Y3.out
  have HT := hid' (set9_bx HY3.out ⟨2, node, [], (0, 0), 0, front, 0, []⟩ ⟨none, 0, a', c', none, 0⟩)
  obtain ⟨y0, y1, y2, y3, y4, y5, y6, y7, y8⟩ := cm_cells HY3.out
  have g0 := HY3.out.frozen 0
  have g1 := HY3.out.frozen 1
  have g2 := HY3.out.frozen 2
  have g3 := HY3.out.frozen 3
  have g4 := HY3.out.frozen 4
  have g5 := HY3.out.frozen 5
  have g6 := HY3.out.frozen 6
  have g7 := HY3.out.frozen 7
  have g8 := HY3.out.frozen 8
  simp only [c0, s0, List.length_nil] at y0 y1 y2 y3 y4 y5 y6 y7 y8
  have HB3 : Hid (Below w.heap.size w W3) := by rw [← HW3.out]; exact HBE.out.setCell (p := ⟨w.heap.size + 1 + 1, _, none⟩) (show w.heap.size ≤ w.heap.size + 1 + 1 by omega) _
  have HS3 : Hid (SP 2 cT t0 (Since w.heap.size) (set9 W3 (w.heap.size + 1) ⟨2, node, [], (0, 0), 0, front, 0, []⟩ ⟨none, 0, a', c', none, 0⟩) a' front) := by
    rw [← HW3.out]
    exact HK.out _ _ _
  have HF := hid' (HZ.out _ a' c' HS3.out H2.out (set9_below HB3.out (Nat.le_succ _) ⟨2, node, [], (0, 0), 0, front, 0, []⟩ ⟨none, 0, a', c', none, 0⟩))
  obtain ⟨t0, t1', t2', t3, t4, t5, t6, t7, t8⟩ := cm_cells HT.out
  unfold set9 at HF t0 t1' t2' t3 t4 t5 t6 t7 t8
  simp only [List.length_nil] at HF t0 t1' t2' t3 t4 t5 t6 t7 t8
  clear HT HS3 HB3 HY3 Y3 HZ HX4 H1 H2 HBE HK
  go_wp2
  refine bodyPost_ret (v := .agg #[.int .i64 2, .int .i64 node, .slice none 0 0, .int .i64 0, .int .i64 0, .int .i64 0, .slice a' front.length c', .int .i64 0, .slice none 0 0]) ?_ rfl HF.out
  unfold results
  go_simp

set_option maxHeartbeats 8000000 in
theorem wpl4 (P : Nat → Prop) (w : World) (node : Int) (row : List V) (t1 t2 diff : Int) (front : List T) (fuel : Int) (sheet : List Int) (ra : Option Addr) (rc : Nat) (fa : Option Addr) (fc : Nat) (sa : Option Addr) (sc : Nat) (h : CmR P w ⟨4, node, row, (t1, t2), diff, front, fuel, sheet⟩ ⟨ra, rc, fa, fc, sa, sc⟩) (hl : front.length ≤ 1000000) :
    Calls Try.prog 15 #[cmV ⟨4, node, row, (t1, t2), diff, front, fuel, sheet⟩ ⟨ra, rc, fa, fc, sa, sc⟩] w (PlAns P ⟨4, node, row, (t1, t2), diff, front, fuel, sheet⟩ w) := by
  have HP : Hid (plain ⟨4, node, row, (t1, t2), diff, front, fuel, sheet⟩ = ⟨4, node, [], (0, 0), 0, front, 0, []⟩) := by unfold Hid; simp [plain]
  have hby := h.byt
  have HZ : Hid (∀ W a' c', SP 2 cT t0 (Since w.heap.size) W a' front → Sh a' front.length c' → Below w.heap.size w W → PlAns P ⟨4, node, row, (t1, t2), diff, front, fuel, sheet⟩ w (.returned (.agg #[.int .i64 4, .int .i64 node, .slice none 0 0, .int .i64 0, .int .i64 0, .int .i64 0, .slice a' front.length c', .int .i64 0, .slice none 0 0])) W) := fun W a' c' h1 h2 hW => ⟨⟨none, 0, a', c', none, 0⟩, by rw [HP.out]; rfl, by rw [HP.out]; exact ⟨SP.nil _ _ _, h1, SP.nil _ _ _, (fun z hz => by simp at hz), Sh.nil, h2, Sh.nil⟩, hW⟩
  have HB : Hid (∀ (x y z : Obj), Below w.heap.size w (((w.alloc x).alloc y).alloc z)) := fun x y z => bel_trans' (bel_trans' ((Below.refl _ _).alloc (Nat.le_refl _) _) ((Below.refl _ _).alloc (Nat.le_refl _) _)) ((Below.refl _ _).alloc (Nat.le_refl _) _)
  have HBX : Hid (∀ (x y : Obj) (cs : Array Value), Bx (((w.alloc x).alloc y).alloc (.cells cs 31)) (w.heap.size + 1 + 1) cs 31) := fun x y cs => by
    have := Bx.new ((w.alloc x).alloc y) cs 31
    rwa [World.size_alloc, World.size_alloc] at this
  have HBY : Hid (∀ (x z : Obj) (cs : Array Value), Bx (((w.alloc x).alloc (.cells cs 31)).alloc z) (w.heap.size + 1) cs 31) := fun x z cs => by
    have := (Bx.new (w.alloc x) cs 31).keep ((Below.refl _ _).alloc (Nat.le_refl _) z)
    rwa [World.size_alloc] at this
  have HCL := hid' (fun W (hW : Below w.heap.size w W) => cloneT P W fa fc front (SP.on h.front hW) h.hf hl)
  unfold cmV cmA
  simp only at HCL ⊢
  clear h hby
  go_enter Try.func15, Try.ntmps15
  go_wp2_with fail
  refine (usedBy_at 4 65 (by decide) _).mono ?_
  rintro e w1 ⟨rfl, rfl⟩
  go_wp2_with fail
  refine (has_at 65 1 true (by decide) _).mono ?_
  rintro e wx ⟨rfl, rfl⟩
  go_wp2_with fail
  refine (has_at 65 2 false (by decide) _).mono ?_
  rintro e wx ⟨rfl, rfl⟩
  go_wp2_with fail
  refine (has_at 65 4 false (by decide) _).mono ?_
  rintro e wx ⟨rfl, rfl⟩
  go_wp2_with fail
  refine (has_at 65 8 false (by decide) _).mono ?_
  rintro e wx ⟨rfl, rfl⟩
  go_wp2_with fail
  refine (has_at 65 16 false (by decide) _).mono ?_
  rintro e wx ⟨rfl, rfl⟩
  go_wp2_with fail
  refine (has_at 65 32 false (by decide) _).mono ?_
  rintro e wx ⟨rfl, rfl⟩
  go_wp2_with fail
  refine (has_at 65 64 true (by decide) _).mono ?_
  rintro e wx ⟨rfl, rfl⟩
  go_wp2_with fail
  refine (HCL.out _ (HB.out _ _ _)).mono ?_
  rintro e w2 ⟨a', c', rfl, h1, h2, hb2⟩
  have X2 := (HBX.out _ _ _).keep hb2
  have Y2 := (HBY.out _ _ _).keep hb2
  have HBE := hid' (bel_trans' (HB.out _ _ _) hb2)
  have H1 := hid' h1
  have H2 := hid' h2
  have f6 := X2.frozen 6
  have r6 := X2.cell 6
  have HX3 := hid' (X2.setCell (i := 6) (v := .slice a' front.length c'))
  have Y3 := hid' ((Below.heap_setCell w2 (⟨w.heap.size + 1 + 1, 6, none⟩ : Addr) (.slice a' front.length c') _ (show w.heap.size + 1 ≠ w.heap.size + 1 + 1 by omega)).trans Y2)
  have HK : Hid (∀ (v : Value) (c : Cm) (s : CmS), SP 2 cT t0 (Since w.heap.size) (set9 (w2.setCell ⟨w.heap.size + 1 + 1, 6, none⟩ v) (w.heap.size + 1) c s) a' front) := fun v c s => SP.keep h1 (fun k hk hl => by
    have hk' : w.heap.size + 1 + 1 + 1 ≤ k := by have := hk; unfold Since at this; simp only [World.size_alloc] at this; omega
    exact ⟨(set9_other _ _ c s (by omega)).trans (Below.heap_setCell _ _ _ _ (show k ≠ w.heap.size + 1 + 1 by omega)), by unfold Since; omega⟩) (by rw [set9_size]; simp)
  clear h1 h2 hb2 HBX HBY HB HCL
  go_upto_region 17 with fail
  have HX4 := hid' (show Bx _ (w.heap.size + 1 + 1) #[.int .i64 4, .int .i64 node, .slice none 0 0, .int .i64 0, .int .i64 0, .int .i64 0, .slice a' front.length c', .int .i64 0, .slice none 0 0] 31 from by simpa using HX3.out)
  obtain ⟨W3, hW3⟩ : ∃ W, w2.setCell ⟨w.heap.size + 1 + 1, 6, none⟩ (.slice a' front.length c') = W := ⟨_, rfl⟩
  rw [hW3] at HX4 Y3
  have HW3 := hid' hW3
  have x0 := HX4.out.cell 0
  have x1 := HX4.out.cell 1
  have x2 := HX4.out.cell 2
  have x3 := HX4.out.cell 3
  have x4 := HX4.out.cell 4
  have x5 := HX4.out.cell 5
  have x6 := HX4.out.cell 6
  have x7 := HX4.out.cell 7
  have x8 := HX4.out.cell 8
  clear X2 Y2 HX3
  rw [hW3]
  clear hW3
  have HY3 : Hid (Bx W3 (w.heap.size + 1) (cmA c0 s0) 31) := Y3.out
  have HT := hid' (set9_bx HY3.out ⟨4, node, [], (0, 0), 0, front, 0, []⟩ ⟨none, 0, a', c', none, 0⟩)
  obtain ⟨y0, y1, y2, y3, y4, y5, y6, y7, y8⟩ := cm_cells HY3.out
  have g0 := HY3.out.frozen 0
  have g1 := HY3.out.frozen 1
  have g2 := HY3.out.frozen 2
  have g3 := HY3.out.frozen 3
  have g4 := HY3.out.frozen 4
  have g5 := HY3.out.frozen 5
  have g6 := HY3.out.frozen 6
  have g7 := HY3.out.frozen 7
  have g8 := HY3.out.frozen 8
  simp only [c0, s0, List.length_nil] at y0 y1 y2 y3 y4 y5 y6 y7 y8
  have HB3 : Hid (Below w.heap.size w W3) := by rw [← HW3.out]; exact HBE.out.setCell (p := ⟨w.heap.size + 1 + 1, _, none⟩) (show w.heap.size ≤ w.heap.size + 1 + 1 by omega) _
  have HS3 : Hid (SP 2 cT t0 (Since w.heap.size) (set9 W3 (w.heap.size + 1) ⟨4, node, [], (0, 0), 0, front, 0, []⟩ ⟨none, 0, a', c', none, 0⟩) a' front) := by
    rw [← HW3.out]
    exact HK.out _ _ _
  have HF := hid' (HZ.out _ a' c' HS3.out H2.out (set9_below HB3.out (Nat.le_succ _) ⟨4, node, [], (0, 0), 0, front, 0, []⟩ ⟨none, 0, a', c', none, 0⟩))
  obtain ⟨t0, t1', t2', t3, t4, t5, t6, t7, t8⟩ := cm_cells HT.out
  unfold set9 at HF t0 t1' t2' t3 t4 t5 t6 t7 t8
  simp only [List.length_nil] at HF t0 t1' t2' t3 t4 t5 t6 t7 t8
  clear HT HS3 HB3 HY3 Y3 HZ HX4 H1 H2 HBE HK
  go_wp2
  refine bodyPost_ret (v := .agg #[.int .i64 4, .int .i64 node, .slice none 0 0, .int .i64 0, .int .i64 0, .int .i64 0, .slice a' front.length c', .int .i64 0, .slice none 0 0]) ?_ rfl HF.out
  unfold results
  go_simp

end Go.Proofs.Ytgalmkhgbokidaa

namespace Go.Proofs.Ytgalmkhgbokidaa
open Go.RowKit Go.Proofs
set_option maxRecDepth 20000
set_option linter.unusedVariables false
set_option linter.unusedSimpArgs false

theorem Bx.off {w : World} {g b i : Nat} {cs : Array Value} {t : TypeId} {v : Value} (h : Bx w g cs t) (hne : g ≠ b) : Bx (w.setCell ⟨b, i, none⟩ v) g cs t := (Below.heap_setCell w ⟨b, i, none⟩ v g hne).trans h
theorem SP.off {α : Type} {k : Nat} {cs : α → List Value} {d : α} {B : Nat} {w : World} {a : Option Addr} {l : List α} {b i : Nat} {v : Value} (h : SP k cs d (Since B) w a l) (hb : b < B) : SP k cs d (Since B) (w.setCell ⟨b, i, none⟩ v) a l :=
  SP.keep h (fun k hk hl => ⟨Below.heap_setCell _ _ _ _ (show k ≠ b by unfold Since at hk; omega), hk⟩) (by simp)

/-- What is kept while Plain of an insert goes on. -/
structure P1 (w : World) (c : Cm) (s : CmS) (cs : Array Value) (a' : Option Addr) (row : List V) (W : World) : Prop where
  pl : Bx W (w.heap.size + 1 + 1) cs 31
  an : Bx W (w.heap.size + 1) (cmA c0 s0) 31
  ar : Bx W w.heap.size (cmA c s) 31
  rw : SP 3 cV d0 (Since (w.heap.size + 1 + 1 + 1)) W a' row
  bel : Below w.heap.size w W

theorem P1.set {w : World} {c : Cm} {s : CmS} {cs : Array Value} {a' : Option Addr} {row : List V} {W : World} (h : P1 w c s cs a' row W) (i : Nat) (v : Value) : P1 w c s (cs.setIfInBounds i v) a' row (W.setCell ⟨w.heap.size + 1 + 1, i, none⟩ v) :=
  ⟨h.pl.setCell, h.an.off (by omega), h.ar.off (by omega), SP.off h.rw (by omega), h.bel.setCell (p := ⟨w.heap.size + 1 + 1, i, none⟩) (show w.heap.size ≤ w.heap.size + 1 + 1 by omega) v⟩

theorem P1.last {w : World} {c : Cm} {s : CmS} {cs : Array Value} {a' : Option Addr} {row : List V} {W : World} (h : P1 w c s cs a' row W) (x : Cm) (t : CmS) : SP 3 cV d0 (Since w.heap.size) (set9 W (w.heap.size + 1) x t) a' row :=
  SP.keep h.rw (fun k hk hl => ⟨set9_other _ _ x t (by unfold Since at hk; omega), by unfold Since at *; omega⟩) (by rw [set9_size]; exact Nat.le_refl _)

set_option maxHeartbeats 8000000 in
theorem wpl1 (P : Nat → Prop) (w : World) (node : Int) (row : List V) (t1 t2 diff : Int) (front : List T) (fuel : Int) (sheet : List Int) (ra : Option Addr) (rc : Nat) (fa : Option Addr) (fc : Nat) (sa : Option Addr) (sc : Nat) (h : CmR P w ⟨1, node, row, (t1, t2), diff, front, fuel, sheet⟩ ⟨ra, rc, fa, fc, sa, sc⟩) (hl : row.length ≤ 1000000) :
    Calls Try.prog 15 #[cmV ⟨1, node, row, (t1, t2), diff, front, fuel, sheet⟩ ⟨ra, rc, fa, fc, sa, sc⟩] w (PlAns P ⟨1, node, row, (t1, t2), diff, front, fuel, sheet⟩ w) := by
  have HP : Hid (plain ⟨1, node, row, (t1, t2), diff, front, fuel, sheet⟩ = ⟨1, node, row, (t1, t2), diff, [], 0, []⟩) := by unfold Hid; simp [plain]
  have HZ : Hid (∀ W a' c', SP 3 cV d0 (Since w.heap.size) W a' row → Sh a' row.length c' → Below w.heap.size w W → PlAns P ⟨1, node, row, (t1, t2), diff, front, fuel, sheet⟩ w (.returned (.agg #[.int .i64 1, .int .i64 node, (.slice a' row.length c'), .int .i64 t1, .int .i64 t2, .int .i64 diff, .slice none 0 0, .int .i64 0, .slice none 0 0])) W) := fun W a' c' h1 h2 hW => ⟨⟨a', c', none, 0, none, 0⟩, by rw [HP.out]; rfl, by rw [HP.out]; exact ⟨h1, SP.nil _ _ _, SP.nil _ _ _, (fun z hz => by simp at hz), h2, Sh.nil, Sh.nil⟩, hW⟩
  have HB : Hid (∀ (x y z : Obj), Below w.heap.size w (((w.alloc x).alloc y).alloc z)) := fun x y z => bel_trans' (bel_trans' ((Below.refl _ _).alloc (Nat.le_refl _) _) ((Below.refl _ _).alloc (Nat.le_refl _) _)) ((Below.refl _ _).alloc (Nat.le_refl _) _)
  have HS : Hid (∀ (W : World) (a' : Option Addr), Below (((w.alloc (.cells (cmA ⟨1, node, row, (t1, t2), diff, front, fuel, sheet⟩ ⟨ra, rc, fa, fc, sa, sc⟩) 31)).alloc (.cells (cmA c0 s0) 31)).alloc (.cells #[.int .i64 1, .int .i64 node, .slice none 0 0, .int .i64 0, .int .i64 0, .int .i64 0, .slice none 0 0, .int .i64 0, .slice none 0 0] 31)).heap.size (((w.alloc (.cells (cmA ⟨1, node, row, (t1, t2), diff, front, fuel, sheet⟩ ⟨ra, rc, fa, fc, sa, sc⟩) 31)).alloc (.cells (cmA c0 s0) 31)).alloc (.cells #[.int .i64 1, .int .i64 node, .slice none 0 0, .int .i64 0, .int .i64 0, .int .i64 0, .slice none 0 0, .int .i64 0, .slice none 0 0] 31)) W →
      SP 3 cV d0 (Since (((w.alloc (.cells (cmA ⟨1, node, row, (t1, t2), diff, front, fuel, sheet⟩ ⟨ra, rc, fa, fc, sa, sc⟩) 31)).alloc (.cells (cmA c0 s0) 31)).alloc (.cells #[.int .i64 1, .int .i64 node, .slice none 0 0, .int .i64 0, .int .i64 0, .int .i64 0, .slice none 0 0, .int .i64 0, .slice none 0 0] 31)).heap.size) W a' row → P1 w ⟨1, node, row, (t1, t2), diff, front, fuel, sheet⟩ ⟨ra, rc, fa, fc, sa, sc⟩ #[.int .i64 1, .int .i64 node, .slice none 0 0, .int .i64 0, .int .i64 0, .int .i64 0, .slice none 0 0, .int .i64 0, .slice none 0 0] a' row W) := fun W a' hb2 h1 => by
    refine ⟨?_, ?_, ?_, ?_, bel_trans' (HB.out _ _ _) hb2⟩
    · have := (Bx.new ((w.alloc (.cells (cmA ⟨1, node, row, (t1, t2), diff, front, fuel, sheet⟩ ⟨ra, rc, fa, fc, sa, sc⟩) 31)).alloc (.cells (cmA c0 s0) 31)) #[.int .i64 1, .int .i64 node, .slice none 0 0, .int .i64 0, .int .i64 0, .int .i64 0, .slice none 0 0, .int .i64 0, .slice none 0 0] 31).keep hb2
      rwa [World.size_alloc, World.size_alloc] at this
    · have := ((Bx.new (w.alloc (.cells (cmA ⟨1, node, row, (t1, t2), diff, front, fuel, sheet⟩ ⟨ra, rc, fa, fc, sa, sc⟩) 31)) (cmA c0 s0) 31).keep ((Below.refl _ _).alloc (Nat.le_refl _) _)).keep hb2
      rwa [World.size_alloc] at this
    · exact (((Bx.new w (cmA ⟨1, node, row, (t1, t2), diff, front, fuel, sheet⟩ ⟨ra, rc, fa, fc, sa, sc⟩) 31).keep ((Below.refl _ _).alloc (Nat.le_refl _) _)).keep ((Below.refl _ _).alloc (Nat.le_refl _) _)).keep hb2
    · rwa [World.size_alloc, World.size_alloc, World.size_alloc] at h1
  have HCL := hid' (fun W (hW : Below w.heap.size w W) => cloneV P W ra rc row (SP.on h.row hW) h.hr hl)
  unfold cmA c0 s0 at HS
  simp only [List.length_nil] at HS
  unfold cmV cmA
  simp only at HCL ⊢
  clear h
  go_enter Try.func15, Try.ntmps15
  go_wp2_with fail
  refine (usedBy_at 1 57 (by decide) _).mono ?_
  rintro e w1 ⟨rfl, rfl⟩
  go_wp2_with fail
  refine (has_at 57 1 true (by decide) _).mono ?_
  rintro e wx ⟨rfl, hwx⟩
  rw [hwx]
  clear hwx wx
  go_wp2_with fail
  refine (has_at 57 2 false (by decide) _).mono ?_
  rintro e wx ⟨rfl, hwx⟩
  rw [hwx]
  clear hwx wx
  go_wp2_with fail
  refine (has_at 57 4 false (by decide) _).mono ?_
  rintro e wx ⟨rfl, hwx⟩
  rw [hwx]
  clear hwx wx
  go_wp2_with fail
  refine (has_at 57 8 true (by decide) _).mono ?_
  rintro e wx ⟨rfl, hwx⟩
  rw [hwx]
  clear hwx wx
  go_wp2_with fail
  refine (HCL.out _ (HB.out _ _ _)).mono ?_
  rintro e w2 ⟨a', c', rfl, h1, h2, hb2⟩
  have HS2 := hid' (HS.out w2 a' hb2 h1)
  have H2 := hid' h2
  have r2 := HS2.out.pl.cell 2
  have f2 := HS2.out.pl.frozen 2
  clear h1 h2 hb2 HB HCL HS
  go_wp2_with fail
  obtain ⟨W3, hW3⟩ : ∃ W, w2.setCell ⟨w.heap.size + 1 + 1, 2, none⟩ (.slice a' row.length c') = W := ⟨_, rfl⟩
  have HS3 : Hid (P1 w ⟨1, node, row, (t1, t2), diff, front, fuel, sheet⟩ ⟨ra, rc, fa, fc, sa, sc⟩ #[.int .i64 1, .int .i64 node, (.slice a' row.length c'), .int .i64 0, .int .i64 0, .int .i64 0, .slice none 0 0, .int .i64 0, .slice none 0 0] a' row W3) := by
    have := HS2.out.set 2 (.slice a' row.length c')
    rw [hW3] at this
    unfold Hid
    simpa using this
  rw [hW3]
  clear HS2 r2 f2 hW3
  refine (has_at 57 16 true (by decide) _).mono ?_
  rintro e wx ⟨rfl, hwx⟩
  rw [hwx]
  clear hwx wx
  have r3 := HS3.out.pl.cell 3
  have r4 := HS3.out.pl.cell 4
  have f3 := HS3.out.pl.frozen 3
  have f4 := HS3.out.pl.frozen 4
  have z3 : W3.cell? ⟨w.heap.size, 3, none⟩ = some (.int .i64 t1) := HS3.out.ar.cell 3
  have z4 : W3.cell? ⟨w.heap.size, 4, none⟩ = some (.int .i64 t2) := HS3.out.ar.cell 4
  go_wp2_with fail
  obtain ⟨W4, hW4⟩ : ∃ W, (W3.setCell ⟨w.heap.size + 1 + 1, 3, none⟩ (.int .i64 t1)).setCell ⟨w.heap.size + 1 + 1, 4, none⟩ (.int .i64 t2) = W := ⟨_, rfl⟩
  have HS4 : Hid (P1 w ⟨1, node, row, (t1, t2), diff, front, fuel, sheet⟩ ⟨ra, rc, fa, fc, sa, sc⟩ #[.int .i64 1, .int .i64 node, (.slice a' row.length c'), .int .i64 t1, .int .i64 t2, .int .i64 0, .slice none 0 0, .int .i64 0, .slice none 0 0] a' row W4) := by
    have := (HS3.out.set 3 (.int .i64 t1)).set 4 (.int .i64 t2)
    rw [hW4] at this
    unfold Hid
    simpa using this
  rw [hW4]
  clear HS3 r3 r4 f3 f4 z3 z4 hW4
  refine (has_at 57 32 true (by decide) _).mono ?_
  rintro e wx ⟨rfl, hwx⟩
  rw [hwx]
  clear hwx wx
  have r5 := HS4.out.pl.cell 5
  have f5 := HS4.out.pl.frozen 5
  have z5 : W4.cell? ⟨w.heap.size, 5, none⟩ = some (.int .i64 diff) := HS4.out.ar.cell 5
  go_wp2_with fail
  obtain ⟨W5, hW5⟩ : ∃ W, W4.setCell ⟨w.heap.size + 1 + 1, 5, none⟩ (.int .i64 diff) = W := ⟨_, rfl⟩
  have HS5 : Hid (P1 w ⟨1, node, row, (t1, t2), diff, front, fuel, sheet⟩ ⟨ra, rc, fa, fc, sa, sc⟩ #[.int .i64 1, .int .i64 node, (.slice a' row.length c'), .int .i64 t1, .int .i64 t2, .int .i64 diff, .slice none 0 0, .int .i64 0, .slice none 0 0] a' row W5) := by
    have := HS4.out.set 5 (.int .i64 diff)
    rw [hW5] at this
    unfold Hid
    simpa using this
  rw [hW5]
  clear HS4 r5 f5 z5 hW5
  refine (has_at 57 64 false (by decide) _).mono ?_
  rintro e wx ⟨rfl, hwx⟩
  rw [hwx]
  clear hwx wx
  have x0 := HS5.out.pl.cell 0
  have x1 := HS5.out.pl.cell 1
  have x2 := HS5.out.pl.cell 2
  have x3 := HS5.out.pl.cell 3
  have x4 := HS5.out.pl.cell 4
  have x5 := HS5.out.pl.cell 5
  have x6 := HS5.out.pl.cell 6
  have x7 := HS5.out.pl.cell 7
  have x8 := HS5.out.pl.cell 8
  have HY3 := hid' HS5.out.an
  have HT := hid' (set9_bx HY3.out ⟨1, node, row, (t1, t2), diff, [], 0, []⟩ ⟨a', c', none, 0, none, 0⟩)
  obtain ⟨y0, y1, y2, y3, y4, y5, y6, y7, y8⟩ := cm_cells HY3.out
  have g0 := HY3.out.frozen 0
  have g1 := HY3.out.frozen 1
  have g2 := HY3.out.frozen 2
  have g3 := HY3.out.frozen 3
  have g4 := HY3.out.frozen 4
  have g5 := HY3.out.frozen 5
  have g6 := HY3.out.frozen 6
  have g7 := HY3.out.frozen 7
  have g8 := HY3.out.frozen 8
  simp only [c0, s0, List.length_nil] at y0 y1 y2 y3 y4 y5 y6 y7 y8
  have HF := hid' (HZ.out _ a' c' (HS5.out.last ⟨1, node, row, (t1, t2), diff, [], 0, []⟩ ⟨a', c', none, 0, none, 0⟩) H2.out (set9_below HS5.out.bel (Nat.le_succ _) ⟨1, node, row, (t1, t2), diff, [], 0, []⟩ ⟨a', c', none, 0, none, 0⟩))
  obtain ⟨t0, t1', t2', t3, t4, t5, t6, t7, t8⟩ := cm_cells HT.out
  unfold set9 at HF t0 t1' t2' t3 t4 t5 t6 t7 t8
  simp only [List.length_nil] at HF t0 t1' t2' t3 t4 t5 t6 t7 t8
  clear HT HY3 HZ H2 HS5
  go_wp2
  refine bodyPost_ret (v := .agg #[.int .i64 1, .int .i64 node, (.slice a' row.length c'), .int .i64 t1, .int .i64 t2, .int .i64 diff, .slice none 0 0, .int .i64 0, .slice none 0 0]) ?_ rfl HF.out
  unfold results
  go_simp

set_option maxHeartbeats 8000000 in
theorem wplN (P : Nat → Prop) (w : World) (node : Int) (row : List V) (t1 t2 diff : Int) (front : List T) (fuel : Int) (sheet : List Int) (ra : Option Addr) (rc : Nat) (fa : Option Addr) (fc : Nat) (sa : Option Addr) (sc : Nat) (op : Int) (ho : op < 0 ∨ 6 < op) (h : CmR P w ⟨op, node, row, (t1, t2), diff, front, fuel, sheet⟩ ⟨ra, rc, fa, fc, sa, sc⟩) :
    Calls Try.prog 15 #[cmV ⟨op, node, row, (t1, t2), diff, front, fuel, sheet⟩ ⟨ra, rc, fa, fc, sa, sc⟩] w (PlAns P ⟨op, node, row, (t1, t2), diff, front, fuel, sheet⟩ w) := by
  have e1 : ¬ (1 ≤ op ∧ op ≤ 6) := by omega
  have e2 : op ≠ 0 := by omega
  have e3 : op ≠ 1 := by omega
  have e4 : op ≠ 2 := by omega
  have e5 : op ≠ 3 := by omega
  have e6 : op ≠ 4 := by omega
  have e7 : op ≠ 5 := by omega
  have e8 : op ≠ 6 := by omega
  have HP : Hid (plain ⟨op, node, row, (t1, t2), diff, front, fuel, sheet⟩ = ⟨op, 0, [], (0, 0), 0, [], 0, []⟩) := by unfold Hid; simp only [plain, if_neg e1, if_neg e2, if_neg e3, if_neg e5, if_neg (show ¬ (op = 1 ∨ op = 5) by omega), if_neg (show ¬ (op = 2 ∨ op = 4) by omega)]
  have HM : Hid (mask op = 0) := by unfold Hid; simp [mask, e2, e3, e4, e5, e6, e7, e8]
  have HZ : Hid (∀ W, Below w.heap.size w W → PlAns P ⟨op, node, row, (t1, t2), diff, front, fuel, sheet⟩ w (.returned (.agg #[.int .i64 op, .int .i64 0, .slice none 0 0, .int .i64 0, .int .i64 0, .int .i64 0, .slice none 0 0, .int .i64 0, .slice none 0 0])) W) := fun W hW => ⟨s0, by rw [HP.out]; rfl, by rw [HP.out]; exact cmR0 _ _ _ _ _ _ _, hW⟩
  have HB : Hid (∀ (x y z : Obj), Below w.heap.size w (((w.alloc x).alloc y).alloc z)) := fun x y z => bel_trans' (bel_trans' ((Below.refl _ _).alloc (Nat.le_refl _) _) ((Below.refl _ _).alloc (Nat.le_refl _) _)) ((Below.refl _ _).alloc (Nat.le_refl _) _)
  unfold cmV cmA
  simp only
  generalize row.length = rn at *
  generalize front.length = fn at *
  generalize sheet.length = sn at *
  clear h ho e1 e2 e3 e4 e5 e6 e7 e8
  go_enter Try.func15, Try.ntmps15
  go_wp2_with fail
  refine (usedBy_at op 0 HM.out _).mono ?_
  rintro e w1 ⟨rfl, rfl⟩
  go_wp2_with fail
  refine (has_at 0 1 false (by decide) _).mono ?_
  rintro e wx ⟨rfl, rfl⟩
  go_wp2_with fail
  refine (has_at 0 2 false (by decide) _).mono ?_
  rintro e wx ⟨rfl, rfl⟩
  go_wp2_with fail
  refine (has_at 0 4 false (by decide) _).mono ?_
  rintro e wx ⟨rfl, rfl⟩
  go_wp2_with fail
  refine (has_at 0 8 false (by decide) _).mono ?_
  rintro e wx ⟨rfl, rfl⟩
  go_wp2_with fail
  refine (has_at 0 16 false (by decide) _).mono ?_
  rintro e wx ⟨rfl, rfl⟩
  go_wp2_with fail
  refine (has_at 0 32 false (by decide) _).mono ?_
  rintro e wx ⟨rfl, rfl⟩
  go_wp2_with fail
  refine (has_at 0 64 false (by decide) _).mono ?_
  rintro e wx ⟨rfl, rfl⟩
  go_wp2
  refine bodyPost_ret (v := .agg #[.int .i64 op, .int .i64 0, .slice none 0 0, .int .i64 0, .int .i64 0, .int .i64 0, .slice none 0 0, .int .i64 0, .slice none 0 0]) ?_ rfl (HZ.out _ (HB.out _ _ _))
  unfold results
  go_simp

theorem wPlain_any (P : Nat → Prop) (w : World) (c : Cm) (s : CmS) (h : CmR P w c s) (hs : Sm c) : Calls Try.prog 15 #[cmV c s] w (PlAns P c w) := by
  obtain ⟨h1, h2, h3⟩ := hs
  by_cases ho : c.op < 0 ∨ 6 < c.op
  · obtain ⟨op, node, row, ⟨t1, t2⟩, diff, front, fuel, sheet⟩ := c
    obtain ⟨ra, rc, fa, fc, sa, sc⟩ := s
    exact wplN P w node row t1 t2 diff front fuel sheet ra rc fa fc sa sc op ho h
  · obtain ⟨op, node, row, ⟨t1, t2⟩, diff, front, fuel, sheet⟩ := c
    obtain ⟨ra, rc, fa, fc, sa, sc⟩ := s
    simp only at ho h1 h2 h3
    rcases op_cases (show 0 ≤ op by omega) (show op ≤ 6 by omega) with rfl | rfl | rfl | rfl | rfl | rfl | rfl
    · exact wpl0 P w node row t1 t2 diff front fuel sheet ra rc fa fc sa sc h h3
    · exact wpl1 P w node row t1 t2 diff front fuel sheet ra rc fa fc sa sc h (by omega)
    · exact wpl2 P w node row t1 t2 diff front fuel sheet ra rc fa fc sa sc h h2
    · exact wpl3 P w node row t1 t2 diff front fuel sheet ra rc fa fc sa sc h
    · exact wpl4 P w node row t1 t2 diff front fuel sheet ra rc fa fc sa sc h h2
    · exact wpl5 P w node row t1 t2 diff front fuel sheet ra rc fa fc sa sc h
    · exact wpl6 P w node row t1 t2 diff front fuel sheet ra rc fa fc sa sc h

end Go.Proofs.Ytgalmkhgbokidaa
