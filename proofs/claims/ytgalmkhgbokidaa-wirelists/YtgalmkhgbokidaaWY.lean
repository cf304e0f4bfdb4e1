/-
  What is proved here: the document's Plain; the document's Get at any place.
-/
import Derived.Test.YtgalmkhgbokidaaWQ
import Derived.Test.YtgalmkhgbokidaaWV0
import Derived.Test.YtgalmkhgbokidaaWV1
import Derived.Test.YtgalmkhgbokidaaWV2
import Derived.Test.YtgalmkhgbokidaaWV3
import Derived.Test.YtgalmkhgbokidaaWV4
import Derived.Test.YtgalmkhgbokidaaWV5
import Derived.Test.YtgalmkhgbokidaaWV6
namespace Go.Proofs.Ytgalmkhgbokidaa
open Go.RowKit Go.Proofs
set_option maxRecDepth 20000
set_option linter.unusedVariables false
set_option linter.unusedSimpArgs false

/-- Where the lists of what a command uses lie. -/
def plainS (c : Cm) (s : CmS) : CmS := ⟨if c.op = 1 then s.ra else none, if c.op = 1 then s.rc else 0, if c.op = 2 ∨ c.op = 4 then s.fa else none, if c.op = 2 ∨ c.op = 4 then s.fc else 0, if c.op = 0 then s.sa else none, if c.op = 0 then s.sc else 0⟩

theorem CmR.plain {P : Nat → Prop} {w : World} {c : Cm} {s : CmS} (h : CmR P w c s) : CmR P w (plain c) (plainS c s) := by
  unfold Go.Proofs.Ytgalmkhgbokidaa.plain plainS
  refine ⟨?_, ?_, ?_, ?_, ?_, ?_, ?_⟩ <;> simp only
  · split
    · exact h.row
    · exact SP.nil _ _ _
  · split
    · exact h.front
    · exact SP.nil _ _ _
  · split
    · exact h.sheet
    · exact SP.nil _ _ _
  · split
    · exact h.byt
    · exact Byt.nil
  · split
    · exact h.hr
    · exact Sh.nil
  · split
    · exact h.hf
    · exact Sh.nil
  · split
    · exact h.hs
    · exact Sh.nil

set_option maxHeartbeats 8000000 in
theorem rPlain_any (w : World) (c : Cm) (s : CmS) : Calls Try.prog 16 #[cmV c s] w fun e w' => e = .returned (cmV (plain c) (plainS c s)) ∧ Below w.heap.size w w' := by
  obtain ⟨op, node, row, ⟨t1, t2⟩, diff, front, fuel, sheet⟩ := c
  obtain ⟨ra, rc, fa, fc, sa, sc⟩ := s
  have hB : ∀ x y z, Below w.heap.size w (((w.alloc x).alloc y).alloc z) := fun x y z => bel_alloc (bel_alloc ((Below.refl _ _).alloc (Nat.le_refl _) x) y) z
  by_cases h0 : op = 0
  · subst h0
    have E : cmV (plain ⟨0, node, row, (t1, t2), diff, front, fuel, sheet⟩) (plainS ⟨0, node, row, (t1, t2), diff, front, fuel, sheet⟩ ⟨ra, rc, fa, fc, sa, sc⟩) = .agg #[.int .i64 0, .int .i64 0, .slice none 0 0, .int .i64 0, .int .i64 0, .int .i64 0, .slice none 0 0, .int .i64 0, .slice sa sheet.length sc] := by simp [cmV, cmA, plain, plainS]
    rw [E]
    unfold cmV cmA
    simp only
    generalize row.length = rn at *
    generalize front.length = fn at *
    generalize sheet.length = sn at *
    clear E
    go_enter Try.func16, Try.ntmps16
    go_wp2
    refine bodyPost_ret (v := .agg #[.int .i64 0, .int .i64 0, .slice none 0 0, .int .i64 0, .int .i64 0, .int .i64 0, .slice none 0 0, .int .i64 0, .slice sa sn sc]) ?_ rfl ⟨rfl, hB _ _ _⟩
    unfold results
    go_simp
  by_cases h1 : op = 1
  · subst h1
    have E : cmV (plain ⟨1, node, row, (t1, t2), diff, front, fuel, sheet⟩) (plainS ⟨1, node, row, (t1, t2), diff, front, fuel, sheet⟩ ⟨ra, rc, fa, fc, sa, sc⟩) = .agg #[.int .i64 1, .int .i64 node, .slice ra row.length rc, .int .i64 t1, .int .i64 t2, .int .i64 diff, .slice none 0 0, .int .i64 0, .slice none 0 0] := by simp [cmV, cmA, plain, plainS]
    rw [E]
    unfold cmV cmA
    simp only
    generalize row.length = rn at *
    generalize front.length = fn at *
    generalize sheet.length = sn at *
    clear E
    go_enter Try.func16, Try.ntmps16
    go_wp2
    refine bodyPost_ret (v := .agg #[.int .i64 1, .int .i64 node, .slice ra rn rc, .int .i64 t1, .int .i64 t2, .int .i64 diff, .slice none 0 0, .int .i64 0, .slice none 0 0]) ?_ rfl ⟨rfl, hB _ _ _⟩
    unfold results
    go_simp
  by_cases h2 : op = 2
  · subst h2
    have E : cmV (plain ⟨2, node, row, (t1, t2), diff, front, fuel, sheet⟩) (plainS ⟨2, node, row, (t1, t2), diff, front, fuel, sheet⟩ ⟨ra, rc, fa, fc, sa, sc⟩) = .agg #[.int .i64 2, .int .i64 node, .slice none 0 0, .int .i64 0, .int .i64 0, .int .i64 0, .slice fa front.length fc, .int .i64 0, .slice none 0 0] := by simp [cmV, cmA, plain, plainS]
    rw [E]
    unfold cmV cmA
    simp only
    generalize row.length = rn at *
    generalize front.length = fn at *
    generalize sheet.length = sn at *
    clear E
    go_enter Try.func16, Try.ntmps16
    go_wp2
    refine bodyPost_ret (v := .agg #[.int .i64 2, .int .i64 node, .slice none 0 0, .int .i64 0, .int .i64 0, .int .i64 0, .slice fa fn fc, .int .i64 0, .slice none 0 0]) ?_ rfl ⟨rfl, hB _ _ _⟩
    unfold results
    go_simp
  by_cases h3 : op = 3
  · subst h3
    have E : cmV (plain ⟨3, node, row, (t1, t2), diff, front, fuel, sheet⟩) (plainS ⟨3, node, row, (t1, t2), diff, front, fuel, sheet⟩ ⟨ra, rc, fa, fc, sa, sc⟩) = .agg #[.int .i64 3, .int .i64 node, .slice none 0 0, .int .i64 0, .int .i64 0, .int .i64 0, .slice none 0 0, .int .i64 fuel, .slice none 0 0] := by simp [cmV, cmA, plain, plainS]
    rw [E]
    unfold cmV cmA
    simp only
    generalize row.length = rn at *
    generalize front.length = fn at *
    generalize sheet.length = sn at *
    clear E
    go_enter Try.func16, Try.ntmps16
    go_wp2
    refine bodyPost_ret (v := .agg #[.int .i64 3, .int .i64 node, .slice none 0 0, .int .i64 0, .int .i64 0, .int .i64 0, .slice none 0 0, .int .i64 fuel, .slice none 0 0]) ?_ rfl ⟨rfl, hB _ _ _⟩
    unfold results
    go_simp
  by_cases h4 : op = 4
  · subst h4
    have E : cmV (plain ⟨4, node, row, (t1, t2), diff, front, fuel, sheet⟩) (plainS ⟨4, node, row, (t1, t2), diff, front, fuel, sheet⟩ ⟨ra, rc, fa, fc, sa, sc⟩) = .agg #[.int .i64 4, .int .i64 node, .slice none 0 0, .int .i64 0, .int .i64 0, .int .i64 0, .slice fa front.length fc, .int .i64 0, .slice none 0 0] := by simp [cmV, cmA, plain, plainS]
    rw [E]
    unfold cmV cmA
    simp only
    generalize row.length = rn at *
    generalize front.length = fn at *
    generalize sheet.length = sn at *
    clear E
    go_enter Try.func16, Try.ntmps16
    go_wp2
    refine bodyPost_ret (v := .agg #[.int .i64 4, .int .i64 node, .slice none 0 0, .int .i64 0, .int .i64 0, .int .i64 0, .slice fa fn fc, .int .i64 0, .slice none 0 0]) ?_ rfl ⟨rfl, hB _ _ _⟩
    unfold results
    go_simp
  by_cases h5 : op = 5
  · subst h5
    have E : cmV (plain ⟨5, node, row, (t1, t2), diff, front, fuel, sheet⟩) (plainS ⟨5, node, row, (t1, t2), diff, front, fuel, sheet⟩ ⟨ra, rc, fa, fc, sa, sc⟩) = .agg #[.int .i64 5, .int .i64 node, .slice none 0 0, .int .i64 t1, .int .i64 t2, .int .i64 0, .slice none 0 0, .int .i64 0, .slice none 0 0] := by simp [cmV, cmA, plain, plainS]
    rw [E]
    unfold cmV cmA
    simp only
    generalize row.length = rn at *
    generalize front.length = fn at *
    generalize sheet.length = sn at *
    clear E
    go_enter Try.func16, Try.ntmps16
    go_wp2
    refine bodyPost_ret (v := .agg #[.int .i64 5, .int .i64 node, .slice none 0 0, .int .i64 t1, .int .i64 t2, .int .i64 0, .slice none 0 0, .int .i64 0, .slice none 0 0]) ?_ rfl ⟨rfl, hB _ _ _⟩
    unfold results
    go_simp
  by_cases h6 : op = 6
  · subst h6
    have E : cmV (plain ⟨6, node, row, (t1, t2), diff, front, fuel, sheet⟩) (plainS ⟨6, node, row, (t1, t2), diff, front, fuel, sheet⟩ ⟨ra, rc, fa, fc, sa, sc⟩) = .agg #[.int .i64 6, .int .i64 node, .slice none 0 0, .int .i64 0, .int .i64 0, .int .i64 0, .slice none 0 0, .int .i64 0, .slice none 0 0] := by simp [cmV, cmA, plain, plainS]
    rw [E]
    unfold cmV cmA
    simp only
    generalize row.length = rn at *
    generalize front.length = fn at *
    generalize sheet.length = sn at *
    clear E
    go_enter Try.func16, Try.ntmps16
    go_wp2
    refine bodyPost_ret (v := .agg #[.int .i64 6, .int .i64 node, .slice none 0 0, .int .i64 0, .int .i64 0, .int .i64 0, .slice none 0 0, .int .i64 0, .slice none 0 0]) ?_ rfl ⟨rfl, hB _ _ _⟩
    unfold results
    go_simp
  have b0 : (op == 0) = false := by simpa using h0
  have b1 : (op == 1) = false := by simpa using h1
  have b2 : (op == 2) = false := by simpa using h2
  have b3 : (op == 3) = false := by simpa using h3
  have b4 : (op == 4) = false := by simpa using h4
  have b5 : (op == 5) = false := by simpa using h5
  have hin : ¬ (1 ≤ op ∧ op ≤ 6) := by omega
  have E : cmV (plain ⟨op, node, row, (t1, t2), diff, front, fuel, sheet⟩) (plainS ⟨op, node, row, (t1, t2), diff, front, fuel, sheet⟩ ⟨ra, rc, fa, fc, sa, sc⟩) = .agg #[.int .i64 op, .int .i64 0, .slice none 0 0, .int .i64 0, .int .i64 0, .int .i64 0, .slice none 0 0, .int .i64 0, .slice none 0 0] := by simp [cmV, cmA, plain, plainS, h0, h1, h2, h3, h4, h5, hin]
  rw [E]
  unfold cmV cmA
  simp only
  generalize row.length = rn at *
  generalize front.length = fn at *
  generalize sheet.length = sn at *
  clear E
  by_cases hlo : 1 ≤ op
  · have hhi : ¬ op ≤ 6 := by omega
    clear h0 h1 h2 h3 h4 h5 h6 hin
    go_enter Try.func16, Try.ntmps16
    go_wp2
    refine bodyPost_ret (v := .agg #[.int .i64 op, .int .i64 0, .slice none 0 0, .int .i64 0, .int .i64 0, .int .i64 0, .slice none 0 0, .int .i64 0, .slice none 0 0]) ?_ rfl ⟨rfl, hB _ _ _⟩
    unfold results
    go_simp
  · clear h0 h1 h2 h3 h4 h5 h6 hin
    go_enter Try.func16, Try.ntmps16
    go_wp2
    refine bodyPost_ret (v := .agg #[.int .i64 op, .int .i64 0, .slice none 0 0, .int .i64 0, .int .i64 0, .int .i64 0, .slice none 0 0, .int .i64 0, .slice none 0 0]) ?_ rfl ⟨rfl, hB _ _ _⟩
    unfold results
    go_simp

set_option maxHeartbeats 8000000 in
theorem rGet_any (w : World) (ba : Option Addr) (cap : Nat) (l : List Int) (at' : Int) (hb : Bts w.heap.size w ba l) (hc : l.length ≤ cap) (hl : l.length ≤ 1000000000) :
    Calls Try.prog 19 #[.slice ba l.length cap, .int .i64 at'] w (GAns cmdB Nice RepC c0 l at' w) := by
  have BA : Below w.heap.size w (w.alloc (.cells (cmA c0 s0) 31)) := (Below.refl _ _).alloc (Nat.le_refl _) _
  by_cases hout : at' < 0 ∨ (l.length : Int) < at'
  · have HZ : Hid (GAns cmdB Nice RepC c0 l at' w (.returned (.tuple #[cmV c0 s0, .int .i64 0, .int .i64 9])) (w.alloc (.cells (cmA c0 s0) 31))) := ⟨c0, _, 0, 9, rfl, RepC.zero _ _, BA, .inl ⟨hout, rfl, rfl, rfl⟩⟩
    unfold cmV cmA c0 s0 at HZ
    simp only [List.length_nil] at HZ
    generalize l.length = ln at *
    clear hb BA
    rcases hout with h | h
    · go_enter Try.func19, Try.ntmps19
      go_wp2
      refine bodyPost_ret (v := .tuple #[.agg #[.int .i64 0, .int .i64 0, .slice none 0 0, .int .i64 0, .int .i64 0, .int .i64 0, .slice none 0 0, .int .i64 0, .slice none 0 0], .int .i64 0, .int .i64 9]) ?_ rfl HZ.out
      unfold results
      go_simp
    · have hneg : ¬ at' < 0 := by omega
      go_enter Try.func19, Try.ntmps19
      go_wp2
      refine bodyPost_ret (v := .tuple #[.agg #[.int .i64 0, .int .i64 0, .slice none 0 0, .int .i64 0, .int .i64 0, .int .i64 0, .slice none 0 0, .int .i64 0, .slice none 0 0], .int .i64 0, .int .i64 9]) ?_ rfl HZ.out
      unfold results
      go_simp
  · obtain ⟨at0, rfl⟩ := Int.eq_ofNat_of_zero_le (show 0 ≤ at' by omega)
    have hat : at0 ≤ l.length := by omega
    have hh1 : ¬ (at0 : Int) < 0 := by omega
    have hh2 : ¬ (l.length : Int) < (at0 : Int) := by omega
    have HNO : Hid ((∀ y r, Nice y → l.drop at0 ≠ cmdB y ++ r) → GAns cmdB Nice RepC c0 l (at0 : Int) w (.returned (.tuple #[cmV c0 s0, .int .i64 0, .int .i64 6])) (w.alloc (.cells (cmA c0 s0) 31))) := fun h => fin_no (c := c0) hat h BA
    by_cases he : at0 = l.length
    · have HZ := hid' (HNO.out (fun y r _ e => by rw [he, List.drop_length] at e; simp [cmdB] at e))
      have he' : (at0 : Int) = (l.length : Int) := by omega
      unfold cmV cmA c0 s0 at HZ
      simp only [List.length_nil] at HZ
      clear HNO hb BA hat
      subst he
      generalize l.length = ln at *
      go_enter Try.func19, Try.ntmps19
      go_wp2
      refine bodyPost_ret (v := .tuple #[.agg #[.int .i64 0, .int .i64 0, .slice none 0 0, .int .i64 0, .int .i64 0, .int .i64 0, .slice none 0 0, .int .i64 0, .slice none 0 0], .int .i64 0, .int .i64 6]) ?_ rfl HZ.out
      unfold results
      go_simp
    · have hlt : at0 < l.length := by omega
      by_cases hd : l.getD at0 0 ≤ 6
      · have h0 := (hb.range _ (getD_mem (d := 0) hlt)).1
        rcases op_cases h0 hd with h | h | h | h | h | h | h
        · exact rGet0 w ba cap l at0 hb hlt h hc hl
        · exact rGet1 w ba cap l at0 hb hlt h hc hl
        · exact rGet2 w ba cap l at0 hb hlt h hc hl
        · exact rGet3 w ba cap l at0 hb hlt h hc hl
        · exact rGet4 w ba cap l at0 hb hlt h hc hl
        · exact rGet5 w ba cap l at0 hb hlt h hc hl
        · exact rGet6 w ba cap l at0 hb hlt h hc hl
      · obtain ⟨b, off, hba, hcell, g0, g1⟩ := hb.byte hlt
        have hbl : b < w.heap.size := by
          obtain ⟨b', off', e', hb', _⟩ := hb.cells (by rintro rfl; simp at hlt)
          rw [hba] at e'; cases e'; exact hb'
        have hcell0 : (w.alloc (.cells (cmA c0 s0) 31)).cell? ⟨b, off + at0, none⟩ = some (.int .u8 (l.getD at0 0)) := (BA.cell (p := ⟨b, off + at0, none⟩) hbl).trans hcell
        have HZ := hid' (HNO.out (fun y r hy e => by
          rw [drop_byte hlt] at e
          simp only [cmdB, List.cons_append, List.cons.injEq] at e
          have := hy.hi
          omega))
        have hd' : 6 < l.getD at0 0 := by omega
        have hh3 : ¬ (at0 : Int) = (l.length : Int) := by omega
        unfold cmV cmA c0 s0 at HZ
        unfold cmA c0 s0 at hcell0
        simp only [List.length_nil] at HZ hcell0
        clear HNO hb BA hat hcell hd
        subst hba
        generalize l.getD at0 0 = d at *
        generalize l.length = ln at *
        go_enter Try.func19, Try.ntmps19
        go_wp2
        refine bodyPost_ret (v := .tuple #[.agg #[.int .i64 0, .int .i64 0, .slice none 0 0, .int .i64 0, .int .i64 0, .int .i64 0, .slice none 0 0, .int .i64 0, .slice none 0 0], .int .i64 0, .int .i64 6]) ?_ rfl HZ.out
        unfold results
        go_simp

end Go.Proofs.Ytgalmkhgbokidaa
