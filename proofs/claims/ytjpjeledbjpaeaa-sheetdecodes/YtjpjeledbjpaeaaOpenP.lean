/-
  What is proved here: an argument that is a plan, as the statement reads it: what lies in memory.
-/
import Derived.Test.YtjpjeledbjpaeaaEnc3
import Derived.ProofKit
import Derived.OpenShut
import Derived.ShutString
import Derived.ChangeOld
import Derived.ChangeSlices
import Derived.ChangeSame
import Derived.Deep.Slices
import Derived.Lib.SmallJoins
namespace Go.Proofs.Ytjpjeledbjpaeaa
open Go.ChangeShapes Go.WideShapes Go.ChangeAt Go.RowKit Go.Deep
set_option maxRecDepth 20000

instance : Inhabited Nd := ⟨n0⟩
set_option linter.unusedVariables false
set_option linter.unusedSimpArgs false

theorem laidOut : laidOutB Try.prog = true := by kernel_rfl

theorem own : ownKnob Try.prog.godebug = none := by kernel_rfl

theorem R64.of_wf {z : Int} (h : (Lit.int .i64 z).wf = true) : R64 z := by
  have := bounds_i64 h
  unfold R64; omega

section
variable {H : Type} {enc : TypeId × Value → H} {w : World}

theorem open_int1 {fuel : Nat} {v : Value} {x : DataW H × List MemPlace} (h : DataW.trod enc Try.prog w 0 (fun _ => true) true fuel 3 [v] = some x) : ∃ z, v = .int .i64 z ∧ R64 z := by
  obtain ⟨z, e, _, hw⟩ := DataW.trod_int Try.underlying3 h
  simp at e
  exact ⟨z, e, R64.of_wf hw⟩

theorem open_ints {fuel : Nat} {v : Value} {x : DataW H × List MemPlace} (h : DataW.trod enc Try.prog w 0 (fun _ => true) true fuel 23 [v] = some x) :
    ∃ a cap, ∃ l : List Int, v = .slice a l.length cap ∧ Ns w.heap.size w a l ∧ ∀ z ∈ l, R64 z := by
  rcases open_slice1 Try.underlying23 (by kernel_rfl) h with ⟨h0, _⟩ | ⟨ad, len, cap, m, n, V, D, Pl, hcs, _, hl, _, hmm, _, hx⟩
  · simp at h0
    exact ⟨none, 0, [], h0, Ns.nil _ _ _, by simp⟩
  · simp at hcs
    simp at hmm
    subst hmm
    have each : ∀ i, i < m → ∃ z : Int, w.cell? (ad.add i) = some (.int .i64 z) ∧ R64 z := by
      intro i hi
      obtain ⟨h1, h2⟩ := hx i hi
      obtain ⟨z, e, hr⟩ := open_int1 h2
      rw [e] at h1
      exact ⟨z, h1, hr⟩
    obtain ⟨q, hq⟩ := choose_lt each
    refine ⟨some ad, m, (List.range len).map q, by simpa using hcs, ⟨fun hne => ?_⟩, fun z hz => ?_⟩
    · have hpos : 0 < len := by
        rcases Nat.eq_zero_or_pos len with h | h
        · subst h; simp at hne
        · exact h
      obtain ⟨b, off, spot⟩ := ad
      have hc := (hq 0 (by omega)).1
      have hspot : spot = none := by simpa [Addr.add] using World.cell?_spot hc
      subst hspot
      refine ⟨b, off, rfl, ?_, fun i hi => ?_⟩
      · have := block_lt_of_cell hc
        rw [addr_add] at this
        exact this
      · have hi' : i < len := by simpa using hi
        have h1 := (hq i (by omega)).1
        rw [addr_add] at h1
        have e : ((List.range len).map q).getD i 0 = q i := by simp [List.getD, hi']
        rw [e]
        exact h1
    · obtain ⟨i, hi, rfl⟩ := List.mem_map.1 hz
      exact (hq i (by have := List.mem_range.1 hi; omega)).2

theorem open_terms {fuel : Nat} {v : Value} {x : DataW H × List MemPlace} (h : DataW.trod enc Try.prog w 0 (fun _ => true) true fuel 46 [v] = some x) :
    ∃ a cap, ∃ l : List V, v = .slice a l.length cap ∧ Vs w.heap.size w a l ∧ ∀ t ∈ l, R64 t.1 ∧ R64 t.2.1 := by
  rcases open_slice Try.underlying46 h with ⟨h0, _⟩ | ⟨ad, len, cap, m, n, D, Pl, hcs, _, hl, _, hmm, _, hx⟩
  · simp at h0
    exact ⟨none, 0, [], h0, Vs.nil _ _ _, by simp⟩
  · simp at hcs
    simp at hmm
    subst hmm
    have each : ∀ i, i < m → ∃ q : V, (w.cell? (ad.add (i * 3)) = some (.int .i64 q.1) ∧ w.cell? (ad.add (i * 3 + 1)) = some (.int .i64 q.2.1) ∧ w.cell? (ad.add (i * 3 + 2)) = some (.string q.2.2)) ∧ R64 q.1 ∧ R64 q.2.1 := by
      intro i hi
      obtain ⟨cs', h1, h2⟩ := hx i hi
      rw [show Try.prog.cellsOf 64 = 3 by kernel_rfl] at h1
      obtain ⟨_, hlen, hcell⟩ := World.cells?_some h1
      obtain ⟨xs, k, hk, hxy, _, hxl, hf⟩ := DataW.trod_struct Try.underlying64 h2
      have cI : Try.prog.cellsOf 3 = 1 := by kernel_rfl
      have cS : Try.prog.cellsOf 9 = 1 := by kernel_rfl
      match cs', hlen, xs, hxl with
      | [v0, v1, v2], _, [y0, y1, y2], _ =>
        have g0 := hf 0 _ rfl
        have g1 := hf 1 _ rfl
        have g2 := hf 2 _ rfl
        simp [cI, cS] at g0 g1 g2
        obtain ⟨z0, e0, r0⟩ := open_int1 g0
        obtain ⟨z1, e1, r1⟩ := open_int1 g1
        obtain ⟨z2, e2, _, _⟩ := DataW.trod_string Try.underlying9 g2
        simp at e2
        subst e0 e1 e2
        have c0 := hcell 0 (by omega)
        have c1 := hcell 1 (by omega)
        have c2 := hcell 2 (by omega)
        rw [add_add] at c0 c1 c2
        exact ⟨(z0, z1, z2), ⟨by simpa using c0, by simpa using c1, by simpa using c2⟩, r0, r1⟩
    obtain ⟨q, hq⟩ := choose_lt each
    refine ⟨some ad, m, (List.range len).map q, by simpa using hcs, ⟨fun hne => ?_⟩, fun z hz => ?_⟩
    · have hpos : 0 < len := by
        rcases Nat.eq_zero_or_pos len with h | h
        · subst h; simp at hne
        · exact h
      obtain ⟨b, off, spot⟩ := ad
      have hc := (hq 0 (by omega)).1.1
      have hspot : spot = none := by simpa [Addr.add] using World.cell?_spot hc
      subst hspot
      refine ⟨b, off, rfl, ?_, fun i hi => ?_⟩
      · have := block_lt_of_cell hc
        rw [addr_add] at this
        exact this
      · have hi' : i < len := by simpa using hi
        obtain ⟨h1, h2, h3⟩ := (hq i (by omega)).1
        rw [addr_add] at h1 h2 h3
        have e : ((List.range len).map q).getD i d0 = q i := by simp [List.getD, hi']
        rw [e, show off + i * 3 + 1 = off + (i * 3 + 1) by omega, show off + i * 3 + 2 = off + (i * 3 + 2) by omega]
        exact ⟨h1, h2, h3⟩
    · obtain ⟨i, hi, rfl⟩ := List.mem_map.1 hz
      exact (hq i (by have := List.mem_range.1 hi; omega)).2

theorem open_exprs {fuel : Nat} {v : Value} {x : DataW H × List MemPlace} (h : DataW.trod enc Try.prog w 0 (fun _ => true) true fuel 42 [v] = some x) :
    ∃ a cap, ∃ l : List (List V), v = .slice a l.length cap ∧ Es w.heap.size w a l ∧ ∀ e ∈ l, ∀ t ∈ e, R64 t.1 ∧ R64 t.2.1 := by
  rcases open_slice1 Try.underlying42 (by kernel_rfl) h with ⟨h0, _⟩ | ⟨ad, len, cap, m, n, V', D, Pl, hcs, _, hl, _, hmm, _, hx⟩
  · simp at h0
    exact ⟨none, 0, [], h0, Es.nil _ _ _, by simp⟩
  · simp at hcs
    simp at hmm
    subst hmm
    have each : ∀ i, i < m → ∃ q : List V, (∃ a c, w.cell? (ad.add i) = some (.slice a q.length c) ∧ Vs w.heap.size w a q) ∧ ∀ t ∈ q, R64 t.1 ∧ R64 t.2.1 := by
      intro i hi
      obtain ⟨h1, h2⟩ := hx i hi
      obtain ⟨a, c, l, e, hv, hr⟩ := open_terms h2
      rw [e] at h1
      exact ⟨l, ⟨a, c, h1, hv⟩, hr⟩
    obtain ⟨q, hq⟩ := choose_lt each
    refine ⟨some ad, m, (List.range len).map q, by simpa using hcs, ⟨fun hne => ?_⟩, fun z hz => ?_⟩
    · have hpos : 0 < len := by
        rcases Nat.eq_zero_or_pos len with h | h
        · subst h; simp at hne
        · exact h
      obtain ⟨b, off, spot⟩ := ad
      obtain ⟨_, _, hc, _⟩ := (hq 0 (by omega)).1
      have hspot : spot = none := by simpa [Addr.add] using World.cell?_spot hc
      subst hspot
      refine ⟨b, off, rfl, ?_, fun i hi => ?_⟩
      · have := block_lt_of_cell hc
        rw [addr_add] at this
        exact this
      · have hi' : i < len := by simpa using hi
        obtain ⟨a, c, h1, h2⟩ := (hq i (by omega)).1
        rw [addr_add] at h1
        have e : ((List.range len).map q).getD i [] = q i := by simp [List.getD, hi']
        rw [e]
        exact ⟨a, c, h1, h2⟩
    · obtain ⟨i, hi, rfl⟩ := List.mem_map.1 hz
      exact (hq i (by have := List.mem_range.1 hi; omega)).2

theorem open_nodes {fuel : Nat} {v : Value} {x : DataW H × List MemPlace} (h : DataW.trod enc Try.prog w 0 (fun _ => true) true fuel 22 [v] = some x) :
    ∃ a cap, ∃ l : List Nd, v = .slice a l.length cap ∧ Nds w.heap.size w a l ∧ ∀ x ∈ l, NdRng x := by
  rcases open_slice Try.underlying22 h with ⟨h0, _⟩ | ⟨ad, len, cap, m, n, D, Pl, hcs, _, hl, _, hmm, _, hx⟩
  · simp at h0
    exact ⟨none, 0, [], h0, Nds.nil _ _ _, by simp⟩
  · simp at hcs
    simp at hmm
    subst hmm
    have each : ∀ i, i < m → ∃ q : Nd, (∃ s : NdS, (w.cell? (ad.add (i * 9)) = some (.int .i64 q.kind) ∧ w.cell? (ad.add (i * 9 + 1)) = some (.slice s.a1 q.ins.length s.c1) ∧ w.cell? (ad.add (i * 9 + 2)) = some (.slice s.a2 q.kinds.length s.c2) ∧ w.cell? (ad.add (i * 9 + 3)) = some (.slice s.a3 q.exprs.length s.c3) ∧ w.cell? (ad.add (i * 9 + 4)) = some (.slice s.a4 q.cols.length s.c4) ∧ w.cell? (ad.add (i * 9 + 5)) = some (.int .i64 q.key) ∧ w.cell? (ad.add (i * 9 + 6)) = some (.int .i64 q.n) ∧ w.cell? (ad.add (i * 9 + 7)) = some (.int .i64 q.size) ∧ w.cell? (ad.add (i * 9 + 8)) = some (.int .i64 q.slide)) ∧ NdR w.heap.size w q s) ∧ NdRng q := by
      intro i hi
      obtain ⟨cs', h1, h2⟩ := hx i hi
      rw [show Try.prog.cellsOf 44 = 9 by kernel_rfl] at h1
      obtain ⟨_, hlen, hcell⟩ := World.cells?_some h1
      obtain ⟨xs, k, hk, hxy, _, hxl, hf⟩ := DataW.trod_struct Try.underlying44 h2
      have cI : Try.prog.cellsOf 3 = 1 := by kernel_rfl
      have cL : Try.prog.cellsOf 23 = 1 := by kernel_rfl
      have cE : Try.prog.cellsOf 42 = 1 := by kernel_rfl
      match cs', hlen, xs, hxl with
      | [v0, v1, v2, v3, v4, v5, v6, v7, v8], _, [y0, y1, y2, y3, y4, y5, y6, y7, y8], _ =>
        have g0 := hf 0 _ rfl
        have g1 := hf 1 _ rfl
        have g2 := hf 2 _ rfl
        have g3 := hf 3 _ rfl
        have g4 := hf 4 _ rfl
        have g5 := hf 5 _ rfl
        have g6 := hf 6 _ rfl
        have g7 := hf 7 _ rfl
        have g8 := hf 8 _ rfl
        simp [cI, cL, cE] at g0 g1 g2 g3 g4 g5 g6 g7 g8
        obtain ⟨z0, e0, r0⟩ := open_int1 g0
        obtain ⟨a1, k1, l1, e1, n1, r1⟩ := open_ints g1
        obtain ⟨a2, k2, l2, e2, n2, r2⟩ := open_ints g2
        obtain ⟨a3, k3, l3, e3, n3, r3⟩ := open_exprs g3
        obtain ⟨a4, k4, l4, e4, n4, r4⟩ := open_ints g4
        obtain ⟨z5, e5, r5⟩ := open_int1 g5
        obtain ⟨z6, e6, r6⟩ := open_int1 g6
        obtain ⟨z7, e7, r7⟩ := open_int1 g7
        obtain ⟨z8, e8, r8⟩ := open_int1 g8
        subst e0 e1 e2 e3 e4 e5 e6 e7 e8
        have c0 := hcell 0 (by omega)
        have c1 := hcell 1 (by omega)
        have c2 := hcell 2 (by omega)
        have c3 := hcell 3 (by omega)
        have c4 := hcell 4 (by omega)
        have c5 := hcell 5 (by omega)
        have c6 := hcell 6 (by omega)
        have c7 := hcell 7 (by omega)
        have c8 := hcell 8 (by omega)
        rw [add_add] at c0 c1 c2 c3 c4 c5 c6 c7 c8
        exact ⟨⟨z0, l1, l2, l3, l4, z5, z6, z7, z8⟩, ⟨⟨a1, k1, a2, k2, a3, k3, a4, k4⟩, ⟨by simpa using c0, by simpa using c1, by simpa using c2, by simpa using c3, by simpa using c4, by simpa using c5, by simpa using c6, by simpa using c7, by simpa using c8⟩, ⟨n1, n2, n3, n4⟩⟩, ⟨r0, r1, r2, r3, r4, r5, r6, r7, r8⟩⟩
    obtain ⟨q, hq⟩ := choose_lt each
    refine ⟨some ad, m, (List.range len).map q, by simpa using hcs, ⟨fun hne => ?_⟩, fun z hz => ?_⟩
    · have hpos : 0 < len := by
        rcases Nat.eq_zero_or_pos len with h | h
        · subst h; simp at hne
        · exact h
      obtain ⟨b, off, spot⟩ := ad
      obtain ⟨_, ⟨hc, _⟩, _⟩ := (hq 0 (by omega)).1
      have hspot : spot = none := by simpa [Addr.add] using World.cell?_spot hc
      subst hspot
      refine ⟨b, off, rfl, ?_, fun i hi => ?_⟩
      · have := block_lt_of_cell hc
        rw [addr_add] at this
        exact this
      · have hi' : i < len := by simpa using hi
        obtain ⟨s, hc, hr⟩ := (hq i (by omega)).1
        have e : ((List.range len).map q).getD i n0 = q i := by simp [List.getD, hi']
        rw [e]
        refine ⟨s, ?_, hr⟩
        simp only [addr_add, ← Nat.add_assoc] at hc
        obtain ⟨h0, h1, h2, h3, h4, h5, h6, h7, h8⟩ := hc
        exact ⟨h0, h1, h2, h3, h4, h5, h6, h7, h8⟩
    · obtain ⟨i, hi, rfl⟩ := List.mem_map.1 hz
      exact (hq i (by have := List.mem_range.1 hi; omega)).2

theorem open_plan {r : Reach} {b0 : Nat} {v : Value} {d : DataW H} {p : List MemPlace} (hv : Value.okWide Try.prog w r b0 25 v) (h : DataW.Trod enc Try.prog w 0 (fun _ => true) true 25 v d p) : ∃ (x : Pl) (s : PlS), v = plV x s ∧ PlR w.heap.size w x s ∧ PlRng x := by
  obtain ⟨v0, v1, v2, y0, y1, y2, n, rfl, _, _, h0, h1, h2⟩ := Joins.open_agg3 Try.underlying25 (by kernel_rfl) (by kernel_rfl) hv h
  obtain ⟨a, c, l, rfl, hn, hr⟩ := open_nodes h0
  obtain ⟨a', c', l', rfl, hn', hr'⟩ := open_ints h1
  obtain ⟨z, rfl, hz⟩ := open_int1 h2
  exact ⟨⟨l, l', z⟩, ⟨a, c, a', c'⟩, rfl, ⟨hn, hn'⟩, ⟨hr, hr', hz⟩⟩
end

end Go.Proofs.Ytjpjeledbjpaeaa
