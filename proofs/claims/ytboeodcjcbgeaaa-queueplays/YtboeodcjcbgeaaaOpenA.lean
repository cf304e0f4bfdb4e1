/-
  What is proved here: an argument that is a list of calls, as the statement reads it: what lies in memory.
-/
import Derived.Test.YtboeodcjcbgeaaaQJ
import Derived.Test.YtboeodcjcbgeaaaOpenQ
namespace Go.Proofs.Ytboeodcjcbgeaaa
open Go.ChangeShapes Go.WideShapes Go.ChangeAt Go.RowKit Go.Deep
set_option maxRecDepth 20000
set_option linter.unusedVariables false
set_option linter.unusedSimpArgs false

instance : Inhabited U := ⟨u0⟩
instance : Inhabited Ac := ⟨ac0⟩

section
variable {H : Type} {enc : TypeId × Value → H} {w : World}

theorem open_int1 {fuel : Nat} {v : Value} {x : DataW H × List MemPlace} (h : DataW.trod enc Try.prog w 0 (fun _ => true) true fuel 3 [v] = some x) : ∃ z, v = .int .i64 z ∧ R64 z := by
  obtain ⟨z, e, _, hw⟩ := DataW.trod_int Try.underlying3 h
  simp at e
  exact ⟨z, e, R64.of_wf hw⟩

theorem open_row {fuel : Nat} {v : Value} {x : DataW H × List MemPlace} (h : DataW.trod enc Try.prog w 0 (fun _ => true) true fuel 34 [v] = some x) :
    ∃ a cap, ∃ l : List V, v = .slice a l.length cap ∧ VP (fun k => k < w.heap.size) w a l ∧ Sh a l.length cap := by
  rcases open_slice Try.underlying34 h with ⟨h0, _⟩ | ⟨ad, len, cap, m, n, D, Pl, hcs, _, hl, _, hmm, _, hx⟩
  · simp at h0
    exact ⟨none, 0, [], h0, VP.nil _ _ _, Sh.nil⟩
  · simp at hcs
    simp at hmm
    subst hmm
    have each : ∀ i, i < m → ∃ q : V, w.cell? (ad.add (i * 3)) = some (.int .i64 q.1) ∧ w.cell? (ad.add (i * 3 + 1)) = some (.int .i64 q.2.1) ∧ w.cell? (ad.add (i * 3 + 2)) = some (.string q.2.2) := by
      intro i hi
      obtain ⟨cs', h1, h2⟩ := hx i hi
      rw [show Try.prog.cellsOf 68 = 3 by kernel_rfl] at h1
      obtain ⟨_, hlen, hcell⟩ := World.cells?_some h1
      obtain ⟨xs, k, hk, hxy, _, hxl, hf⟩ := DataW.trod_struct Try.underlying68 h2
      have cI : Try.prog.cellsOf 3 = 1 := by kernel_rfl
      have cS : Try.prog.cellsOf 9 = 1 := by kernel_rfl
      match cs', hlen, xs, hxl with
      | [v0, v1, v2], _, [y0, y1, y2], _ =>
        have g0 := hf 0 _ rfl
        have g1 := hf 1 _ rfl
        have g2 := hf 2 _ rfl
        simp [cI, cS] at g0 g1 g2
        obtain ⟨z0, e0, r0⟩ := open_int1 g0
        obtain ⟨z1, e1, r1⟩ := open_int1 g1
        obtain ⟨z2, e2, _, _⟩ := DataW.trod_string Try.underlying9 g2
        simp at e2
        subst e0 e1 e2
        have c0 := hcell 0 (by omega)
        have c1 := hcell 1 (by omega)
        have c2 := hcell 2 (by omega)
        rw [add_add] at c0 c1 c2
        exact ⟨(z0, z1, z2), by simpa using c0, by simpa using c1, by simpa using c2⟩
    obtain ⟨q, hq⟩ := choose_lt each
    refine ⟨some ad, m, (List.range len).map q, by simpa using hcs, ⟨fun hne => ?_⟩, Sh.at _ _ _⟩
    have hpos : 0 < len := by
      rcases Nat.eq_zero_or_pos len with h | h
      · subst h; simp at hne
      · exact h
    obtain ⟨b, off, spot⟩ := ad
    have hc := (hq 0 (by omega)).1
    have hspot : spot = none := by simpa [Addr.add] using World.cell?_spot hc
    subst hspot
    have hb : b < w.heap.size := by
      have := block_lt_of_cell hc
      rw [addr_addQ] at this
      exact this
    refine ⟨b, off, rfl, hb, hb, fun i hi => ?_⟩
    have hi' : i < len := by simpa using hi
    obtain ⟨h1, h2, h3⟩ := hq i (by omega)
    rw [addr_addQ] at h1 h2 h3
    have e : ((List.range len).map q).getD i d0 = q i := by simp [List.getD, hi']
    rw [e, show off + i * 3 + 1 = off + (i * 3 + 1) by omega, show off + i * 3 + 2 = off + (i * 3 + 2) by omega]
    exact ⟨h1, h2, h3⟩

theorem open_ups {fuel : Nat} {v : Value} {x : DataW H × List MemPlace} (h : DataW.trod enc Try.prog w 0 (fun _ => true) true fuel 30 [v] = some x) :
    ∃ a n cap, ∃ l : List U, v = .slice a n cap ∧ IsUps w.heap.size w a n cap l := by
  rcases open_slice Try.underlying30 h with ⟨h0, _⟩ | ⟨ad, len, cap, m, n, D, Pl, hcs, _, hl, _, hmm, _, hx⟩
  · simp at h0
    exact ⟨none, 0, 0, [], h0, ⟨rfl, fun h => absurd rfl h, .inl ⟨rfl, rfl, rfl⟩, by simp⟩⟩
  · simp at hcs
    simp at hmm
    subst hmm
    have each : ∀ i, i < m → ∃ q : U, (∃ s : Slot, (w.cell? (ad.add (i * 4)) = some (.slice s.a s.n s.c) ∧ w.cell? (ad.add (i * 4 + 1)) = some (.int .i64 s.t.1) ∧ w.cell? (ad.add (i * 4 + 2)) = some (.int .i64 s.t.2) ∧ w.cell? (ad.add (i * 4 + 3)) = some (.int .i64 s.d)) ∧ Rd (fun k => k < w.heap.size) w s q) ∧ RT q.time := by
      intro i hi
      obtain ⟨cs', h1, h2⟩ := hx i hi
      rw [show Try.prog.cellsOf 38 = 4 by kernel_rfl] at h1
      obtain ⟨_, hlen, hcell⟩ := World.cells?_some h1
      obtain ⟨xs, k, hk, hxy, _, hxl, hf⟩ := DataW.trod_struct Try.underlying38 h2
      have cI : Try.prog.cellsOf 3 = 1 := by kernel_rfl
      have cR : Try.prog.cellsOf 34 = 1 := by kernel_rfl
      have cT : Try.prog.cellsOf 36 = 2 := by kernel_rfl
      match cs', hlen, xs, hxl with
      | [v0, v1, v2, v3], _, [y0, y1, y2], _ =>
        have g0 := hf 0 _ rfl
        have g1 := hf 1 _ rfl
        have g2 := hf 2 _ rfl
        simp [cI, cR, cT] at g0 g1 g2
        obtain ⟨a, c, l, e0, hv, hsh⟩ := open_row g0
        obtain ⟨z3, e3, r3⟩ := open_int1 g2
        obtain ⟨xs', k', hk', hxy', _, hxl', hf'⟩ := DataW.trod_struct Try.underlying36 g1
        match xs', hxl' with
        | [y10, y11], _ =>
          have g10 := hf' 0 _ rfl
          have g11 := hf' 1 _ rfl
          simp [cI] at g10 g11
          obtain ⟨z1, e1, r1⟩ := open_int1 g10
          obtain ⟨z2, e2, r2⟩ := open_int1 g11
          subst e0 e1 e2 e3
          have c0 := hcell 0 (by omega)
          have c1 := hcell 1 (by omega)
          have c2 := hcell 2 (by omega)
          have c3 := hcell 3 (by omega)
          rw [add_add] at c0 c1 c2 c3
          exact ⟨⟨l, (z1, z2), z3⟩, ⟨⟨a, l.length, c, (z1, z2), z3⟩, ⟨by simpa using c0, by simpa using c1, by simpa using c2, by simpa using c3⟩, ⟨hsh, rfl, hv, rfl, rfl⟩⟩, ⟨r1, r2⟩⟩
    obtain ⟨q, hq⟩ := choose_lt each
    refine ⟨some ad, len, m, (List.range len).map q, by simpa using hcs, ⟨by simp, fun hne => ?_, .inr ⟨ad, rfl⟩, fun z hz => ?_⟩⟩
    · have hpos : 0 < len := by
        rcases Nat.eq_zero_or_pos len with h | h
        · subst h; simp at hne
        · exact h
      obtain ⟨b, off, spot⟩ := ad
      obtain ⟨_, ⟨hc, _⟩, _⟩ := (hq 0 (by omega)).1
      have hspot : spot = none := by simpa [Addr.add] using World.cell?_spot hc
      subst hspot
      have hb : b < w.heap.size := by
        have := block_lt_of_cell hc
        rw [addr_addQ] at this
        exact this
      refine ⟨b, off, rfl, hb, fun i hi => ?_⟩
      have hi' : i < len := by simpa using hi
      obtain ⟨s, ⟨h1, h2, h3, h4⟩, hr⟩ := (hq i (by omega)).1
      rw [addr_addQ] at h1 h2 h3 h4
      have e : ((List.range len).map q).getD i u0 = q i := by simp [List.getD, hi']
      rw [e]
      exact ⟨s, ⟨h1, by rw [← h2]; congr 2, by rw [← h3]; congr 2, by rw [← h4]; congr 2⟩, hr⟩
    · obtain ⟨i, hi, rfl⟩ := List.mem_map.1 hz
      exact (hq i (by have := List.mem_range.1 hi; omega)).2

theorem open_acts {fuel : Nat} {a : Option Addr} {len cap : Nat} {x : DataW H × List MemPlace} (h : DataW.trod enc Try.prog w 0 (fun _ => true) true fuel 22 [.slice a len cap] = some x) :
    ∃ A : List Ac, IsActs w.heap.size w a len A := by
  rcases open_slice Try.underlying22 h with ⟨h0, _⟩ | ⟨ad, len', cap', m, n, D, Pl, hcs, _, hl, _, hmm, _, hx⟩
  · simp at h0
    obtain ⟨rfl, rfl, rfl⟩ := h0
    exact ⟨[], ⟨rfl, fun h => absurd rfl h⟩⟩
  · simp at hcs
    obtain ⟨rfl, rfl, rfl⟩ := hcs
    simp at hmm
    subst hmm
    have each : ∀ i, i < m → ∃ q : Ac, ∃ a n c, w.cell? (ad.add (i * 2)) = some (.bool q.pop) ∧ w.cell? (ad.add (i * 2 + 1)) = some (.slice a n c) ∧ IsUps w.heap.size w a n c q.l := by
      intro i hi
      obtain ⟨cs', h1, h2⟩ := hx i hi
      rw [show Try.prog.cellsOf 32 = 2 by kernel_rfl] at h1
      obtain ⟨_, hlen, hcell⟩ := World.cells?_some h1
      obtain ⟨xs, k, hk, hxy, _, hxl, hf⟩ := DataW.trod_struct Try.underlying32 h2
      have cB : Try.prog.cellsOf 4 = 1 := by kernel_rfl
      have cU : Try.prog.cellsOf 30 = 1 := by kernel_rfl
      match cs', hlen, xs, hxl with
      | [v0, v1], _, [y0, y1], _ =>
        have g0 := hf 0 _ rfl
        have g1 := hf 1 _ rfl
        simp [cB, cU] at g0 g1
        obtain ⟨z0, e0, _⟩ := DataW.trod_bool Try.underlying4 g0
        obtain ⟨a, n, c, l, e1, hu⟩ := open_ups g1
        simp at e0
        subst e0 e1
        have c0 := hcell 0 (by omega)
        have c1 := hcell 1 (by omega)
        rw [add_add] at c0 c1
        exact ⟨⟨z0, l⟩, a, n, c, by simpa using c0, by simpa using c1, hu⟩
    obtain ⟨q, hq⟩ := choose_lt each
    refine ⟨(List.range len).map q, ⟨by simp, fun hne => ?_⟩⟩
    have hpos : 0 < len := by
      rcases Nat.eq_zero_or_pos len with h | h
      · subst h; simp at hne
      · exact h
    obtain ⟨b, off, spot⟩ := ad
    obtain ⟨_, _, _, hc, _⟩ := hq 0 (by omega)
    have hspot : spot = none := by simpa [Addr.add] using World.cell?_spot hc
    subst hspot
    have hb : b < w.heap.size := by
      have := block_lt_of_cell hc
      rw [addr_addQ] at this
      exact this
    refine ⟨b, off, rfl, hb, fun i hi => ?_⟩
    have hi' : i < len := by simpa using hi
    obtain ⟨a, n, c, h1, h2, h3⟩ := hq i (by omega)
    rw [addr_addQ] at h1 h2
    have e : ((List.range len).map q).getD i ac0 = q i := by simp [List.getD, hi']
    rw [e]
    exact ⟨a, n, c, h1, by rw [← h2]; congr 2, h3⟩
end

end Go.Proofs.Ytboeodcjcbgeaaa
