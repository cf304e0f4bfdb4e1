/-
  What is proved here: arguments that are bytes, times, commands, as the statements read them: what lies in memory.
-/
import Derived.Test.YtgalmkhgbokidaaWA
import Derived.ProofKit
import Derived.OpenShut
import Derived.ShutString
import Derived.ChangeOld
import Derived.ChangeSlices
import Derived.ChangeSame
import Derived.Deep.Slices
import Derived.Lib.SmallJoins
namespace Go.Proofs.Ytgalmkhgbokidaa
open Go.ChangeShapes Go.WideShapes Go.ChangeAt Go.RowKit Go.Deep
set_option maxRecDepth 20000
set_option linter.unusedVariables false
set_option linter.unusedSimpArgs false

theorem laidOut : laidOutB Try.prog = true := by kernel_rfl

theorem ownK : ownKnob Try.prog.godebug = none := by kernel_rfl

theorem R64.of_wf {z : Int} (h : (Lit.int .i64 z).wf = true) : R64 z := by
  have := bounds_i64 h
  unfold R64; omega

instance : Inhabited (Cm × CmS) := ⟨(c0, s0)⟩

def cCm (x : Cm × CmS) : List Value := (cmA x.1 x.2).toList
theorem cCm_len (x : Cm × CmS) : (cCm x).length = 9 := rfl

section
variable {H : Type} {enc : TypeId × Value → H} {w : World}

theorem open_int1 {fuel : Nat} {v : Value} {x : DataW H × List MemPlace} (h : DataW.trod enc Try.prog w 0 (fun _ => true) true fuel 3 [v] = some x) : ∃ z, v = .int .i64 z ∧ R64 z := by
  obtain ⟨z, e, _, hw⟩ := DataW.trod_int Try.underlying3 h
  simp at e
  exact ⟨z, e, R64.of_wf hw⟩

theorem open_byte1 {fuel : Nat} {v : Value} {x : DataW H × List MemPlace} (h : DataW.trod enc Try.prog w 0 (fun _ => true) true fuel 5 [v] = some x) : ∃ z, v = .int .u8 z ∧ 0 ≤ z ∧ z < 256 := by
  obtain ⟨z, e, _, hw⟩ := DataW.trod_int Try.underlying5 h
  simp at e
  have := bounds_u8 hw
  exact ⟨z, e, by omega, by omega⟩

theorem open_gen {α : Type} [Inhabited α] (k : Nat) (cs : α → List Value) (d : α) (hk : 0 < k) (hcs : ∀ x, (cs x).length = k) {t e : TypeId} (ht : Try.prog.underlying t = some (.slice e)) (he : Try.prog.cellsOf e = k) (good : α → Prop)
    (dec : ∀ (n : Nat) (cs' : List Value) (y : DataW H × List MemPlace), DataW.trod enc Try.prog w 0 (fun _ => true) true n e cs' = some y → cs'.length = k → ∃ q, cs' = cs q ∧ good q) {fuel : Nat} {v : Value} {x : DataW H × List MemPlace} (h : DataW.trod enc Try.prog w 0 (fun _ => true) true fuel t [v] = some x) :
    ∃ a cap, ∃ l : List α, v = .slice a l.length cap ∧ SP k cs d (fun b => b < w.heap.size) w a l ∧ Sh a l.length cap ∧ ∀ q ∈ l, good q := by
  rcases open_slice ht h with ⟨h0, _⟩ | ⟨ad, len, cap, m, n, D, Pl, hv, _, hl, _, hmm, _, hx⟩
  · simp at h0
    exact ⟨none, 0, [], h0, SP.nil _ _ _, Sh.nil, by simp⟩
  · simp at hv
    simp at hmm
    subst hmm
    have each : ∀ i, i < m → ∃ q : α, (∀ j, j < k → w.cell? (ad.add (i * k + j)) = (cs q)[j]?) ∧ good q := by
      intro i hi
      obtain ⟨cs', h1, h2⟩ := hx i hi
      rw [he] at h1
      obtain ⟨_, hlen, hcell⟩ := World.cells?_some h1
      obtain ⟨q, rfl, hq⟩ := dec _ _ _ h2 hlen
      refine ⟨q, fun j hj => ?_, hq⟩
      have c := hcell j hj
      rw [add_add] at c
      exact c
    obtain ⟨q, hq⟩ := choose_lt each
    refine ⟨some ad, m, (List.range len).map q, by simpa using hv, ⟨fun hne => ?_⟩, Sh.at _ _ _ (by simpa using hl), fun z hz => ?_⟩
    · have hpos : 0 < len := by
        rcases Nat.eq_zero_or_pos len with h | h
        · subst h; simp at hne
        · exact h
      obtain ⟨b, off, spot⟩ := ad
      have hc := (hq 0 (by omega)).1 0 hk
      have hsome : ∃ u, (cs (q 0))[0]? = some u := ⟨_, List.getElem?_eq_getElem (by rw [hcs]; exact hk)⟩
      obtain ⟨u, hu⟩ := hsome
      rw [hu] at hc
      have hspot : spot = none := by simpa [Addr.add] using World.cell?_spot hc
      subst hspot
      have hb : b < w.heap.size := by
        have := block_lt_of_cell hc
        rw [addr_add] at this
        exact this
      refine ⟨b, off, rfl, hb, hb, fun i j hi hj => ?_⟩
      have hi' : i < len := by simpa using hi
      have h1 := (hq i (by omega)).1 j hj
      rw [addr_add] at h1
      have e : ((List.range len).map q).getD i d = q i := by simp [List.getD, hi']
      rw [e]
      exact h1
    · obtain ⟨i, hi, rfl⟩ := List.mem_map.1 hz
      exact (hq i (by have := List.mem_range.1 hi; omega)).2

theorem open_bytesV {fuel : Nat} {v : Value} {x : DataW H × List MemPlace} (h : DataW.trod enc Try.prog w 0 (fun _ => true) true fuel 22 [v] = some x) :
    ∃ a cap, ∃ l : List Int, v = .slice a l.length cap ∧ BP (fun b => b < w.heap.size) w a l ∧ Sh a l.length cap ∧ Byt l :=
  open_gen 1 cB 0 (by omega) cB_len Try.underlying22 (by kernel_rfl) (fun z => 0 ≤ z ∧ z < 256) (fun n cs' y hy hlen => by
    match cs', hlen with
    | [u], _ =>
      obtain ⟨z, rfl, hr⟩ := open_byte1 hy
      exact ⟨z, rfl, hr⟩) h

theorem open_timesV {fuel : Nat} {v : Value} {x : DataW H × List MemPlace} (h : DataW.trod enc Try.prog w 0 (fun _ => true) true fuel 29 [v] = some x) :
    ∃ a cap, ∃ l : List T, v = .slice a l.length cap ∧ TP (fun b => b < w.heap.size) w a l ∧ Sh a l.length cap ∧ ∀ t ∈ l, RT t :=
  open_gen 2 cT t0 (by omega) cT_len Try.underlying29 (by kernel_rfl) RT (fun n cs' y hy hlen => by
    obtain ⟨xs, k, hk, hxy, _, hxl, hf⟩ := DataW.trod_struct Try.underlying26 hy
    have cI : Try.prog.cellsOf 3 = 1 := by kernel_rfl
    match cs', hlen, xs, hxl with
    | [v0, v1], _, [y0, y1], _ =>
      have g0 := hf 0 _ rfl
      have g1 := hf 1 _ rfl
      simp [cI] at g0 g1
      obtain ⟨z0, rfl, r0⟩ := open_int1 g0
      obtain ⟨z1, rfl, r1⟩ := open_int1 g1
      exact ⟨(z0, z1), rfl, r0, r1⟩) h

theorem open_rowV {fuel : Nat} {v : Value} {x : DataW H × List MemPlace} (h : DataW.trod enc Try.prog w 0 (fun _ => true) true fuel 24 [v] = some x) :
    ∃ a cap, ∃ l : List V, v = .slice a l.length cap ∧ VP (fun b => b < w.heap.size) w a l ∧ Sh a l.length cap ∧ ∀ q ∈ l, R64 q.1 ∧ R64 q.2.1 :=
  open_gen 3 cV d0 (by omega) cV_len Try.underlying24 (by kernel_rfl) (fun q => R64 q.1 ∧ R64 q.2.1) (fun n cs' y hy hlen => by
    obtain ⟨xs, k, hk, hxy, _, hxl, hf⟩ := DataW.trod_struct Try.underlying78 hy
    have cI : Try.prog.cellsOf 3 = 1 := by kernel_rfl
    have cS : Try.prog.cellsOf 9 = 1 := by kernel_rfl
    match cs', hlen, xs, hxl with
    | [v0, v1, v2], _, [y0, y1, y2], _ =>
      have g0 := hf 0 _ rfl
      have g1 := hf 1 _ rfl
      have g2 := hf 2 _ rfl
      simp [cI, cS] at g0 g1 g2
      obtain ⟨z0, rfl, r0⟩ := open_int1 g0
      obtain ⟨z1, rfl, r1⟩ := open_int1 g1
      obtain ⟨z2, e2, _, _⟩ := DataW.trod_string Try.underlying9 g2
      simp at e2
      subst e2
      exact ⟨(z0, z1, z2), rfl, r0, r1⟩) h

/-- A command that was handed in. -/
def Giv (w : World) (x : Cm × CmS) : Prop := CmR (fun b => b < w.heap.size) w x.1 x.2 ∧ CmN x.1

theorem open_cmdC {fuel : Nat} {cs' : List Value} {x : DataW H × List MemPlace} (h : DataW.trod enc Try.prog w 0 (fun _ => true) true fuel 31 cs' = some x) (hlen : cs'.length = 9) : ∃ q : Cm × CmS, cs' = cCm q ∧ Giv w q := by
  obtain ⟨xs, k, hk, hxy, _, hxl, hf⟩ := DataW.trod_struct Try.underlying31 h
  have cI : Try.prog.cellsOf 3 = 1 := by kernel_rfl
  have cU : Try.prog.cellsOf 28 = 4 := by kernel_rfl
  have cR : Try.prog.cellsOf 24 = 1 := by kernel_rfl
  have cTi : Try.prog.cellsOf 26 = 2 := by kernel_rfl
  have cF : Try.prog.cellsOf 29 = 1 := by kernel_rfl
  have cBy : Try.prog.cellsOf 22 = 1 := by kernel_rfl
  match cs', hlen, xs, hxl with
  | [v0, v1, v2, v3, v4, v5, v6, v7, v8], _, [y0, y1, y2, y3, y4, y5], _ =>
    have g0 := hf 0 _ rfl
    have g1 := hf 1 _ rfl
    have g2 := hf 2 _ rfl
    have g3 := hf 3 _ rfl
    have g4 := hf 4 _ rfl
    have g5 := hf 5 _ rfl
    simp [cI, cU, cF, cBy] at g0 g1 g2 g3 g4 g5
    obtain ⟨z0, rfl, r0⟩ := open_int1 g0
    obtain ⟨z1, rfl, r1⟩ := open_int1 g1
    obtain ⟨z7, rfl, r7⟩ := open_int1 g4
    obtain ⟨fa, fc, fl, rfl, hfp, hfs, hfr⟩ := open_timesV g3
    obtain ⟨sa, sc, sl, rfl, hsp, hss, hsr⟩ := open_bytesV g5
    obtain ⟨xs', k', hk', hxy', _, hxl', hf'⟩ := DataW.trod_struct Try.underlying28 g2
    match xs', hxl' with
    | [y20, y21, y22], _ =>
      have g20 := hf' 0 _ rfl
      have g21 := hf' 1 _ rfl
      have g22 := hf' 2 _ rfl
      simp [cI, cR, cTi] at g20 g21 g22
      obtain ⟨ra, rc, rl, rfl, hrp, hrs, hrr⟩ := open_rowV g20
      obtain ⟨z5, rfl, r5⟩ := open_int1 g22
      obtain ⟨xs2, k2, hk2, hxy2, _, hxl2, hf2⟩ := DataW.trod_struct Try.underlying26 g21
      match xs2, hxl2 with
      | [y30, y31], _ =>
        have g30 := hf2 0 _ rfl
        have g31 := hf2 1 _ rfl
        simp [cI] at g30 g31
        obtain ⟨z3, rfl, r3⟩ := open_int1 g30
        obtain ⟨z4, rfl, r4⟩ := open_int1 g31
        exact ⟨(⟨z0, z1, rl, (z3, z4), z5, fl, z7, sl⟩, ⟨ra, rc, fa, fc, sa, sc⟩), rfl, ⟨hrp, hfp, hsp, hsr, hrs, hfs, hss⟩, ⟨r0, r1, r5, r7, ⟨r3, r4⟩, hfr, hrr⟩⟩

theorem open_cmd {r : Reach} {b0 : Nat} {v : Value} {d : DataW H} {p : List MemPlace} (hv : Value.okWide Try.prog w r b0 31 v) (h : DataW.Trod enc Try.prog w 0 (fun _ => true) true 31 v d p) : ∃ q : Cm × CmS, v = cmV q.1 q.2 ∧ Giv w q := by
  obtain ⟨cs, rfl, hsz⟩ := okWide_struct Try.underlying31 hv
  obtain ⟨fuel, hf⟩ := h
  have h9 : Try.prog.cellsOf 31 = 9 := by kernel_rfl
  obtain ⟨q, hq, hg⟩ := open_cmdC (cs' := cs.toList) (by simpa [Value.cells] using hf) (by simp; omega)
  refine ⟨q, ?_, hg⟩
  unfold cmV
  congr 1
  apply Array.ext'
  exact hq

theorem open_cmdsV {fuel : Nat} {v : Value} {x : DataW H × List MemPlace} (h : DataW.trod enc Try.prog w 0 (fun _ => true) true fuel 33 [v] = some x) :
    ∃ a cap, ∃ l : List (Cm × CmS), v = .slice a l.length cap ∧ SP 9 cCm (c0, s0) (fun b => b < w.heap.size) w a l ∧ Sh a l.length cap ∧ ∀ q ∈ l, Giv w q :=
  open_gen 9 cCm (c0, s0) (by omega) cCm_len Try.underlying33 (by kernel_rfl) (Giv w) (fun n cs' y hy hlen => open_cmdC hy hlen) h
end

end Go.Proofs.Ytgalmkhgbokidaa
