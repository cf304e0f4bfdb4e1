/-
  What is proved here: the reader's command: what it reads of bytes.
-/
import Derived.Test.YtgalmkhgbokidaaWN
namespace Go.Proofs.Ytgalmkhgbokidaa
open Go.RowKit Go.Proofs
set_option maxRecDepth 20000
set_option linter.unusedVariables false
set_option linter.unusedSimpArgs false

/-- What bytes tell of a command whose byte d has been read. -/
def restB (c : Cm) : List Int := if c.op = 0 then shB c.sheet else oneB c.node ++ tailB c

theorem cmd_rest (c : Cm) : cmdB c = doB c.op ++ restB c := rfl

/-- The commands of one kind. -/
def NiceD (d : Int) (c : Cm) : Prop := Nice c ∧ c.op = d

theorem Rd.cmd {s s1 s2 : Option (List Int)} {d : Int} {c : Cm} (h1 : Rd doB DO s d s1) (h2 : s1 ≠ none → Rd restB (NiceD d) s1 c s2) (hn : s1 = none → s2 = none) : Rd cmdB Nice s c s2 := by
  cases s with
  | none =>
    have e := h1.bad
    rw [hn e]
    trivial
  | some r =>
    cases s1 with
    | none =>
      rw [hn rfl]
      intro y r' hy e
      rw [cmd_rest, List.append_assoc] at e
      exact h1 y.op _ ⟨hy.lo, hy.hi⟩ e
    | some r1 =>
      obtain ⟨d1, e1⟩ := h1
      have h2 := h2 (by simp)
      cases s2 with
      | none =>
        intro y r' hy e
        rw [cmd_rest, List.append_assoc, e1] at e
        obtain ⟨e3, e4⟩ := pf_do _ _ _ _ d1 ⟨hy.lo, hy.hi⟩ e
        exact h2 y r' ⟨hy, e3.symm⟩ e4
      | some r2 =>
        obtain ⟨⟨h3, h4⟩, e2⟩ := h2
        refine ⟨h3, ?_⟩
        rw [cmd_rest, h4, List.append_assoc, e1, e2]

/-- A command read: its cells. -/
def RepC (B : Nat) (x : Cm) (v : Value) (W : World) : Prop := ∃ s, v = cmV x s ∧ CmR (Since B) W x s

/-- What holds while command goes on: its result's block R, the command's block C, the reader's block g, memory from B on its own. -/
structure CS (w : World) (g R C : Nat) (ba : Option Addr) (cap : Nat) (l : List Int) (c : Cm) (s : CmS) (st : Option (List Int)) (W : World) : Prop where
  but : But g w W
  res : Bx W R (cmA c0 s0) 31
  bx : Bx W C (cmA c s) 31
  rd : RdS W g ba cap l st
  cm : CmR (fun k => g < k ∧ k ≠ R ∧ k ≠ C) W c s
  hR : w.heap.size ≤ R
  hC : w.heap.size ≤ C
  hg : g < w.heap.size
  hRC : R ≠ C

section
variable {w : World} {g R C : Nat} {ba : Option Addr} {cap : Nat} {l : List Int} {c : Cm} {s : CmS} {st st' : Option (List Int)} {W W' : World}

theorem CS.call (h : CS w g R C ba cap l c s st W) (hb : But g W W') (hr : RdS W' g ba cap l st') : CS w g R C ba cap l c s st' W' :=
  have h1 := h.hR
  have h2 := h.hC
  have h3 := h.hg
  ⟨h.but.trans hb, h.res.but hb (by omega), h.bx.but hb (by omega), hr, h.cm.keep (fun k hk hl => ⟨hb.block k hl (by omega), hk⟩) hb.size, h.hR, h.hC, h.hg, h.hRC⟩

theorem CS.bts (h : CS w g R C ba cap l c s st W) (hb : Bts g w ba l) : Bts g W ba l := hb.keep (h.but.below (Nat.le_of_lt h.hg))

theorem CS.frozen (h : CS w g R C ba cap l c s st W) (i : Nat) : W.frozen? ⟨C, i, none⟩ = false := h.bx.frozen i

theorem CS.set {i : Nat} {v : Value} {c' : Cm} {s' : CmS} (h : CS w g R C ba cap l c s st W) (he : (cmA c s).setIfInBounds i v = cmA c' s') (hc : CmR (fun k => g < k ∧ k ≠ R ∧ k ≠ C) W c' s') : CS w g R C ba cap l c' s' st (W.setCell ⟨C, i, none⟩ v) :=
  have h1 := h.hR
  have h2 := h.hC
  have h3 := h.hg
  ⟨h.but.setNew h.hC v, (Below.heap_setCell _ _ _ _ h.hRC).trans h.res, by rw [← he]; exact h.bx.setCell, h.rd.set (by omega), hc.keep (fun k hk hl => ⟨Below.heap_setCell _ _ _ _ hk.2.2, hk⟩) (by simp), h.hR, h.hC, h.hg, h.hRC⟩

theorem CS.set2 {i j : Nat} {v u : Value} {c' : Cm} {s' : CmS} (h : CS w g R C ba cap l c s st W) (he : ((cmA c s).setIfInBounds i v).setIfInBounds j u = cmA c' s') (hc : CmR (fun k => g < k ∧ k ≠ R ∧ k ≠ C) W c' s') : CS w g R C ba cap l c' s' st ((W.setCell ⟨C, i, none⟩ v).setCell ⟨C, j, none⟩ u) :=
  have h1 := h.hR
  have h2 := h.hC
  have h3 := h.hg
  ⟨(h.but.setNew h.hC v).setNew h.hC u, (Below.heap_setCell _ _ _ _ h.hRC).trans ((Below.heap_setCell _ _ _ _ h.hRC).trans h.res), by rw [← he]; exact h.bx.setCell.setCell, (h.rd.set (by omega)).set (by omega), hc.keep (fun k hk hl => ⟨(Below.heap_setCell _ _ _ _ hk.2.2).trans (Below.heap_setCell _ _ _ _ hk.2.2), hk⟩) (by simp), h.hR, h.hC, h.hg, h.hRC⟩

/-- The result is written. -/
def set9 (W : World) (R : Nat) (c : Cm) (s : CmS) : World := ((((((((W.setCell ⟨R, 0, none⟩ (.int .i64 c.op)).setCell ⟨R, 1, none⟩ (.int .i64 c.node)).setCell ⟨R, 2, none⟩ (.slice s.ra c.row.length s.rc)).setCell ⟨R, 3, none⟩ (.int .i64 c.time.1)).setCell ⟨R, 4, none⟩ (.int .i64 c.time.2)).setCell ⟨R, 5, none⟩ (.int .i64 c.diff)).setCell ⟨R, 6, none⟩ (.slice s.fa c.front.length s.fc)).setCell ⟨R, 7, none⟩ (.int .i64 c.fuel)).setCell ⟨R, 8, none⟩ (.slice s.sa c.sheet.length s.sc)

theorem set9_bx {cs : Cm} {ss : CmS} {t : TypeId} (h : Bx W R (cmA cs ss) t) (c : Cm) (s : CmS) : Bx (set9 W R c s) R (cmA c s) t := by
  unfold set9
  have := ((((((((h.setCell (i := 0) (v := .int .i64 c.op)).setCell (i := 1) (v := .int .i64 c.node)).setCell (i := 2) (v := .slice s.ra c.row.length s.rc)).setCell (i := 3) (v := .int .i64 c.time.1)).setCell (i := 4) (v := .int .i64 c.time.2)).setCell (i := 5) (v := .int .i64 c.diff)).setCell (i := 6) (v := .slice s.fa c.front.length s.fc)).setCell (i := 7) (v := .int .i64 c.fuel)).setCell (i := 8) (v := .slice s.sa c.sheet.length s.sc)
  simpa [cmA] using this

theorem set9_other (W : World) (R : Nat) (c : Cm) (s : CmS) {k : Nat} (h : k ≠ R) : (set9 W R c s).heap[k]? = W.heap[k]? := by
  unfold set9
  simp only [Below.heap_setCell _ _ _ _ (show k ≠ (⟨R, _, none⟩ : Addr).block from h)]

theorem set9_size (W : World) (R : Nat) (c : Cm) (s : CmS) : (set9 W R c s).heap.size = W.heap.size := by simp [set9]

theorem set9_but {a W : World} {g R : Nat} (h : But g a W) (hR : a.heap.size ≤ R) (c : Cm) (s : CmS) : But g a (set9 W R c s) := by
  unfold set9
  exact ((((((((h.setNew hR _).setNew hR _).setNew hR _).setNew hR _).setNew hR _).setNew hR _).setNew hR _).setNew hR _).setNew hR _

theorem CS.done (h : CS w g R C ba cap l c s st W) : RepC (g + 1) c (cmV c s) (set9 W R c s) ∧ RdS (set9 W R c s) g ba cap l st ∧ But g w (set9 W R c s) ∧ Bx (set9 W R c s) R (cmA c s) 31 :=
  have h1 := h.hR
  have h3 := h.hg
  ⟨⟨s, rfl, h.cm.keep (fun k hk hl => ⟨set9_other W R c s hk.2.1, by unfold Since; omega⟩) (by rw [set9_size]; exact Nat.le_refl _)⟩, h.rd.keep (set9_other W R c s (by omega)), set9_but h.but h.hR c s, set9_bx h.res c s⟩
end

/-- The nine cells of a block, and that they may be written. -/
theorem cm_frozen {w : World} {b : Nat} {c : Cm} {s : CmS} {t : TypeId} (h : Bx w b (cmA c s) t) (i : Nat) : w.frozen? ⟨b, i, none⟩ = false := h.frozen i

theorem rest0 {s0 s1 : Option (List Int)} {xsheet : List Int} (h0 : Rd shB SN s0 xsheet s1) : Rd restB (NiceD 0) s0 ⟨0, 0, [], (0, 0), 0, [], 0, xsheet⟩ s1 := by
  cases s0 with
  | none =>
    have e0 := h0.bad
    subst e0
    trivial
  | some r0 =>
    cases s1 with
    | none =>
      rintro ⟨yo, yn, yr, yt, yd, yf, yu, ys⟩ r' ⟨hy, hop⟩ e
      obtain rfl : yo = 0 := hop
      simp [restB] at e
      exact h0 _ _ hy.sheet e
    | some r1 =>
      obtain ⟨d0, q0⟩ := h0
      refine ⟨⟨⟨by show (0 : Int) ≤ 0; omega, by show (0 : Int) ≤ 6; omega, by simp [plain], r64_0, r64_0, r64_0, ⟨r64_0, r64_0⟩, ⟨by simp, by simp⟩, ⟨by simp, by simp⟩, d0⟩, rfl⟩, ?_⟩
      rw [q0]
      simp [restB]

theorem rest1 {s0 s1 s2 s3 s4 : Option (List Int)} {xnode : Int} {xrow : List V} {xtime : T} {xdiff : Int} (h0 : Rd oneB R64 s0 xnode s1) (h1 : Rd rowB (LD 16 VN) s1 xrow s2) (h2 : Rd timeB RT s2 xtime s3) (h3 : Rd oneB R64 s3 xdiff s4) : Rd restB (NiceD 1) s0 ⟨1, xnode, xrow, xtime, xdiff, [], 0, []⟩ s4 := by
  cases s0 with
  | none =>
    have e0 := h0.bad
    subst e0
    have e1 := h1.bad
    subst e1
    have e2 := h2.bad
    subst e2
    have e3 := h3.bad
    subst e3
    trivial
  | some r0 =>
    cases s1 with
    | none =>
      have e1 := h1.bad
      subst e1
      have e2 := h2.bad
      subst e2
      have e3 := h3.bad
      subst e3
      rintro ⟨yo, yn, yr, yt, yd, yf, yu, ys⟩ r' ⟨hy, hop⟩ e
      obtain rfl : yo = 1 := hop
      simp [restB, tailB, List.append_assoc] at e
      exact h0 _ _ hy.node e
    | some r1 =>
      obtain ⟨d0, q0⟩ := h0
      cases s2 with
      | none =>
        have e2 := h2.bad
        subst e2
        have e3 := h3.bad
        subst e3
        rintro ⟨yo, yn, yr, yt, yd, yf, yu, ys⟩ r' ⟨hy, hop⟩ e
        obtain rfl : yo = 1 := hop
        simp [restB, tailB, List.append_assoc] at e
        rw [q0] at e
        have e := (pf_one _ _ _ _ d0 hy.node e).2
        exact h1 _ _ hy.row e
      | some r2 =>
        obtain ⟨d1, q1⟩ := h1
        cases s3 with
        | none =>
          have e3 := h3.bad
          subst e3
          rintro ⟨yo, yn, yr, yt, yd, yf, yu, ys⟩ r' ⟨hy, hop⟩ e
          obtain rfl : yo = 1 := hop
          simp [restB, tailB, List.append_assoc] at e
          rw [q0] at e
          have e := (pf_one _ _ _ _ d0 hy.node e).2
          rw [q1] at e
          have e := (pf_row _ _ _ _ d1 hy.row e).2
          exact h2 _ _ hy.time e
        | some r3 =>
          obtain ⟨d2, q2⟩ := h2
          cases s4 with
          | none =>
            rintro ⟨yo, yn, yr, yt, yd, yf, yu, ys⟩ r' ⟨hy, hop⟩ e
            obtain rfl : yo = 1 := hop
            simp [restB, tailB, List.append_assoc] at e
            rw [q0] at e
            have e := (pf_one _ _ _ _ d0 hy.node e).2
            rw [q1] at e
            have e := (pf_row _ _ _ _ d1 hy.row e).2
            rw [q2] at e
            have e := (pf_time _ _ _ _ d2 hy.time e).2
            exact h3 _ _ hy.diff e
          | some r4 =>
            obtain ⟨d3, q3⟩ := h3
            refine ⟨⟨⟨by show (0 : Int) ≤ 1; omega, by show (1 : Int) ≤ 6; omega, by simp [plain], d0, d3, r64_0, d2, ⟨by simp, by simp⟩, d1, ⟨by simp, Byt.nil⟩⟩, rfl⟩, ?_⟩
            rw [q0, q1, q2, q3]
            simp [restB, tailB]

theorem rest2 {s0 s1 s2 : Option (List Int)} {xnode : Int} {xfront : List T} (h0 : Rd oneB R64 s0 xnode s1) (h1 : Rd frontB (LD 16 RT) s1 xfront s2) : Rd restB (NiceD 2) s0 ⟨2, xnode, [], (0, 0), 0, xfront, 0, []⟩ s2 := by
  cases s0 with
  | none =>
    have e0 := h0.bad
    subst e0
    have e1 := h1.bad
    subst e1
    trivial
  | some r0 =>
    cases s1 with
    | none =>
      have e1 := h1.bad
      subst e1
      rintro ⟨yo, yn, yr, yt, yd, yf, yu, ys⟩ r' ⟨hy, hop⟩ e
      obtain rfl : yo = 2 := hop
      simp [restB, tailB, List.append_assoc] at e
      exact h0 _ _ hy.node e
    | some r1 =>
      obtain ⟨d0, q0⟩ := h0
      cases s2 with
      | none =>
        rintro ⟨yo, yn, yr, yt, yd, yf, yu, ys⟩ r' ⟨hy, hop⟩ e
        obtain rfl : yo = 2 := hop
        simp [restB, tailB, List.append_assoc] at e
        rw [q0] at e
        have e := (pf_one _ _ _ _ d0 hy.node e).2
        exact h1 _ _ hy.front e
      | some r2 =>
        obtain ⟨d1, q1⟩ := h1
        refine ⟨⟨⟨by show (0 : Int) ≤ 2; omega, by show (2 : Int) ≤ 6; omega, by simp [plain], d0, r64_0, r64_0, ⟨r64_0, r64_0⟩, d1, ⟨by simp, by simp⟩, ⟨by simp, Byt.nil⟩⟩, rfl⟩, ?_⟩
        rw [q0, q1]
        simp [restB, tailB]

theorem rest3 {s0 s1 s2 : Option (List Int)} {xnode : Int} {xfuel : Int} (h0 : Rd oneB R64 s0 xnode s1) (h1 : Rd oneB R64 s1 xfuel s2) : Rd restB (NiceD 3) s0 ⟨3, xnode, [], (0, 0), 0, [], xfuel, []⟩ s2 := by
  cases s0 with
  | none =>
    have e0 := h0.bad
    subst e0
    have e1 := h1.bad
    subst e1
    trivial
  | some r0 =>
    cases s1 with
    | none =>
      have e1 := h1.bad
      subst e1
      rintro ⟨yo, yn, yr, yt, yd, yf, yu, ys⟩ r' ⟨hy, hop⟩ e
      obtain rfl : yo = 3 := hop
      simp [restB, tailB, List.append_assoc] at e
      exact h0 _ _ hy.node e
    | some r1 =>
      obtain ⟨d0, q0⟩ := h0
      cases s2 with
      | none =>
        rintro ⟨yo, yn, yr, yt, yd, yf, yu, ys⟩ r' ⟨hy, hop⟩ e
        obtain rfl : yo = 3 := hop
        simp [restB, tailB, List.append_assoc] at e
        rw [q0] at e
        have e := (pf_one _ _ _ _ d0 hy.node e).2
        exact h1 _ _ hy.fuel e
      | some r2 =>
        obtain ⟨d1, q1⟩ := h1
        refine ⟨⟨⟨by show (0 : Int) ≤ 3; omega, by show (3 : Int) ≤ 6; omega, by simp [plain], d0, r64_0, d1, ⟨r64_0, r64_0⟩, ⟨by simp, by simp⟩, ⟨by simp, by simp⟩, ⟨by simp, Byt.nil⟩⟩, rfl⟩, ?_⟩
        rw [q0, q1]
        simp [restB, tailB]

theorem rest4 {s0 s1 s2 : Option (List Int)} {xnode : Int} {xfront : List T} (h0 : Rd oneB R64 s0 xnode s1) (h1 : Rd frontB (LD 16 RT) s1 xfront s2) : Rd restB (NiceD 4) s0 ⟨4, xnode, [], (0, 0), 0, xfront, 0, []⟩ s2 := by
  cases s0 with
  | none =>
    have e0 := h0.bad
    subst e0
    have e1 := h1.bad
    subst e1
    trivial
  | some r0 =>
    cases s1 with
    | none =>
      have e1 := h1.bad
      subst e1
      rintro ⟨yo, yn, yr, yt, yd, yf, yu, ys⟩ r' ⟨hy, hop⟩ e
      obtain rfl : yo = 4 := hop
      simp [restB, tailB, List.append_assoc] at e
      exact h0 _ _ hy.node e
    | some r1 =>
      obtain ⟨d0, q0⟩ := h0
      cases s2 with
      | none =>
        rintro ⟨yo, yn, yr, yt, yd, yf, yu, ys⟩ r' ⟨hy, hop⟩ e
        obtain rfl : yo = 4 := hop
        simp [restB, tailB, List.append_assoc] at e
        rw [q0] at e
        have e := (pf_one _ _ _ _ d0 hy.node e).2
        exact h1 _ _ hy.front e
      | some r2 =>
        obtain ⟨d1, q1⟩ := h1
        refine ⟨⟨⟨by show (0 : Int) ≤ 4; omega, by show (4 : Int) ≤ 6; omega, by simp [plain], d0, r64_0, r64_0, ⟨r64_0, r64_0⟩, d1, ⟨by simp, by simp⟩, ⟨by simp, Byt.nil⟩⟩, rfl⟩, ?_⟩
        rw [q0, q1]
        simp [restB, tailB]

theorem rest5 {s0 s1 s2 : Option (List Int)} {xnode : Int} {xtime : T} (h0 : Rd oneB R64 s0 xnode s1) (h1 : Rd timeB RT s1 xtime s2) : Rd restB (NiceD 5) s0 ⟨5, xnode, [], xtime, 0, [], 0, []⟩ s2 := by
  cases s0 with
  | none =>
    have e0 := h0.bad
    subst e0
    have e1 := h1.bad
    subst e1
    trivial
  | some r0 =>
    cases s1 with
    | none =>
      have e1 := h1.bad
      subst e1
      rintro ⟨yo, yn, yr, yt, yd, yf, yu, ys⟩ r' ⟨hy, hop⟩ e
      obtain rfl : yo = 5 := hop
      simp [restB, tailB, List.append_assoc] at e
      exact h0 _ _ hy.node e
    | some r1 =>
      obtain ⟨d0, q0⟩ := h0
      cases s2 with
      | none =>
        rintro ⟨yo, yn, yr, yt, yd, yf, yu, ys⟩ r' ⟨hy, hop⟩ e
        obtain rfl : yo = 5 := hop
        simp [restB, tailB, List.append_assoc] at e
        rw [q0] at e
        have e := (pf_one _ _ _ _ d0 hy.node e).2
        exact h1 _ _ hy.time e
      | some r2 =>
        obtain ⟨d1, q1⟩ := h1
        refine ⟨⟨⟨by show (0 : Int) ≤ 5; omega, by show (5 : Int) ≤ 6; omega, by simp [plain], d0, r64_0, r64_0, d1, ⟨by simp, by simp⟩, ⟨by simp, by simp⟩, ⟨by simp, Byt.nil⟩⟩, rfl⟩, ?_⟩
        rw [q0, q1]
        simp [restB, tailB]

theorem rest6 {s0 s1 : Option (List Int)} {xnode : Int} (h0 : Rd oneB R64 s0 xnode s1) : Rd restB (NiceD 6) s0 ⟨6, xnode, [], (0, 0), 0, [], 0, []⟩ s1 := by
  cases s0 with
  | none =>
    have e0 := h0.bad
    subst e0
    trivial
  | some r0 =>
    cases s1 with
    | none =>
      rintro ⟨yo, yn, yr, yt, yd, yf, yu, ys⟩ r' ⟨hy, hop⟩ e
      obtain rfl : yo = 6 := hop
      simp [restB, tailB, List.append_assoc] at e
      exact h0 _ _ hy.node e
    | some r1 =>
      obtain ⟨d0, q0⟩ := h0
      refine ⟨⟨⟨by show (0 : Int) ≤ 6; omega, by show (6 : Int) ≤ 6; omega, by simp [plain], d0, r64_0, r64_0, ⟨r64_0, r64_0⟩, ⟨by simp, by simp⟩, ⟨by simp, by simp⟩, ⟨by simp, Byt.nil⟩⟩, rfl⟩, ?_⟩
      rw [q0]
      simp [restB, tailB]

end Go.Proofs.Ytgalmkhgbokidaa
