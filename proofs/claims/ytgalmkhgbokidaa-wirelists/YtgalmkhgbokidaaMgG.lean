/-
  What is proved here: a reader in memory; take, at five kinds: it tells what the function that is handed in tells, and moves the reader or marks it.
  What is proved here: what a reader has read; numbers, counts and times that it takes.
-/
import Derived.Test.YtgalmkhgbokidaaMgF
import Derived.Test.YtgalmkhgbokidaaMgD

namespace Go.Proofs.Ytgalmkhgbokidaa
open Go.RowKit Go.Proofs
set_option maxRecDepth 20000
set_option linter.unusedVariables false
set_option linter.unusedSimpArgs false

/-- Nothing that was there has changed but block g. -/
structure But (g : Nat) (w w' : World) : Prop where
  os : w'.os = w.os
  tape : w'.tape = w.tape
  output : w'.output = w.output
  size : w.heap.size ≤ w'.heap.size
  block : ∀ k, k < w.heap.size → k ≠ g → w'.heap[k]? = w.heap[k]?

theorem But.refl (g : Nat) (w : World) : But g w w := ⟨rfl, rfl, rfl, Nat.le_refl _, fun _ _ _ => rfl⟩
theorem But.trans {g : Nat} {a b c : World} (h : But g a b) (k : But g b c) : But g a c :=
  ⟨k.os.trans h.os, k.tape.trans h.tape, k.output.trans h.output, Nat.le_trans h.size k.size, fun i hi hg => (k.block i (Nat.lt_of_lt_of_le hi h.size) hg).trans (h.block i hi hg)⟩
theorem But.of_below {g : Nat} {w w' : World} (h : Below w.heap.size w w') : But g w w' := ⟨h.os, h.tape, h.output, h.size, fun k hk _ => h.block k hk⟩
theorem But.below {g : Nat} {w w' : World} (h : But g w w') (hg : g ≤ w.heap.size) : Below g w w' := ⟨h.os, h.tape, h.output, h.size, fun k hk => h.block k (by omega) (by omega)⟩
theorem But.below' {g B : Nat} {a w w' : World} (h : But g w w') (h0 : Below B a w) (hg : B ≤ g) (hB : B ≤ a.heap.size) : Below B a w' :=
  ⟨h.os.trans h0.os, h.tape.trans h0.tape, h.output.trans h0.output, Nat.le_trans h0.size h.size, fun k hk => (h.block k (by have := h0.size; omega) (by omega)).trans (h0.block k hk)⟩
theorem But.setCell (g i : Nat) (w : World) (v : Value) : But g w (w.setCell ⟨g, i, none⟩ v) :=
  have b : Below g w (w.setCell ⟨g, i, none⟩ v) := (Below.refl g w).setCell (p := ⟨g, i, none⟩) (Nat.le_refl _) v
  ⟨b.os, b.tape, b.output, b.size, fun k _ hk => Below.heap_setCell _ _ _ _ hk⟩
theorem Bx.but {w w' : World} {g b : Nat} {cs : Array Value} {t : TypeId} (h : Bx w b cs t) (k : But g w w') (hb : b ≠ g) : Bx w' b cs t := (k.block b h.lt hb).trans h
theorem SP.but {α : Type} {k : Nat} {cs : α → List Value} {d : α} {P : Nat → Prop} {w w' : World} {a : Option Addr} {l : List α} {g : Nat} (h : SP k cs d P w a l) (hb : But g w w') (hP : ∀ k, P k → k ≠ g) : SP k cs d P w' a l := h.keep (fun k hp hk => ⟨hb.block k hk (hP k hp), hp⟩) hb.size

theorem loud_callV {P : Program} {Q : Exit → Act → World → Prop} {Φ : List Value → World → Prop} {o : Oper} {a : Act} {w : World} {vs : List Value} {t : Nat} {f : FuncId} {fn : Func} {args : Array Operand} {ats : Array TypeId} (xs : Array Value)
    (ho : o.op = .call { callee := .value (.tmp t), args := args, argTypes := ats }) (ht : PB.slot a t = .func (.func f) #[] #[]) (hf : P.funcs[f]? = some fn) (hname : (fn.name == "runtime.NumGoroutine") = false) (hbody : fn.body.isNone = false)
    (hvs : args.toList.map a.eval = xs.toList) (hc : Calls P f xs w fun e w' => ∃ v, e = .returned v ∧ Φ (vs ++ [v]) w') : o.wp P a w (fun a' w' => ∃ v, a' = a.put o.dst v ∧ Φ (vs ++ [v]) w') Q := by
  have h0 : a.tmps[t]?.getD undef = .func (.func f) #[] #[] := by rw [← Array.getD_eq_getD_getElem?]; exact ht
  have hrun : (execOp a.eval o).run P w = .ok (.enter f xs) w := by
    obtain ⟨dst, op, ty, pos, aft, guard⟩ := o
    simp only at ho
    subst ho
    have hname' : ¬ fn.name = "runtime.NumGoroutine" := by simpa using hname
    have hbody' : ¬ fn.body = none := by
      intro h; rw [h] at hbody; cases hbody
    have hvs' : args.map a.eval = xs := by apply Array.ext'; rw [Array.toList_map]; exact hvs
    have e1 : a.eval (.tmp t) = .func (.func f) #[] #[] := ht
    simp [execOp, resolve, e1, Deferred.ofValue, invoke, callFunc, hf, hname', hbody', hvs']
  unfold Oper.wp
  rw [hrun]
  simp only [Oper.upon]
  refine hc.mono ?_
  rintro e w' ⟨v, rfl, hk⟩
  exact ⟨v, rfl, hk⟩

/-- A tuple's parts. -/
def tup (v : Value) (i : Nat) : Value := match v with | .tuple a => a.getD i undef | _ => undef

/-- What take answers: what the function told in the world W, and the reader. -/
def TkAns (R : Value → Int → Int → World → Prop) (w : World) (g : Nat) (s : Value) (at' : Int) (bad : Bool) (e : Ending) (w' : World) : Prop :=
  ∃ v next er W, e = .returned v ∧ R v next er W ∧ Below w.heap.size w W ∧ But g W w' ∧ Bx w' g #[s, .int .i64 (if bad = true ∨ er ≠ 0 then at' else next), .bool (bad || er != 0)] 82

def tkVal (g : Nat) (s : Value) (at' : Int) (G : FuncId) (i : Nat) : Option PD.Fn :=
  [some (fun _ => .func (.func G) #[] #[]), some (fun _ => ptr g), some (fun _ => ptr g), some (fun _ => .pointer (some ⟨g, 0, none⟩)), some (fun _ => s), some (fun _ => ptr g), some (fun _ => ptr g), some (fun _ => .pointer (some ⟨g, 1, none⟩)), some (fun _ => .int .i64 at'),
   none, some (fun vs => vs.getD 0 undef), some (fun vs => tup (vs.getD 0 undef) 0), some (fun vs => tup (vs.getD 0 undef) 1), some (fun vs => tup (vs.getD 0 undef) 2), some (fun vs => tup (vs.getD 0 undef) 0), some (fun vs => tup (vs.getD 0 undef) 1), some (fun vs => tup (vs.getD 0 undef) 2)].getD i none

def tkDep (i : Nat) : Nat := if i < 10 then 0 else 1

theorem tk_stable (g : Nat) (s : Value) (at' : Int) (G : FuncId) : ∀ j f (vs : List Value) v, tkVal g s at' G j = some f → tkDep j ≤ vs.length → f (vs ++ [v]) = f vs := by
  intro j f vs v hf hd
  by_cases hj : j < 10
  · rcases (show j = 0 ∨ j = 1 ∨ j = 2 ∨ j = 3 ∨ j = 4 ∨ j = 5 ∨ j = 6 ∨ j = 7 ∨ j = 8 ∨ j = 9 by omega) with rfl | rfl | rfl | rfl | rfl | rfl | rfl | rfl | rfl | rfl <;> simp [tkVal] at hf <;> subst hf <;> rfl
  · have hl : 1 ≤ vs.length := by unfold tkDep at hd; rw [if_neg hj] at hd; exact hd
    have e : (vs ++ [v])[0]?.getD undef = vs[0]?.getD undef := by
      cases vs with
      | nil => simp at hl
      | cons x vs => rfl
    by_cases hj2 : j < 17
    · rcases (show j = 10 ∨ j = 11 ∨ j = 12 ∨ j = 13 ∨ j = 14 ∨ j = 15 ∨ j = 16 by omega) with rfl | rfl | rfl | rfl | rfl | rfl | rfl <;> simp [tkVal] at hf <;> subst hf <;> simp only [e]
    · have : tkVal g s at' G j = none := by
        unfold tkVal List.getD
        rw [List.getElem?_eq_none (by simp; omega)]
        rfl
      rw [this] at hf; cases hf

/-- What holds while the call goes on. -/
def tkInv (R : Value → Int → Int → World → Prop) (w : World) (vs : List Value) (W : World) : Prop :=
  Below w.heap.size w W ∧ match vs with
    | [] => True
    | [u] => ∃ v next er, u = .tuple #[v, .int .i64 next, .int .i64 er] ∧ R v next er W
    | _ => False

set_option maxHeartbeats 4000000 in
theorem takeU_any (R : Value → Int → Int → World → Prop) (G : FuncId) (fn : Func) (hf : Try.prog.funcs[G]? = some fn) (hname : (fn.name == "runtime.NumGoroutine") = false) (hbody : fn.body.isNone = false) (w : World) (g : Nat) (ba : Option Addr) (n cap : Nat) (at' : Int) (bad : Bool) (hbx : Bx w g #[.slice ba n cap, .int .i64 at', .bool bad] 82)
    (HG : ∀ W, Below w.heap.size w W → Calls Try.prog G #[.slice ba n cap, .int .i64 at'] W fun e w' => ∃ v next er, e = .returned (.tuple #[v, .int .i64 next, .int .i64 er]) ∧ R v next er w' ∧ Below W.heap.size W w') :
    Calls Try.prog 48 #[.pointer (some ⟨g, 0, none⟩), .func (.func G) #[] #[]] w (TkAns R w g (.slice ba n cap) at' bad) := by
  have HX := hid' hbx
  have HH := hid' HG
  have HF := hid' hf
  have HT : Hid (∀ v next er W w', R v next er W → Below w.heap.size w W → But g W w' → Bx w' g #[.slice ba n cap, .int .i64 (if bad = true ∨ er ≠ 0 then at' else next), .bool (bad || er != 0)] 82 → TkAns R w g (.slice ba n cap) at' bad (.returned v) w') := fun v next er W w' h1 h2 h3 h4 => ⟨v, next, er, W, rfl, h1, h2, h3, h4⟩
  clear hbx HG hf
  go_enter Try.func48, Try.ntmps48
  go_wp2_with fail
  refine PD.wp_region_deps (tkVal g (.slice ba n cap) at' G) tkDep (tkInv R w) mixed' (by kernel_rfl) (tk_stable g (.slice ba n cap) at' G) ⟨(Below.refl _ _).drew, trivial⟩ ?_ ?_
  · refine ⟨?_, ?_, ?_, ?_, ?_, ?_, ?_, ?_, ?_, ?_, ?_, ?_, ?_, ?_, ?_, ?_, ?_, trivial⟩
    · intro vs A W hd hI hC
      exact ⟨PB.wanted_free rfl, run_moveD W (hC.outer 1 rfl)⟩
    · intro vs A W hd hI hC
      exact ⟨PB.wanted_free rfl, run_moveD W (hC.outer 0 rfl)⟩
    · intro vs A W hd hI hC
      exact ⟨PB.wanted_free rfl, run_nilc W (hC.left 1 rfl)⟩
    · intro vs A W hd hI hC
      exact ⟨PB.wanted_free rfl, run_faRdr0 W (hC.left 2 rfl)⟩
    · intro vs A W hd hI hC
      exact ⟨PB.wanted_free rfl, run_loadBy W (hC.left 3 rfl) ((HX.out.keep hI.1).cell 0)⟩
    · intro vs A W hd hI hC
      exact ⟨PB.wanted_free rfl, run_moveD W (hC.outer 0 rfl)⟩
    · intro vs A W hd hI hC
      exact ⟨PB.wanted_free rfl, run_nilc W (hC.left 5 rfl)⟩
    · intro vs A W hd hI hC
      exact ⟨PB.wanted_free rfl, run_faRdr1 W (hC.left 6 rfl)⟩
    · intro vs A W hd hI hC
      exact ⟨PB.wanted_free rfl, run_loadZ W (hC.left 7 rfl) ((HX.out.keep hI.1).cell 1)⟩
    · intro vs A W hk hI hC
      obtain rfl : vs = [] := List.length_eq_zero_iff.1 hk
      refine ⟨PB.wanted_free rfl, loud_callV #[.slice ba n cap, .int .i64 at'] rfl (hC.left 0 rfl) HF.out hname hbody ?_ ?_⟩
      · show [PB.slot A 13, PB.slot A 17] = _
        rw [show PB.slot A 13 = .slice ba n cap from hC.left 4 rfl, show PB.slot A 17 = .int .i64 at' from hC.left 8 rfl]
      · refine (HH.out W hI.1).mono ?_
        rintro e W2 ⟨v, next, er, rfl, hR, hb⟩
        exact ⟨_, rfl, bel_trans' hI.1 hb, v, next, er, rfl, hR⟩
    · intro vs A W hd hI hC
      exact ⟨PB.wanted_free rfl, run_moveD W (hC.left 9 rfl)⟩
    · intro vs A W hd hI hC
      match vs, hd, hI, hC with
      | [u], _, hI, hC =>
        obtain ⟨_, v, next, er, rfl, hR⟩ := hI
        exact ⟨PB.wanted_free rfl, run_ext0 W (hC.left 10 rfl)⟩
    · intro vs A W hd hI hC
      match vs, hd, hI, hC with
      | [u], _, hI, hC =>
        obtain ⟨_, v, next, er, rfl, hR⟩ := hI
        exact ⟨PB.wanted_free rfl, run_ext1 W (hC.left 10 rfl)⟩
    · intro vs A W hd hI hC
      match vs, hd, hI, hC with
      | [u], _, hI, hC =>
        obtain ⟨_, v, next, er, rfl, hR⟩ := hI
        exact ⟨PB.wanted_free rfl, run_ext2 W (hC.left 10 rfl)⟩
    · intro vs A W hd hI hC
      exact ⟨PB.wanted_free rfl, run_assD W (hC.left 11 rfl)⟩
    · intro vs A W hd hI hC
      exact ⟨PB.wanted_free rfl, run_assD W (hC.left 12 rfl)⟩
    · intro vs A W hd hI hC
      exact ⟨PB.wanted_free rfl, run_assD W (hC.left 13 rfl)⟩
  · intro vs A W hk hI hE
    match vs, hk, hI, hE with
    | [u], _, hI, hE =>
      obtain ⟨hB, v, next, er, rfl, hR⟩ := hI
      have h_5 : PB.slot A 5 = v := hE.left 14
      have h_6 : PB.slot A 6 = .int .i64 next := hE.left 15
      have h_7 : PB.slot A 7 = .int .i64 er := hE.left 16
      have q_0 : PB.slot A 0 = .pointer (some ⟨g, 0, none⟩) := hE.outer 0 rfl
      have hA := PT.frame_of (A := A) (n := 43) hE.size
      have hd : A.defers = [] := hE.defers
      rw [hd] at hA
      obtain ⟨fr, hfr⟩ : ∃ f, PB.slot A = f := ⟨_, rfl⟩
      rw [hfr] at hA h_5 h_6 h_7 q_0
      rw [hA]
      clear hA hfr hd hE
      simp only [List.range, List.range.loop, List.map_cons, List.map_nil, h_5, h_6, h_7, q_0]
      clear h_5 h_6 h_7 q_0
      have X := HX.out.keep hB
      have HR := hid' hR
      have HB := hid' hB
      have c2 : W.cell? ⟨g, 2, none⟩ = some (.bool bad) := X.cell 2
      have f2 := X.frozen 2
      clear hR hB HH HF HX
      cases bad with
      | true =>
        have h2 : Bx (W.setCell ⟨g, 2, none⟩ (.bool true)) g #[.slice ba n cap, .int .i64 at', .bool true] 82 := X.setCell (i := 2)
        have d2 : (W.setCell ⟨g, 2, none⟩ (.bool true)).cell? ⟨g, 2, none⟩ = some (.bool true) := h2.cell 2
        have HZ := hid' (HT.out v next er W _ HR.out HB.out (But.setCell g 2 W (.bool true)) (by simpa using h2))
        clear h2 X HT
        go_wp2
        go_ret
        exact HZ.out
      | false =>
        by_cases h0 : er = 0
        · subst h0
          have h2 : Bx (W.setCell ⟨g, 2, none⟩ (.bool false)) g #[.slice ba n cap, .int .i64 at', .bool false] 82 := X.setCell (i := 2)
          have d2 : (W.setCell ⟨g, 2, none⟩ (.bool false)).cell? ⟨g, 2, none⟩ = some (.bool false) := h2.cell 2
          have d1 : (W.setCell ⟨g, 2, none⟩ (.bool false)).cell? ⟨g, 1, none⟩ = some (.int .i64 at') := h2.cell 1
          have f1 := h2.frozen 1
          have h3 : Bx ((W.setCell ⟨g, 2, none⟩ (.bool false)).setCell ⟨g, 1, none⟩ (.int .i64 next)) g #[.slice ba n cap, .int .i64 next, .bool false] 82 := h2.setCell (i := 1)
          have HZ := hid' (HT.out v next 0 W _ HR.out HB.out ((But.setCell g 2 W (.bool false)).trans (But.setCell g 1 _ (.int .i64 next))) (by simpa using h3))
          clear h2 h3 X HT
          go_wp2
          go_ret
          exact HZ.out
        · have h2 : Bx (W.setCell ⟨g, 2, none⟩ (.bool true)) g #[.slice ba n cap, .int .i64 at', .bool true] 82 := X.setCell (i := 2)
          have d2 : (W.setCell ⟨g, 2, none⟩ (.bool true)).cell? ⟨g, 2, none⟩ = some (.bool true) := h2.cell 2
          have hb : (er != 0) = true := by simpa using h0
          have HZ := hid' (HT.out v next er W _ HR.out HB.out (But.setCell g 2 W (.bool true)) (by simpa [h0, hb] using h2))
          clear h2 X HT h0
          go_wp2
          go_ret
          exact HZ.out

set_option maxHeartbeats 4000000 in
theorem takeI_any (R : Value → Int → Int → World → Prop) (G : FuncId) (fn : Func) (hf : Try.prog.funcs[G]? = some fn) (hname : (fn.name == "runtime.NumGoroutine") = false) (hbody : fn.body.isNone = false) (w : World) (g : Nat) (ba : Option Addr) (n cap : Nat) (at' : Int) (bad : Bool) (hbx : Bx w g #[.slice ba n cap, .int .i64 at', .bool bad] 82)
    (HG : ∀ W, Below w.heap.size w W → Calls Try.prog G #[.slice ba n cap, .int .i64 at'] W fun e w' => ∃ v next er, e = .returned (.tuple #[v, .int .i64 next, .int .i64 er]) ∧ R v next er w' ∧ Below W.heap.size W w') :
    Calls Try.prog 61 #[.pointer (some ⟨g, 0, none⟩), .func (.func G) #[] #[]] w (TkAns R w g (.slice ba n cap) at' bad) := by
  have HX := hid' hbx
  have HH := hid' HG
  have HF := hid' hf
  have HT : Hid (∀ v next er W w', R v next er W → Below w.heap.size w W → But g W w' → Bx w' g #[.slice ba n cap, .int .i64 (if bad = true ∨ er ≠ 0 then at' else next), .bool (bad || er != 0)] 82 → TkAns R w g (.slice ba n cap) at' bad (.returned v) w') := fun v next er W w' h1 h2 h3 h4 => ⟨v, next, er, W, rfl, h1, h2, h3, h4⟩
  clear hbx HG hf
  go_enter Try.func61, Try.ntmps61
  go_wp2_with fail
  refine PD.wp_region_deps (tkVal g (.slice ba n cap) at' G) tkDep (tkInv R w) mixed' (by kernel_rfl) (tk_stable g (.slice ba n cap) at' G) ⟨(Below.refl _ _).drew, trivial⟩ ?_ ?_
  · refine ⟨?_, ?_, ?_, ?_, ?_, ?_, ?_, ?_, ?_, ?_, ?_, ?_, ?_, ?_, ?_, ?_, ?_, trivial⟩
    · intro vs A W hd hI hC
      exact ⟨PB.wanted_free rfl, run_moveD W (hC.outer 1 rfl)⟩
    · intro vs A W hd hI hC
      exact ⟨PB.wanted_free rfl, run_moveD W (hC.outer 0 rfl)⟩
    · intro vs A W hd hI hC
      exact ⟨PB.wanted_free rfl, run_nilc W (hC.left 1 rfl)⟩
    · intro vs A W hd hI hC
      exact ⟨PB.wanted_free rfl, run_faRdr0 W (hC.left 2 rfl)⟩
    · intro vs A W hd hI hC
      exact ⟨PB.wanted_free rfl, run_loadBy W (hC.left 3 rfl) ((HX.out.keep hI.1).cell 0)⟩
    · intro vs A W hd hI hC
      exact ⟨PB.wanted_free rfl, run_moveD W (hC.outer 0 rfl)⟩
    · intro vs A W hd hI hC
      exact ⟨PB.wanted_free rfl, run_nilc W (hC.left 5 rfl)⟩
    · intro vs A W hd hI hC
      exact ⟨PB.wanted_free rfl, run_faRdr1 W (hC.left 6 rfl)⟩
    · intro vs A W hd hI hC
      exact ⟨PB.wanted_free rfl, run_loadZ W (hC.left 7 rfl) ((HX.out.keep hI.1).cell 1)⟩
    · intro vs A W hk hI hC
      obtain rfl : vs = [] := List.length_eq_zero_iff.1 hk
      refine ⟨PB.wanted_free rfl, loud_callV #[.slice ba n cap, .int .i64 at'] rfl (hC.left 0 rfl) HF.out hname hbody ?_ ?_⟩
      · show [PB.slot A 13, PB.slot A 17] = _
        rw [show PB.slot A 13 = .slice ba n cap from hC.left 4 rfl, show PB.slot A 17 = .int .i64 at' from hC.left 8 rfl]
      · refine (HH.out W hI.1).mono ?_
        rintro e W2 ⟨v, next, er, rfl, hR, hb⟩
        exact ⟨_, rfl, bel_trans' hI.1 hb, v, next, er, rfl, hR⟩
    · intro vs A W hd hI hC
      exact ⟨PB.wanted_free rfl, run_moveD W (hC.left 9 rfl)⟩
    · intro vs A W hd hI hC
      match vs, hd, hI, hC with
      | [u], _, hI, hC =>
        obtain ⟨_, v, next, er, rfl, hR⟩ := hI
        exact ⟨PB.wanted_free rfl, run_ext0 W (hC.left 10 rfl)⟩
    · intro vs A W hd hI hC
      match vs, hd, hI, hC with
      | [u], _, hI, hC =>
        obtain ⟨_, v, next, er, rfl, hR⟩ := hI
        exact ⟨PB.wanted_free rfl, run_ext1 W (hC.left 10 rfl)⟩
    · intro vs A W hd hI hC
      match vs, hd, hI, hC with
      | [u], _, hI, hC =>
        obtain ⟨_, v, next, er, rfl, hR⟩ := hI
        exact ⟨PB.wanted_free rfl, run_ext2 W (hC.left 10 rfl)⟩
    · intro vs A W hd hI hC
      exact ⟨PB.wanted_free rfl, run_assD W (hC.left 11 rfl)⟩
    · intro vs A W hd hI hC
      exact ⟨PB.wanted_free rfl, run_assD W (hC.left 12 rfl)⟩
    · intro vs A W hd hI hC
      exact ⟨PB.wanted_free rfl, run_assD W (hC.left 13 rfl)⟩
  · intro vs A W hk hI hE
    match vs, hk, hI, hE with
    | [u], _, hI, hE =>
      obtain ⟨hB, v, next, er, rfl, hR⟩ := hI
      have h_5 : PB.slot A 5 = v := hE.left 14
      have h_6 : PB.slot A 6 = .int .i64 next := hE.left 15
      have h_7 : PB.slot A 7 = .int .i64 er := hE.left 16
      have q_0 : PB.slot A 0 = .pointer (some ⟨g, 0, none⟩) := hE.outer 0 rfl
      have hA := PT.frame_of (A := A) (n := 43) hE.size
      have hd : A.defers = [] := hE.defers
      rw [hd] at hA
      obtain ⟨fr, hfr⟩ : ∃ f, PB.slot A = f := ⟨_, rfl⟩
      rw [hfr] at hA h_5 h_6 h_7 q_0
      rw [hA]
      clear hA hfr hd hE
      simp only [List.range, List.range.loop, List.map_cons, List.map_nil, h_5, h_6, h_7, q_0]
      clear h_5 h_6 h_7 q_0
      have X := HX.out.keep hB
      have HR := hid' hR
      have HB := hid' hB
      have c2 : W.cell? ⟨g, 2, none⟩ = some (.bool bad) := X.cell 2
      have f2 := X.frozen 2
      clear hR hB HH HF HX
      cases bad with
      | true =>
        have h2 : Bx (W.setCell ⟨g, 2, none⟩ (.bool true)) g #[.slice ba n cap, .int .i64 at', .bool true] 82 := X.setCell (i := 2)
        have d2 : (W.setCell ⟨g, 2, none⟩ (.bool true)).cell? ⟨g, 2, none⟩ = some (.bool true) := h2.cell 2
        have HZ := hid' (HT.out v next er W _ HR.out HB.out (But.setCell g 2 W (.bool true)) (by simpa using h2))
        clear h2 X HT
        go_wp2
        go_ret
        exact HZ.out
      | false =>
        by_cases h0 : er = 0
        · subst h0
          have h2 : Bx (W.setCell ⟨g, 2, none⟩ (.bool false)) g #[.slice ba n cap, .int .i64 at', .bool false] 82 := X.setCell (i := 2)
          have d2 : (W.setCell ⟨g, 2, none⟩ (.bool false)).cell? ⟨g, 2, none⟩ = some (.bool false) := h2.cell 2
          have d1 : (W.setCell ⟨g, 2, none⟩ (.bool false)).cell? ⟨g, 1, none⟩ = some (.int .i64 at') := h2.cell 1
          have f1 := h2.frozen 1
          have h3 : Bx ((W.setCell ⟨g, 2, none⟩ (.bool false)).setCell ⟨g, 1, none⟩ (.int .i64 next)) g #[.slice ba n cap, .int .i64 next, .bool false] 82 := h2.setCell (i := 1)
          have HZ := hid' (HT.out v next 0 W _ HR.out HB.out ((But.setCell g 2 W (.bool false)).trans (But.setCell g 1 _ (.int .i64 next))) (by simpa using h3))
          clear h2 h3 X HT
          go_wp2
          go_ret
          exact HZ.out
        · have h2 : Bx (W.setCell ⟨g, 2, none⟩ (.bool true)) g #[.slice ba n cap, .int .i64 at', .bool true] 82 := X.setCell (i := 2)
          have d2 : (W.setCell ⟨g, 2, none⟩ (.bool true)).cell? ⟨g, 2, none⟩ = some (.bool true) := h2.cell 2
          have hb : (er != 0) = true := by simpa using h0
          have HZ := hid' (HT.out v next er W _ HR.out HB.out (But.setCell g 2 W (.bool true)) (by simpa [h0, hb] using h2))
          clear h2 X HT h0
          go_wp2
          go_ret
          exact HZ.out

set_option maxHeartbeats 4000000 in
theorem takeB_any (R : Value → Int → Int → World → Prop) (G : FuncId) (fn : Func) (hf : Try.prog.funcs[G]? = some fn) (hname : (fn.name == "runtime.NumGoroutine") = false) (hbody : fn.body.isNone = false) (w : World) (g : Nat) (ba : Option Addr) (n cap : Nat) (at' : Int) (bad : Bool) (hbx : Bx w g #[.slice ba n cap, .int .i64 at', .bool bad] 82)
    (HG : ∀ W, Below w.heap.size w W → Calls Try.prog G #[.slice ba n cap, .int .i64 at'] W fun e w' => ∃ v next er, e = .returned (.tuple #[v, .int .i64 next, .int .i64 er]) ∧ R v next er w' ∧ Below W.heap.size W w') :
    Calls Try.prog 64 #[.pointer (some ⟨g, 0, none⟩), .func (.func G) #[] #[]] w (TkAns R w g (.slice ba n cap) at' bad) := by
  have HX := hid' hbx
  have HH := hid' HG
  have HF := hid' hf
  have HT : Hid (∀ v next er W w', R v next er W → Below w.heap.size w W → But g W w' → Bx w' g #[.slice ba n cap, .int .i64 (if bad = true ∨ er ≠ 0 then at' else next), .bool (bad || er != 0)] 82 → TkAns R w g (.slice ba n cap) at' bad (.returned v) w') := fun v next er W w' h1 h2 h3 h4 => ⟨v, next, er, W, rfl, h1, h2, h3, h4⟩
  clear hbx HG hf
  go_enter Try.func64, Try.ntmps64
  go_wp2_with fail
  refine PD.wp_region_deps (tkVal g (.slice ba n cap) at' G) tkDep (tkInv R w) mixed' (by kernel_rfl) (tk_stable g (.slice ba n cap) at' G) ⟨(Below.refl _ _).drew, trivial⟩ ?_ ?_
  · refine ⟨?_, ?_, ?_, ?_, ?_, ?_, ?_, ?_, ?_, ?_, ?_, ?_, ?_, ?_, ?_, ?_, ?_, trivial⟩
    · intro vs A W hd hI hC
      exact ⟨PB.wanted_free rfl, run_moveD W (hC.outer 1 rfl)⟩
    · intro vs A W hd hI hC
      exact ⟨PB.wanted_free rfl, run_moveD W (hC.outer 0 rfl)⟩
    · intro vs A W hd hI hC
      exact ⟨PB.wanted_free rfl, run_nilc W (hC.left 1 rfl)⟩
    · intro vs A W hd hI hC
      exact ⟨PB.wanted_free rfl, run_faRdr0 W (hC.left 2 rfl)⟩
    · intro vs A W hd hI hC
      exact ⟨PB.wanted_free rfl, run_loadBy W (hC.left 3 rfl) ((HX.out.keep hI.1).cell 0)⟩
    · intro vs A W hd hI hC
      exact ⟨PB.wanted_free rfl, run_moveD W (hC.outer 0 rfl)⟩
    · intro vs A W hd hI hC
      exact ⟨PB.wanted_free rfl, run_nilc W (hC.left 5 rfl)⟩
    · intro vs A W hd hI hC
      exact ⟨PB.wanted_free rfl, run_faRdr1 W (hC.left 6 rfl)⟩
    · intro vs A W hd hI hC
      exact ⟨PB.wanted_free rfl, run_loadZ W (hC.left 7 rfl) ((HX.out.keep hI.1).cell 1)⟩
    · intro vs A W hk hI hC
      obtain rfl : vs = [] := List.length_eq_zero_iff.1 hk
      refine ⟨PB.wanted_free rfl, loud_callV #[.slice ba n cap, .int .i64 at'] rfl (hC.left 0 rfl) HF.out hname hbody ?_ ?_⟩
      · show [PB.slot A 13, PB.slot A 17] = _
        rw [show PB.slot A 13 = .slice ba n cap from hC.left 4 rfl, show PB.slot A 17 = .int .i64 at' from hC.left 8 rfl]
      · refine (HH.out W hI.1).mono ?_
        rintro e W2 ⟨v, next, er, rfl, hR, hb⟩
        exact ⟨_, rfl, bel_trans' hI.1 hb, v, next, er, rfl, hR⟩
    · intro vs A W hd hI hC
      exact ⟨PB.wanted_free rfl, run_moveD W (hC.left 9 rfl)⟩
    · intro vs A W hd hI hC
      match vs, hd, hI, hC with
      | [u], _, hI, hC =>
        obtain ⟨_, v, next, er, rfl, hR⟩ := hI
        exact ⟨PB.wanted_free rfl, run_ext0 W (hC.left 10 rfl)⟩
    · intro vs A W hd hI hC
      match vs, hd, hI, hC with
      | [u], _, hI, hC =>
        obtain ⟨_, v, next, er, rfl, hR⟩ := hI
        exact ⟨PB.wanted_free rfl, run_ext1 W (hC.left 10 rfl)⟩
    · intro vs A W hd hI hC
      match vs, hd, hI, hC with
      | [u], _, hI, hC =>
        obtain ⟨_, v, next, er, rfl, hR⟩ := hI
        exact ⟨PB.wanted_free rfl, run_ext2 W (hC.left 10 rfl)⟩
    · intro vs A W hd hI hC
      exact ⟨PB.wanted_free rfl, run_assD W (hC.left 11 rfl)⟩
    · intro vs A W hd hI hC
      exact ⟨PB.wanted_free rfl, run_assD W (hC.left 12 rfl)⟩
    · intro vs A W hd hI hC
      exact ⟨PB.wanted_free rfl, run_assD W (hC.left 13 rfl)⟩
  · intro vs A W hk hI hE
    match vs, hk, hI, hE with
    | [u], _, hI, hE =>
      obtain ⟨hB, v, next, er, rfl, hR⟩ := hI
      have h_5 : PB.slot A 5 = v := hE.left 14
      have h_6 : PB.slot A 6 = .int .i64 next := hE.left 15
      have h_7 : PB.slot A 7 = .int .i64 er := hE.left 16
      have q_0 : PB.slot A 0 = .pointer (some ⟨g, 0, none⟩) := hE.outer 0 rfl
      have hA := PT.frame_of (A := A) (n := 43) hE.size
      have hd : A.defers = [] := hE.defers
      rw [hd] at hA
      obtain ⟨fr, hfr⟩ : ∃ f, PB.slot A = f := ⟨_, rfl⟩
      rw [hfr] at hA h_5 h_6 h_7 q_0
      rw [hA]
      clear hA hfr hd hE
      simp only [List.range, List.range.loop, List.map_cons, List.map_nil, h_5, h_6, h_7, q_0]
      clear h_5 h_6 h_7 q_0
      have X := HX.out.keep hB
      have HR := hid' hR
      have HB := hid' hB
      have c2 : W.cell? ⟨g, 2, none⟩ = some (.bool bad) := X.cell 2
      have f2 := X.frozen 2
      clear hR hB HH HF HX
      cases bad with
      | true =>
        have h2 : Bx (W.setCell ⟨g, 2, none⟩ (.bool true)) g #[.slice ba n cap, .int .i64 at', .bool true] 82 := X.setCell (i := 2)
        have d2 : (W.setCell ⟨g, 2, none⟩ (.bool true)).cell? ⟨g, 2, none⟩ = some (.bool true) := h2.cell 2
        have HZ := hid' (HT.out v next er W _ HR.out HB.out (But.setCell g 2 W (.bool true)) (by simpa using h2))
        clear h2 X HT
        go_wp2
        go_ret
        exact HZ.out
      | false =>
        by_cases h0 : er = 0
        · subst h0
          have h2 : Bx (W.setCell ⟨g, 2, none⟩ (.bool false)) g #[.slice ba n cap, .int .i64 at', .bool false] 82 := X.setCell (i := 2)
          have d2 : (W.setCell ⟨g, 2, none⟩ (.bool false)).cell? ⟨g, 2, none⟩ = some (.bool false) := h2.cell 2
          have d1 : (W.setCell ⟨g, 2, none⟩ (.bool false)).cell? ⟨g, 1, none⟩ = some (.int .i64 at') := h2.cell 1
          have f1 := h2.frozen 1
          have h3 : Bx ((W.setCell ⟨g, 2, none⟩ (.bool false)).setCell ⟨g, 1, none⟩ (.int .i64 next)) g #[.slice ba n cap, .int .i64 next, .bool false] 82 := h2.setCell (i := 1)
          have HZ := hid' (HT.out v next 0 W _ HR.out HB.out ((But.setCell g 2 W (.bool false)).trans (But.setCell g 1 _ (.int .i64 next))) (by simpa using h3))
          clear h2 h3 X HT
          go_wp2
          go_ret
          exact HZ.out
        · have h2 : Bx (W.setCell ⟨g, 2, none⟩ (.bool true)) g #[.slice ba n cap, .int .i64 at', .bool true] 82 := X.setCell (i := 2)
          have d2 : (W.setCell ⟨g, 2, none⟩ (.bool true)).cell? ⟨g, 2, none⟩ = some (.bool true) := h2.cell 2
          have hb : (er != 0) = true := by simpa using h0
          have HZ := hid' (HT.out v next er W _ HR.out HB.out (But.setCell g 2 W (.bool true)) (by simpa [h0, hb] using h2))
          clear h2 X HT h0
          go_wp2
          go_ret
          exact HZ.out

set_option maxHeartbeats 4000000 in
theorem takeV_any (R : Value → Int → Int → World → Prop) (G : FuncId) (fn : Func) (hf : Try.prog.funcs[G]? = some fn) (hname : (fn.name == "runtime.NumGoroutine") = false) (hbody : fn.body.isNone = false) (w : World) (g : Nat) (ba : Option Addr) (n cap : Nat) (at' : Int) (bad : Bool) (hbx : Bx w g #[.slice ba n cap, .int .i64 at', .bool bad] 82)
    (HG : ∀ W, Below w.heap.size w W → Calls Try.prog G #[.slice ba n cap, .int .i64 at'] W fun e w' => ∃ v next er, e = .returned (.tuple #[v, .int .i64 next, .int .i64 er]) ∧ R v next er w' ∧ Below W.heap.size W w') :
    Calls Try.prog 66 #[.pointer (some ⟨g, 0, none⟩), .func (.func G) #[] #[]] w (TkAns R w g (.slice ba n cap) at' bad) := by
  have HX := hid' hbx
  have HH := hid' HG
  have HF := hid' hf
  have HT : Hid (∀ v next er W w', R v next er W → Below w.heap.size w W → But g W w' → Bx w' g #[.slice ba n cap, .int .i64 (if bad = true ∨ er ≠ 0 then at' else next), .bool (bad || er != 0)] 82 → TkAns R w g (.slice ba n cap) at' bad (.returned v) w') := fun v next er W w' h1 h2 h3 h4 => ⟨v, next, er, W, rfl, h1, h2, h3, h4⟩
  clear hbx HG hf
  go_enter Try.func66, Try.ntmps66
  go_wp2_with fail
  refine PD.wp_region_deps (tkVal g (.slice ba n cap) at' G) tkDep (tkInv R w) mixed' (by kernel_rfl) (tk_stable g (.slice ba n cap) at' G) ⟨(Below.refl _ _).drew, trivial⟩ ?_ ?_
  · refine ⟨?_, ?_, ?_, ?_, ?_, ?_, ?_, ?_, ?_, ?_, ?_, ?_, ?_, ?_, ?_, ?_, ?_, trivial⟩
    · intro vs A W hd hI hC
      exact ⟨PB.wanted_free rfl, run_moveD W (hC.outer 1 rfl)⟩
    · intro vs A W hd hI hC
      exact ⟨PB.wanted_free rfl, run_moveD W (hC.outer 0 rfl)⟩
    · intro vs A W hd hI hC
      exact ⟨PB.wanted_free rfl, run_nilc W (hC.left 1 rfl)⟩
    · intro vs A W hd hI hC
      exact ⟨PB.wanted_free rfl, run_faRdr0 W (hC.left 2 rfl)⟩
    · intro vs A W hd hI hC
      exact ⟨PB.wanted_free rfl, run_loadBy W (hC.left 3 rfl) ((HX.out.keep hI.1).cell 0)⟩
    · intro vs A W hd hI hC
      exact ⟨PB.wanted_free rfl, run_moveD W (hC.outer 0 rfl)⟩
    · intro vs A W hd hI hC
      exact ⟨PB.wanted_free rfl, run_nilc W (hC.left 5 rfl)⟩
    · intro vs A W hd hI hC
      exact ⟨PB.wanted_free rfl, run_faRdr1 W (hC.left 6 rfl)⟩
    · intro vs A W hd hI hC
      exact ⟨PB.wanted_free rfl, run_loadZ W (hC.left 7 rfl) ((HX.out.keep hI.1).cell 1)⟩
    · intro vs A W hk hI hC
      obtain rfl : vs = [] := List.length_eq_zero_iff.1 hk
      refine ⟨PB.wanted_free rfl, loud_callV #[.slice ba n cap, .int .i64 at'] rfl (hC.left 0 rfl) HF.out hname hbody ?_ ?_⟩
      · show [PB.slot A 13, PB.slot A 17] = _
        rw [show PB.slot A 13 = .slice ba n cap from hC.left 4 rfl, show PB.slot A 17 = .int .i64 at' from hC.left 8 rfl]
      · refine (HH.out W hI.1).mono ?_
        rintro e W2 ⟨v, next, er, rfl, hR, hb⟩
        exact ⟨_, rfl, bel_trans' hI.1 hb, v, next, er, rfl, hR⟩
    · intro vs A W hd hI hC
      exact ⟨PB.wanted_free rfl, run_moveD W (hC.left 9 rfl)⟩
    · intro vs A W hd hI hC
      match vs, hd, hI, hC with
      | [u], _, hI, hC =>
        obtain ⟨_, v, next, er, rfl, hR⟩ := hI
        exact ⟨PB.wanted_free rfl, run_ext0 W (hC.left 10 rfl)⟩
    · intro vs A W hd hI hC
      match vs, hd, hI, hC with
      | [u], _, hI, hC =>
        obtain ⟨_, v, next, er, rfl, hR⟩ := hI
        exact ⟨PB.wanted_free rfl, run_ext1 W (hC.left 10 rfl)⟩
    · intro vs A W hd hI hC
      match vs, hd, hI, hC with
      | [u], _, hI, hC =>
        obtain ⟨_, v, next, er, rfl, hR⟩ := hI
        exact ⟨PB.wanted_free rfl, run_ext2 W (hC.left 10 rfl)⟩
    · intro vs A W hd hI hC
      exact ⟨PB.wanted_free rfl, run_assD W (hC.left 11 rfl)⟩
    · intro vs A W hd hI hC
      exact ⟨PB.wanted_free rfl, run_assD W (hC.left 12 rfl)⟩
    · intro vs A W hd hI hC
      exact ⟨PB.wanted_free rfl, run_assD W (hC.left 13 rfl)⟩
  · intro vs A W hk hI hE
    match vs, hk, hI, hE with
    | [u], _, hI, hE =>
      obtain ⟨hB, v, next, er, rfl, hR⟩ := hI
      have h_5 : PB.slot A 5 = v := hE.left 14
      have h_6 : PB.slot A 6 = .int .i64 next := hE.left 15
      have h_7 : PB.slot A 7 = .int .i64 er := hE.left 16
      have q_0 : PB.slot A 0 = .pointer (some ⟨g, 0, none⟩) := hE.outer 0 rfl
      have hA := PT.frame_of (A := A) (n := 43) hE.size
      have hd : A.defers = [] := hE.defers
      rw [hd] at hA
      obtain ⟨fr, hfr⟩ : ∃ f, PB.slot A = f := ⟨_, rfl⟩
      rw [hfr] at hA h_5 h_6 h_7 q_0
      rw [hA]
      clear hA hfr hd hE
      simp only [List.range, List.range.loop, List.map_cons, List.map_nil, h_5, h_6, h_7, q_0]
      clear h_5 h_6 h_7 q_0
      have X := HX.out.keep hB
      have HR := hid' hR
      have HB := hid' hB
      have c2 : W.cell? ⟨g, 2, none⟩ = some (.bool bad) := X.cell 2
      have f2 := X.frozen 2
      clear hR hB HH HF HX
      cases bad with
      | true =>
        have h2 : Bx (W.setCell ⟨g, 2, none⟩ (.bool true)) g #[.slice ba n cap, .int .i64 at', .bool true] 82 := X.setCell (i := 2)
        have d2 : (W.setCell ⟨g, 2, none⟩ (.bool true)).cell? ⟨g, 2, none⟩ = some (.bool true) := h2.cell 2
        have HZ := hid' (HT.out v next er W _ HR.out HB.out (But.setCell g 2 W (.bool true)) (by simpa using h2))
        clear h2 X HT
        go_wp2
        go_ret
        exact HZ.out
      | false =>
        by_cases h0 : er = 0
        · subst h0
          have h2 : Bx (W.setCell ⟨g, 2, none⟩ (.bool false)) g #[.slice ba n cap, .int .i64 at', .bool false] 82 := X.setCell (i := 2)
          have d2 : (W.setCell ⟨g, 2, none⟩ (.bool false)).cell? ⟨g, 2, none⟩ = some (.bool false) := h2.cell 2
          have d1 : (W.setCell ⟨g, 2, none⟩ (.bool false)).cell? ⟨g, 1, none⟩ = some (.int .i64 at') := h2.cell 1
          have f1 := h2.frozen 1
          have h3 : Bx ((W.setCell ⟨g, 2, none⟩ (.bool false)).setCell ⟨g, 1, none⟩ (.int .i64 next)) g #[.slice ba n cap, .int .i64 next, .bool false] 82 := h2.setCell (i := 1)
          have HZ := hid' (HT.out v next 0 W _ HR.out HB.out ((But.setCell g 2 W (.bool false)).trans (But.setCell g 1 _ (.int .i64 next))) (by simpa using h3))
          clear h2 h3 X HT
          go_wp2
          go_ret
          exact HZ.out
        · have h2 : Bx (W.setCell ⟨g, 2, none⟩ (.bool true)) g #[.slice ba n cap, .int .i64 at', .bool true] 82 := X.setCell (i := 2)
          have d2 : (W.setCell ⟨g, 2, none⟩ (.bool true)).cell? ⟨g, 2, none⟩ = some (.bool true) := h2.cell 2
          have hb : (er != 0) = true := by simpa using h0
          have HZ := hid' (HT.out v next er W _ HR.out HB.out (But.setCell g 2 W (.bool true)) (by simpa [h0, hb] using h2))
          clear h2 X HT h0
          go_wp2
          go_ret
          exact HZ.out

set_option maxHeartbeats 4000000 in
theorem takeT_any (R : Value → Int → Int → World → Prop) (G : FuncId) (fn : Func) (hf : Try.prog.funcs[G]? = some fn) (hname : (fn.name == "runtime.NumGoroutine") = false) (hbody : fn.body.isNone = false) (w : World) (g : Nat) (ba : Option Addr) (n cap : Nat) (at' : Int) (bad : Bool) (hbx : Bx w g #[.slice ba n cap, .int .i64 at', .bool bad] 82)
    (HG : ∀ W, Below w.heap.size w W → Calls Try.prog G #[.slice ba n cap, .int .i64 at'] W fun e w' => ∃ v next er, e = .returned (.tuple #[v, .int .i64 next, .int .i64 er]) ∧ R v next er w' ∧ Below W.heap.size W w') :
    Calls Try.prog 68 #[.pointer (some ⟨g, 0, none⟩), .func (.func G) #[] #[]] w (TkAns R w g (.slice ba n cap) at' bad) := by
  have HX := hid' hbx
  have HH := hid' HG
  have HF := hid' hf
  have HT : Hid (∀ v next er W w', R v next er W → Below w.heap.size w W → But g W w' → Bx w' g #[.slice ba n cap, .int .i64 (if bad = true ∨ er ≠ 0 then at' else next), .bool (bad || er != 0)] 82 → TkAns R w g (.slice ba n cap) at' bad (.returned v) w') := fun v next er W w' h1 h2 h3 h4 => ⟨v, next, er, W, rfl, h1, h2, h3, h4⟩
  clear hbx HG hf
  go_enter Try.func68, Try.ntmps68
  go_wp2_with fail
  refine PD.wp_region_deps (tkVal g (.slice ba n cap) at' G) tkDep (tkInv R w) mixed' (by kernel_rfl) (tk_stable g (.slice ba n cap) at' G) ⟨(Below.refl _ _).drew, trivial⟩ ?_ ?_
  · refine ⟨?_, ?_, ?_, ?_, ?_, ?_, ?_, ?_, ?_, ?_, ?_, ?_, ?_, ?_, ?_, ?_, ?_, trivial⟩
    · intro vs A W hd hI hC
      exact ⟨PB.wanted_free rfl, run_moveD W (hC.outer 1 rfl)⟩
    · intro vs A W hd hI hC
      exact ⟨PB.wanted_free rfl, run_moveD W (hC.outer 0 rfl)⟩
    · intro vs A W hd hI hC
      exact ⟨PB.wanted_free rfl, run_nilc W (hC.left 1 rfl)⟩
    · intro vs A W hd hI hC
      exact ⟨PB.wanted_free rfl, run_faRdr0 W (hC.left 2 rfl)⟩
    · intro vs A W hd hI hC
      exact ⟨PB.wanted_free rfl, run_loadBy W (hC.left 3 rfl) ((HX.out.keep hI.1).cell 0)⟩
    · intro vs A W hd hI hC
      exact ⟨PB.wanted_free rfl, run_moveD W (hC.outer 0 rfl)⟩
    · intro vs A W hd hI hC
      exact ⟨PB.wanted_free rfl, run_nilc W (hC.left 5 rfl)⟩
    · intro vs A W hd hI hC
      exact ⟨PB.wanted_free rfl, run_faRdr1 W (hC.left 6 rfl)⟩
    · intro vs A W hd hI hC
      exact ⟨PB.wanted_free rfl, run_loadZ W (hC.left 7 rfl) ((HX.out.keep hI.1).cell 1)⟩
    · intro vs A W hk hI hC
      obtain rfl : vs = [] := List.length_eq_zero_iff.1 hk
      refine ⟨PB.wanted_free rfl, loud_callV #[.slice ba n cap, .int .i64 at'] rfl (hC.left 0 rfl) HF.out hname hbody ?_ ?_⟩
      · show [PB.slot A 13, PB.slot A 17] = _
        rw [show PB.slot A 13 = .slice ba n cap from hC.left 4 rfl, show PB.slot A 17 = .int .i64 at' from hC.left 8 rfl]
      · refine (HH.out W hI.1).mono ?_
        rintro e W2 ⟨v, next, er, rfl, hR, hb⟩
        exact ⟨_, rfl, bel_trans' hI.1 hb, v, next, er, rfl, hR⟩
    · intro vs A W hd hI hC
      exact ⟨PB.wanted_free rfl, run_moveD W (hC.left 9 rfl)⟩
    · intro vs A W hd hI hC
      match vs, hd, hI, hC with
      | [u], _, hI, hC =>
        obtain ⟨_, v, next, er, rfl, hR⟩ := hI
        exact ⟨PB.wanted_free rfl, run_ext0 W (hC.left 10 rfl)⟩
    · intro vs A W hd hI hC
      match vs, hd, hI, hC with
      | [u], _, hI, hC =>
        obtain ⟨_, v, next, er, rfl, hR⟩ := hI
        exact ⟨PB.wanted_free rfl, run_ext1 W (hC.left 10 rfl)⟩
    · intro vs A W hd hI hC
      match vs, hd, hI, hC with
      | [u], _, hI, hC =>
        obtain ⟨_, v, next, er, rfl, hR⟩ := hI
        exact ⟨PB.wanted_free rfl, run_ext2 W (hC.left 10 rfl)⟩
    · intro vs A W hd hI hC
      exact ⟨PB.wanted_free rfl, run_assD W (hC.left 11 rfl)⟩
    · intro vs A W hd hI hC
      exact ⟨PB.wanted_free rfl, run_assD W (hC.left 12 rfl)⟩
    · intro vs A W hd hI hC
      exact ⟨PB.wanted_free rfl, run_assD W (hC.left 13 rfl)⟩
  · intro vs A W hk hI hE
    match vs, hk, hI, hE with
    | [u], _, hI, hE =>
      obtain ⟨hB, v, next, er, rfl, hR⟩ := hI
      have h_5 : PB.slot A 5 = v := hE.left 14
      have h_6 : PB.slot A 6 = .int .i64 next := hE.left 15
      have h_7 : PB.slot A 7 = .int .i64 er := hE.left 16
      have q_0 : PB.slot A 0 = .pointer (some ⟨g, 0, none⟩) := hE.outer 0 rfl
      have hA := PT.frame_of (A := A) (n := 43) hE.size
      have hd : A.defers = [] := hE.defers
      rw [hd] at hA
      obtain ⟨fr, hfr⟩ : ∃ f, PB.slot A = f := ⟨_, rfl⟩
      rw [hfr] at hA h_5 h_6 h_7 q_0
      rw [hA]
      clear hA hfr hd hE
      simp only [List.range, List.range.loop, List.map_cons, List.map_nil, h_5, h_6, h_7, q_0]
      clear h_5 h_6 h_7 q_0
      have X := HX.out.keep hB
      have HR := hid' hR
      have HB := hid' hB
      have c2 : W.cell? ⟨g, 2, none⟩ = some (.bool bad) := X.cell 2
      have f2 := X.frozen 2
      clear hR hB HH HF HX
      cases bad with
      | true =>
        have h2 : Bx (W.setCell ⟨g, 2, none⟩ (.bool true)) g #[.slice ba n cap, .int .i64 at', .bool true] 82 := X.setCell (i := 2)
        have d2 : (W.setCell ⟨g, 2, none⟩ (.bool true)).cell? ⟨g, 2, none⟩ = some (.bool true) := h2.cell 2
        have HZ := hid' (HT.out v next er W _ HR.out HB.out (But.setCell g 2 W (.bool true)) (by simpa using h2))
        clear h2 X HT
        go_wp2
        go_ret
        exact HZ.out
      | false =>
        by_cases h0 : er = 0
        · subst h0
          have h2 : Bx (W.setCell ⟨g, 2, none⟩ (.bool false)) g #[.slice ba n cap, .int .i64 at', .bool false] 82 := X.setCell (i := 2)
          have d2 : (W.setCell ⟨g, 2, none⟩ (.bool false)).cell? ⟨g, 2, none⟩ = some (.bool false) := h2.cell 2
          have d1 : (W.setCell ⟨g, 2, none⟩ (.bool false)).cell? ⟨g, 1, none⟩ = some (.int .i64 at') := h2.cell 1
          have f1 := h2.frozen 1
          have h3 : Bx ((W.setCell ⟨g, 2, none⟩ (.bool false)).setCell ⟨g, 1, none⟩ (.int .i64 next)) g #[.slice ba n cap, .int .i64 next, .bool false] 82 := h2.setCell (i := 1)
          have HZ := hid' (HT.out v next 0 W _ HR.out HB.out ((But.setCell g 2 W (.bool false)).trans (But.setCell g 1 _ (.int .i64 next))) (by simpa using h3))
          clear h2 h3 X HT
          go_wp2
          go_ret
          exact HZ.out
        · have h2 : Bx (W.setCell ⟨g, 2, none⟩ (.bool true)) g #[.slice ba n cap, .int .i64 at', .bool true] 82 := X.setCell (i := 2)
          have d2 : (W.setCell ⟨g, 2, none⟩ (.bool true)).cell? ⟨g, 2, none⟩ = some (.bool true) := h2.cell 2
          have hb : (er != 0) = true := by simpa using h0
          have HZ := hid' (HT.out v next er W _ HR.out HB.out (But.setCell g 2 W (.bool true)) (by simpa [h0, hb] using h2))
          clear h2 X HT h0
          go_wp2
          go_ret
          exact HZ.out

end Go.Proofs.Ytgalmkhgbokidaa

namespace Go.Proofs.Ytgalmkhgbokidaa
open Go.RowKit Go.Proofs
set_option maxRecDepth 20000
set_option linter.unusedVariables false
set_option linter.unusedSimpArgs false

/-- A reader in block g goes through the bytes l, which lie at ba; s: what is left, or none if something was wrong. -/
def RdS (w : World) (g : Nat) (ba : Option Addr) (cap : Nat) (l : List Int) (s : Option (List Int)) : Prop :=
  ∃ at' : Nat, at' ≤ l.length ∧ ((∃ r, s = some r ∧ l.drop at' = r ∧ Bx w g #[.slice ba l.length cap, .int .i64 (at' : Int), .bool false] 82) ∨ (s = none ∧ Bx w g #[.slice ba l.length cap, .int .i64 (at' : Int), .bool true] 82))

section
variable {w w' : World} {g : Nat} {ba : Option Addr} {cap : Nat} {l : List Int} {s : Option (List Int)}

theorem RdS.lt (h : RdS w g ba cap l s) : g < w.heap.size := by
  obtain ⟨a, _, ⟨r, _, _, hb⟩ | ⟨_, hb⟩⟩ := h <;> exact hb.lt

theorem RdS.keep (h : RdS w g ba cap l s) (hb : w'.heap[g]? = w.heap[g]?) : RdS w' g ba cap l s := by
  obtain ⟨a, h1, ⟨r, h2, h3, h4⟩ | ⟨h2, h4⟩⟩ := h
  · exact ⟨a, h1, .inl ⟨r, h2, h3, hb.trans h4⟩⟩
  · exact ⟨a, h1, .inr ⟨h2, hb.trans h4⟩⟩

theorem RdS.on (h : RdS w g ba cap l s) (hb : Below w.heap.size w w') : RdS w' g ba cap l s := h.keep (hb.block g h.lt)

theorem RdS.set (h : RdS w g ba cap l s) {b i : Nat} {v : Value} (hb : b ≠ g) : RdS (w.setCell ⟨b, i, none⟩ v) g ba cap l s := h.keep (Below.heap_setCell _ _ _ _ (Ne.symm hb))

/-- Where it stands, and whether something was wrong. -/
theorem RdS.open' (h : RdS w g ba cap l s) : ∃ (at' : Nat) (bad : Bool), at' ≤ l.length ∧ Bx w g #[.slice ba l.length cap, .int .i64 (at' : Int), .bool bad] 82 ∧ s = (if bad = true then none else some (l.drop at')) := by
  obtain ⟨a, h1, ⟨r, h2, h3, h4⟩ | ⟨h2, h4⟩⟩ := h
  · exact ⟨a, false, h1, h4, by rw [h2, h3]; rfl⟩
  · exact ⟨a, true, h1, h4, by rw [h2]; rfl⟩
end

theorem But.setNew {g b i : Nat} {w X : World} (h : But g w X) (hb : w.heap.size ≤ b) (v : Value) : But g w (X.setCell ⟨b, i, none⟩ v) :=
  ⟨h.os, h.tape, h.output, by simpa using h.size, fun k hk hg => (Below.heap_setCell _ _ _ _ (by show k ≠ b; omega)).trans (h.block k hk hg)⟩
theorem But.alloc {g : Nat} {w w' : World} (h : But g w w') (o : Obj) : But g w (w'.alloc o) := h.trans (But.of_below ((Below.refl _ _).alloc (Nat.le_refl _) o))

/-- What a function told that looks from a place on: a thing of D that stands there, and the place behind; or that there is none. -/
def GotR {α : Type} (f : α → List Int) (D : α → Prop) (Rep : α → Value → World → Prop) (l : List Int) (at' : Nat) (v : Value) (next er : Int) (W : World) : Prop :=
  ∃ x, Rep x v W ∧ ((er = 0 ∧ D x ∧ l.drop at' = f x ++ l.drop next.toNat ∧ (next.toNat : Int) = next ∧ next.toNat ≤ l.length) ∨ (er ≠ 0 ∧ ∀ y r, D y → l.drop at' ≠ f y ++ r))

/-- What a reader's call answers. -/
def RdAns {α : Type} (f : α → List Int) (D : α → Prop) (Rep : α → Value → World → Prop) (w : World) (g : Nat) (ba : Option Addr) (cap : Nat) (l : List Int) (s : Option (List Int)) (e : Ending) (w' : World) : Prop :=
  ∃ x v s', e = .returned v ∧ Rep x v w' ∧ Rd f D s x s' ∧ RdS w' g ba cap l s' ∧ But g w w'

theorem take_rd {α : Type} {f : α → List Int} {D : α → Prop} {Rep : α → Value → World → Prop} {w w' : World} {g : Nat} {ba : Option Addr} {cap : Nat} {l : List Int} {at' : Nat} {bad : Bool} {e : Ending} (ha : at' ≤ l.length) (hRep : ∀ x v W W', Rep x v W → But g W W' → Rep x v W')
    (h : TkAns (GotR f D Rep l at') w g (.slice ba l.length cap) (at' : Int) bad e w') : RdAns f D Rep w g ba cap l (if bad = true then none else some (l.drop at')) e w' := by
  obtain ⟨v, next, er, W, rfl, ⟨x, hx, hc⟩, hb, hbut, hbx⟩ := h
  have hx' := hRep x v W w' hx hbut
  have hB : But g w w' := (But.of_below hb).trans hbut
  cases bad with
  | true =>
    simp only [true_or, if_true, Bool.true_or] at hbx
    exact ⟨x, v, none, rfl, hx', trivial, ⟨at', ha, .inr ⟨rfl, hbx⟩⟩, hB⟩
  | false =>
    rcases hc with ⟨rfl, h1, h2, h3, h4⟩ | ⟨h0, h1⟩
    · have hbx' : Bx w' g #[.slice ba l.length cap, .int .i64 next, .bool false] 82 := by simpa using hbx
      refine ⟨x, v, some (l.drop next.toNat), rfl, hx', ?_, ⟨next.toNat, h4, .inl ⟨_, rfl, rfl, by rw [h3]; exact hbx'⟩⟩, hB⟩
      exact ⟨h1, h2⟩
    · have hb0 : (er != 0) = true := by simpa using h0
      have hbx' : Bx w' g #[.slice ba l.length cap, .int .i64 (at' : Int), .bool true] 82 := by simpa [h0, hb0] using hbx
      exact ⟨x, v, none, rfl, hx', h1, ⟨at', ha, .inr ⟨rfl, hbx'⟩⟩, hB⟩

theorem zig_unzig {n : Int} (h0 : 0 ≤ n) : zig (unzig n) = n := by
  unfold zig unzig
  by_cases h : n % 2 = 1
  · rw [if_pos h, if_pos (by omega)]; omega
  · rw [if_neg h, if_neg (by omega)]; omega

theorem unzig_rng {n : Int} (h0 : 0 ≤ n) (h1 : n ≤ 18446744073709551615) : R64 (unzig n) := by
  unfold R64 unzig
  by_cases h : n % 2 = 1
  · rw [if_pos h]; omega
  · rw [if_neg h]; omega

theorem drop_hit {l : List Int} {at' n : Nat} (h : (l.drop at').take (sz n) = bytesOf n) : l.drop at' = bytesOf n ++ l.drop (at' + sz n) := by
  have e : l.drop at' = (l.drop at').take (sz n) ++ (l.drop at').drop (sz n) := (List.take_append_drop _ _).symm
  rw [e, h, List.drop_drop]

/-- A number that is told. -/
theorem get_yes {l : List Int} {at' : Nat} {n next : Int} (h : GetRel l (at' : Int) n next 0) : l.drop at' = bytesOf n.toNat ++ l.drop next.toNat ∧ 0 ≤ n ∧ n ≤ 18446744073709551615 ∧ (next.toNat : Int) = next ∧ next.toNat ≤ l.length := by
  obtain ⟨h0, h1, h2, h3, h4, h5, _⟩ := h.yes
  rw [Int.toNat_natCast] at h3
  have e := drop_hit h3
  have en : next.toNat = at' + sz n.toNat := by omega
  rw [en]
  exact ⟨e, h1, h2, by omega, by omega⟩

/-- None is told. -/
theorem get_no {l : List Int} {at' : Nat} {n next er : Int} (ha : at' ≤ l.length) (h : GetRel l (at' : Int) n next er) (he : er ≠ 0) : ∀ m r, m < 18446744073709551616 → l.drop at' ≠ bytesOf m ++ r := by
  intro m r hm e
  have hit : Hit (l.drop at') m := ⟨hm, by rw [e, List.take_append_of_le_length (by rw [length_bytesOf]; exact Nat.le_refl _), List.take_of_length_le (by rw [length_bytesOf]; exact Nat.le_refl _)]⟩
  rcases h with ⟨a, _⟩ | ⟨_, _, _, _, _, rfl⟩ | ⟨_, _, c, _⟩
  · omega
  · exact he rfl
  · exact c m (by simpa using hit)

def RepI (x : Int) (v : Value) (_ : World) : Prop := v = .int .i64 x
def RepU (x : Nat) (v : Value) (_ : World) : Prop := v = .int .u64 (x : Int)
def U64 (n : Nat) : Prop := n < 18446744073709551616

theorem got_int {l : List Int} {at' : Nat} {n next er : Int} (ha : at' ≤ l.length) (h : GetRel l (at' : Int) n next er) (W : World) : GotR oneB R64 RepI l at' (.int .i64 (unzig n)) next er W := by
  refine ⟨unzig n, rfl, ?_⟩
  by_cases h0 : er = 0
  · subst h0
    obtain ⟨y1, y2, y3, y4, y5⟩ := get_yes h
    refine .inl ⟨rfl, unzig_rng y2 y3, ?_, y4, y5⟩
    unfold oneB
    rw [zig_unzig y2]
    exact y1
  · exact .inr ⟨h0, fun y r hy => get_no ha h h0 _ r (zig_small hy)⟩

theorem got_num {l : List Int} {at' : Nat} {n next er : Int} (ha : at' ≤ l.length) (h : GetRel l (at' : Int) n next er) (W : World) : GotR bytesOf U64 RepU l at' (.int .u64 n) next er W := by
  have hr := h.range
  refine ⟨n.toNat, by unfold RepU; rw [Int.toNat_of_nonneg hr.1], ?_⟩
  by_cases h0 : er = 0
  · subst h0
    obtain ⟨y1, y2, y3, y4, y5⟩ := get_yes h
    exact .inl ⟨rfl, by unfold U64; omega, y1, y4, y5⟩
  · exact .inr ⟨h0, fun y r hy => get_no ha h h0 _ r hy⟩

theorem takeInt_any (w : World) (g : Nat) (ba : Option Addr) (cap : Nat) (l : List Int) (s : Option (List Int)) (hr : RdS w g ba cap l s) (hb : Bts g w ba l) (hc : l.length ≤ cap) (hl : l.length ≤ 1000000000) :
    Calls Try.prog 61 #[.pointer (some ⟨g, 0, none⟩), .func (.func 63) #[] #[]] w (RdAns oneB R64 RepI w g ba cap l s) := by
  have hgl := hr.lt
  obtain ⟨at', bad, ha, hbx, rfl⟩ := hr.open'
  refine (takeI_any (GotR oneB R64 RepI l at') 63 _ Try.func63 rfl rfl w g ba l.length cap at' bad hbx (fun W hW => ?_)).mono (fun e w' h => take_rd ha (fun x v W W' h _ => h) h)
  refine (getInt_any W ba cap l at' ((hb.keep (hW.mono (Nat.le_of_lt hgl))).mono (by have := hW.size; omega)) hc hl).mono ?_
  rintro e w' ⟨⟨n, next, er, rfl, hrel⟩, rfl⟩
  exact ⟨_, next, er, rfl, got_int ha hrel _, Below.refl _ _⟩

theorem takeNum_any (w : World) (g : Nat) (ba : Option Addr) (cap : Nat) (l : List Int) (s : Option (List Int)) (hr : RdS w g ba cap l s) (hb : Bts g w ba l) (hc : l.length ≤ cap) (hl : l.length ≤ 1000000000) :
    Calls Try.prog 48 #[.pointer (some ⟨g, 0, none⟩), .func (.func 49) #[] #[]] w (RdAns bytesOf U64 RepU w g ba cap l s) := by
  have hgl := hr.lt
  obtain ⟨at', bad, ha, hbx, rfl⟩ := hr.open'
  refine (takeU_any (GotR bytesOf U64 RepU l at') 49 _ Try.func49 rfl rfl w g ba l.length cap at' bad hbx (fun W hW => ?_)).mono (fun e w' h => take_rd ha (fun x v W W' h _ => h) h)
  refine (get_any W ba cap l at' ((hb.keep (hW.mono (Nat.le_of_lt hgl))).mono (by have := hW.size; omega)) hc hl).mono ?_
  rintro e w' ⟨⟨n, next, er, rfl, hrel⟩, rfl⟩
  exact ⟨_, next, er, rfl, got_num ha hrel _, Below.refl _ _⟩

def RepT (x : T) (v : Value) (_ : World) : Prop := v = .agg #[.int .i64 x.1, .int .i64 x.2]

theorem Bts.but {g : Nat} {w w' : World} {a : Option Addr} {l : List Int} (h : Bts g w a l) (hb : But g w w') (hg : g ≤ w.heap.size) : Bts g w' a l := h.keep (hb.below hg)

set_option maxHeartbeats 2000000 in
theorem time_any (w : World) (g : Nat) (ba : Option Addr) (cap : Nat) (l : List Int) (s : Option (List Int)) (hr : RdS w g ba cap l s) (hb : Bts g w ba l) (hc : l.length ≤ cap) (hl : l.length ≤ 1000000000) :
    Calls Try.prog 50 #[.pointer (some ⟨g, 0, none⟩)] w (RdAns timeB RT RepT w g ba cap l s) := by
  have hgl := hr.lt
  have BA : Below w.heap.size w (w.alloc (.cells #[.int .i64 0, .int .i64 0] 26)) := (Below.refl _ _).alloc (Nat.le_refl _) _
  have H1 := hid' (takeInt_any _ g ba cap l s (hr.on BA) (hb.keep (BA.mono (Nat.le_of_lt hgl))) hc hl)
  have X0 := hid' (Bx.new w #[.int .i64 0, .int .i64 0] 26)
  have B0 := hid' (But.of_below (g := g) BA)
  have HB := hid' hb
  have H2 := hid' (fun W s' (h : RdS W g ba cap l s') (hbt : Bts g W ba l) => takeInt_any W g ba cap l s' h hbt hc hl)
  have HF : Hid (∀ x y s1 s2 w', Rd oneB R64 s x s1 → Rd oneB R64 s1 y s2 → RdS w' g ba cap l s2 → But g w w' → RdAns timeB RT RepT w g ba cap l s (.returned (.agg #[.int .i64 x, .int .i64 y])) w') := fun x y s1 s2 w' h1 h2 h3 h4 =>
    ⟨(x, y), _, s2, rfl, rfl, Rd.seq (f := oneB) (g := oneB) pf_one (fun c => c.1) (fun c => c.2) (fun c h => h.1) (fun c h => h.2) (fun c _ => rfl) rfl rfl (fun a b => ⟨a, b⟩) h1 h2, h3, h4⟩
  clear hr hb BA
  go_enter Try.func50, Try.ntmps50
  go_wp2_with fail
  refine H1.out.mono ?_
  rintro e w1 ⟨x, v, s1, rfl, rfl, hrd1, hrs1, hbut1⟩
  have X1 := hid' (X0.out.but hbut1 (by omega))
  have B1 := hid' (B0.out.trans hbut1)
  have HR1 := hid' hrd1
  have T2 := hid' (H2.out w1 s1 hrs1 (HB.out.keep (B1.out.below (Nat.le_of_lt hgl))))
  clear H1 H2 X0 B0 hrd1 hrs1 hbut1
  go_wp2_with fail
  refine T2.out.mono ?_
  rintro e w2 ⟨y, v, s2, rfl, rfl, hrd2, hrs2, hbut2⟩
  have X2 := X1.out.but hbut2 (by omega)
  have B2 := hid' (B1.out.trans hbut2)
  have c0 : w2.cell? ⟨w.heap.size, 0, none⟩ = some (.int .i64 0) := X2.cell 0
  have c1 : w2.cell? ⟨w.heap.size, 1, none⟩ = some (.int .i64 0) := X2.cell 1
  have f0 := X2.frozen 0
  have f1 := X2.frozen 1
  have X3 : Bx ((w2.setCell ⟨w.heap.size, 0, none⟩ (.int .i64 x)).setCell ⟨w.heap.size, 1, none⟩ (.int .i64 y)) w.heap.size #[.int .i64 x, .int .i64 y] 26 := (X2.setCell (i := 0) (v := .int .i64 x)).setCell (i := 1) (v := .int .i64 y)
  have d0 : ((w2.setCell ⟨w.heap.size, 0, none⟩ (.int .i64 x)).setCell ⟨w.heap.size, 1, none⟩ (.int .i64 y)).cell? ⟨w.heap.size, 0, none⟩ = some (.int .i64 x) := X3.cell 0
  have d1 : ((w2.setCell ⟨w.heap.size, 0, none⟩ (.int .i64 x)).setCell ⟨w.heap.size, 1, none⟩ (.int .i64 y)).cell? ⟨w.heap.size, 1, none⟩ = some (.int .i64 y) := X3.cell 1
  have HZ := hid' (HF.out x y s1 s2 ((w2.setCell ⟨w.heap.size, 0, none⟩ (.int .i64 x)).setCell ⟨w.heap.size, 1, none⟩ (.int .i64 y)) HR1.out hrd2 ((hrs2.set (by omega)).set (by omega)) ((B2.out.setNew (Nat.le_refl _) _).setNew (Nat.le_refl _) _))
  clear T2 X1 X2 X3 B1 hrd2 hrs2 hbut2 HF B2
  go_wp2
  refine bodyPost_ret (v := .agg #[.int .i64 x, .int .i64 y]) ?_ rfl HZ.out
  unfold results
  go_simp

end Go.Proofs.Ytgalmkhgbokidaa
