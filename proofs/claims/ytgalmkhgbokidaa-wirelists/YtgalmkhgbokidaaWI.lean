/-
  What is proved here: a reader in memory; take, at five kinds: it tells what the function that is handed in tells, and moves the reader or marks it.
-/
import Derived.Test.YtgalmkhgbokidaaWH
import Derived.Test.YtgalmkhgbokidaaPD
namespace Go.Proofs.Ytgalmkhgbokidaa
open Go.RowKit Go.Proofs
set_option maxRecDepth 20000
set_option linter.unusedVariables false
set_option linter.unusedSimpArgs false

/-- Nothing that was there has changed but block g. -/
structure But (g : Nat) (w w' : World) : Prop where
  os : w'.os = w.os
  tape : w'.tape = w.tape
  output : w'.output = w.output
  size : w.heap.size ≤ w'.heap.size
  block : ∀ k, k < w.heap.size → k ≠ g → w'.heap[k]? = w.heap[k]?

theorem But.refl (g : Nat) (w : World) : But g w w := ⟨rfl, rfl, rfl, Nat.le_refl _, fun _ _ _ => rfl⟩
theorem But.trans {g : Nat} {a b c : World} (h : But g a b) (k : But g b c) : But g a c :=
  ⟨k.os.trans h.os, k.tape.trans h.tape, k.output.trans h.output, Nat.le_trans h.size k.size, fun i hi hg => (k.block i (Nat.lt_of_lt_of_le hi h.size) hg).trans (h.block i hi hg)⟩
theorem But.of_below {g : Nat} {w w' : World} (h : Below w.heap.size w w') : But g w w' := ⟨h.os, h.tape, h.output, h.size, fun k hk _ => h.block k hk⟩
theorem But.below {g : Nat} {w w' : World} (h : But g w w') (hg : g ≤ w.heap.size) : Below g w w' := ⟨h.os, h.tape, h.output, h.size, fun k hk => h.block k (by omega) (by omega)⟩
theorem But.below' {g B : Nat} {a w w' : World} (h : But g w w') (h0 : Below B a w) (hg : B ≤ g) (hB : B ≤ a.heap.size) : Below B a w' :=
  ⟨h.os.trans h0.os, h.tape.trans h0.tape, h.output.trans h0.output, Nat.le_trans h0.size h.size, fun k hk => (h.block k (by have := h0.size; omega) (by omega)).trans (h0.block k hk)⟩
theorem But.setCell (g i : Nat) (w : World) (v : Value) : But g w (w.setCell ⟨g, i, none⟩ v) :=
  have b : Below g w (w.setCell ⟨g, i, none⟩ v) := (Below.refl g w).setCell (p := ⟨g, i, none⟩) (Nat.le_refl _) v
  ⟨b.os, b.tape, b.output, b.size, fun k _ hk => Below.heap_setCell _ _ _ _ hk⟩
theorem Bx.but {w w' : World} {g b : Nat} {cs : Array Value} {t : TypeId} (h : Bx w b cs t) (k : But g w w') (hb : b ≠ g) : Bx w' b cs t := (k.block b h.lt hb).trans h
theorem SP.but {α : Type} {k : Nat} {cs : α → List Value} {d : α} {P : Nat → Prop} {w w' : World} {a : Option Addr} {l : List α} {g : Nat} (h : SP k cs d P w a l) (hb : But g w w') (hP : ∀ k, P k → k ≠ g) : SP k cs d P w' a l := h.keep (fun k hp hk => ⟨hb.block k hk (hP k hp), hp⟩) hb.size

theorem loud_callV {P : Program} {Q : Exit → Act → World → Prop} {Φ : List Value → World → Prop} {o : Oper} {a : Act} {w : World} {vs : List Value} {t : Nat} {f : FuncId} {fn : Func} {args : Array Operand} {ats : Array TypeId} (xs : Array Value)
    (ho : o.op = .call { callee := .value (.tmp t), args := args, argTypes := ats }) (ht : PB.slot a t = .func (.func f) #[] #[]) (hf : P.funcs[f]? = some fn) (hname : (fn.name == "runtime.NumGoroutine") = false) (hbody : fn.body.isNone = false)
    (hvs : args.toList.map a.eval = xs.toList) (hc : Calls P f xs w fun e w' => ∃ v, e = .returned v ∧ Φ (vs ++ [v]) w') : o.wp P a w (fun a' w' => ∃ v, a' = a.put o.dst v ∧ Φ (vs ++ [v]) w') Q := by
  have h0 : a.tmps[t]?.getD undef = .func (.func f) #[] #[] := by rw [← Array.getD_eq_getD_getElem?]; exact ht
  have hrun : (execOp a.eval o).run P w = .ok (.enter f xs) w := by
    obtain ⟨dst, op, ty, pos, aft, guard⟩ := o
    simp only at ho
    subst ho
    have hname' : ¬ fn.name = "runtime.NumGoroutine" := by simpa using hname
    have hbody' : ¬ fn.body = none := by
      intro h; rw [h] at hbody; cases hbody
    have hvs' : args.map a.eval = xs := by apply Array.ext'; rw [Array.toList_map]; exact hvs
    have e1 : a.eval (.tmp t) = .func (.func f) #[] #[] := ht
    simp [execOp, resolve, e1, Deferred.ofValue, invoke, callFunc, hf, hname', hbody', hvs']
  unfold Oper.wp
  rw [hrun]
  simp only [Oper.upon]
  refine hc.mono ?_
  rintro e w' ⟨v, rfl, hk⟩
  exact ⟨v, rfl, hk⟩

/-- A tuple's parts. -/
def tup (v : Value) (i : Nat) : Value := match v with | .tuple a => a.getD i undef | _ => undef

/-- What take answers: what the function told in the world W, and the reader. -/
def TkAns (R : Value → Int → Int → World → Prop) (w : World) (g : Nat) (s : Value) (at' : Int) (bad : Bool) (e : Ending) (w' : World) : Prop :=
  ∃ v next er W, e = .returned v ∧ R v next er W ∧ Below w.heap.size w W ∧ But g W w' ∧ Bx w' g #[s, .int .i64 (if bad = true ∨ er ≠ 0 then at' else next), .bool (bad || er != 0)] 82

def tkVal (g : Nat) (s : Value) (at' : Int) (G : FuncId) (i : Nat) : Option PD.Fn :=
  [some (fun _ => .func (.func G) #[] #[]), some (fun _ => ptr g), some (fun _ => ptr g), some (fun _ => .pointer (some ⟨g, 0, none⟩)), some (fun _ => s), some (fun _ => ptr g), some (fun _ => ptr g), some (fun _ => .pointer (some ⟨g, 1, none⟩)), some (fun _ => .int .i64 at'),
   none, some (fun vs => vs.getD 0 undef), some (fun vs => tup (vs.getD 0 undef) 0), some (fun vs => tup (vs.getD 0 undef) 1), some (fun vs => tup (vs.getD 0 undef) 2), some (fun vs => tup (vs.getD 0 undef) 0), some (fun vs => tup (vs.getD 0 undef) 1), some (fun vs => tup (vs.getD 0 undef) 2)].getD i none

def tkDep (i : Nat) : Nat := if i < 10 then 0 else 1

theorem tk_stable (g : Nat) (s : Value) (at' : Int) (G : FuncId) : ∀ j f (vs : List Value) v, tkVal g s at' G j = some f → tkDep j ≤ vs.length → f (vs ++ [v]) = f vs := by
  intro j f vs v hf hd
  by_cases hj : j < 10
  · rcases (show j = 0 ∨ j = 1 ∨ j = 2 ∨ j = 3 ∨ j = 4 ∨ j = 5 ∨ j = 6 ∨ j = 7 ∨ j = 8 ∨ j = 9 by omega) with rfl | rfl | rfl | rfl | rfl | rfl | rfl | rfl | rfl | rfl <;> simp [tkVal] at hf <;> subst hf <;> rfl
  · have hl : 1 ≤ vs.length := by unfold tkDep at hd; rw [if_neg hj] at hd; exact hd
    have e : (vs ++ [v])[0]?.getD undef = vs[0]?.getD undef := by
      cases vs with
      | nil => simp at hl
      | cons x vs => rfl
    by_cases hj2 : j < 17
    · rcases (show j = 10 ∨ j = 11 ∨ j = 12 ∨ j = 13 ∨ j = 14 ∨ j = 15 ∨ j = 16 by omega) with rfl | rfl | rfl | rfl | rfl | rfl | rfl <;> simp [tkVal] at hf <;> subst hf <;> simp only [e]
    · have : tkVal g s at' G j = none := by
        unfold tkVal List.getD
        rw [List.getElem?_eq_none (by simp; omega)]
        rfl
      rw [this] at hf; cases hf

/-- What holds while the call goes on. -/
def tkInv (R : Value → Int → Int → World → Prop) (w : World) (vs : List Value) (W : World) : Prop :=
  Below w.heap.size w W ∧ match vs with
    | [] => True
    | [u] => ∃ v next er, u = .tuple #[v, .int .i64 next, .int .i64 er] ∧ R v next er W
    | _ => False

set_option maxHeartbeats 4000000 in
theorem takeU_any (R : Value → Int → Int → World → Prop) (G : FuncId) (fn : Func) (hf : Try.prog.funcs[G]? = some fn) (hname : (fn.name == "runtime.NumGoroutine") = false) (hbody : fn.body.isNone = false) (w : World) (g : Nat) (ba : Option Addr) (n cap : Nat) (at' : Int) (bad : Bool) (hbx : Bx w g #[.slice ba n cap, .int .i64 at', .bool bad] 82)
    (HG : ∀ W, Below w.heap.size w W → Calls Try.prog G #[.slice ba n cap, .int .i64 at'] W fun e w' => ∃ v next er, e = .returned (.tuple #[v, .int .i64 next, .int .i64 er]) ∧ R v next er w' ∧ Below W.heap.size W w') :
    Calls Try.prog 48 #[.pointer (some ⟨g, 0, none⟩), .func (.func G) #[] #[]] w (TkAns R w g (.slice ba n cap) at' bad) := by
  have HX := hid' hbx
  have HH := hid' HG
  have HF := hid' hf
  have HT : Hid (∀ v next er W w', R v next er W → Below w.heap.size w W → But g W w' → Bx w' g #[.slice ba n cap, .int .i64 (if bad = true ∨ er ≠ 0 then at' else next), .bool (bad || er != 0)] 82 → TkAns R w g (.slice ba n cap) at' bad (.returned v) w') := fun v next er W w' h1 h2 h3 h4 => ⟨v, next, er, W, rfl, h1, h2, h3, h4⟩
  clear hbx HG hf
  go_enter Try.func48, Try.ntmps48
  go_wp2_with fail
  refine PD.wp_region_deps (tkVal g (.slice ba n cap) at' G) tkDep (tkInv R w) mixed' (by kernel_rfl) (tk_stable g (.slice ba n cap) at' G) ⟨(Below.refl _ _).drew, trivial⟩ ?_ ?_
  · refine ⟨?_, ?_, ?_, ?_, ?_, ?_, ?_, ?_, ?_, ?_, ?_, ?_, ?_, ?_, ?_, ?_, ?_, trivial⟩
    · intro vs A W hd hI hC
      exact ⟨PB.wanted_free rfl, run_moveD W (hC.outer 1 rfl)⟩
    · intro vs A W hd hI hC
      exact ⟨PB.wanted_free rfl, run_moveD W (hC.outer 0 rfl)⟩
    · intro vs A W hd hI hC
      exact ⟨PB.wanted_free rfl, run_nilc W (hC.left 1 rfl)⟩
    · intro vs A W hd hI hC
      exact ⟨PB.wanted_free rfl, run_faRdr0 W (hC.left 2 rfl)⟩
    · intro vs A W hd hI hC
      exact ⟨PB.wanted_free rfl, run_loadBy W (hC.left 3 rfl) ((HX.out.keep hI.1).cell 0)⟩
    · intro vs A W hd hI hC
      exact ⟨PB.wanted_free rfl, run_moveD W (hC.outer 0 rfl)⟩
    · intro vs A W hd hI hC
      exact ⟨PB.wanted_free rfl, run_nilc W (hC.left 5 rfl)⟩
    · intro vs A W hd hI hC
      exact ⟨PB.wanted_free rfl, run_faRdr1 W (hC.left 6 rfl)⟩
    · intro vs A W hd hI hC
      exact ⟨PB.wanted_free rfl, run_loadZ W (hC.left 7 rfl) ((HX.out.keep hI.1).cell 1)⟩
    · intro vs A W hk hI hC
      obtain rfl : vs = [] := List.length_eq_zero_iff.1 hk
      refine ⟨PB.wanted_free rfl, loud_callV #[.slice ba n cap, .int .i64 at'] rfl (hC.left 0 rfl) HF.out hname hbody ?_ ?_⟩
      · show [PB.slot A 13, PB.slot A 17] = _
        rw [show PB.slot A 13 = .slice ba n cap from hC.left 4 rfl, show PB.slot A 17 = .int .i64 at' from hC.left 8 rfl]
      · refine (HH.out W hI.1).mono ?_
        rintro e W2 ⟨v, next, er, rfl, hR, hb⟩
        exact ⟨_, rfl, bel_trans' hI.1 hb, v, next, er, rfl, hR⟩
    · intro vs A W hd hI hC
      exact ⟨PB.wanted_free rfl, run_moveD W (hC.left 9 rfl)⟩
    · intro vs A W hd hI hC
      match vs, hd, hI, hC with
      | [u], _, hI, hC =>
        obtain ⟨_, v, next, er, rfl, hR⟩ := hI
        exact ⟨PB.wanted_free rfl, run_ext0 W (hC.left 10 rfl)⟩
    · intro vs A W hd hI hC
      match vs, hd, hI, hC with
      | [u], _, hI, hC =>
        obtain ⟨_, v, next, er, rfl, hR⟩ := hI
        exact ⟨PB.wanted_free rfl, run_ext1 W (hC.left 10 rfl)⟩
    · intro vs A W hd hI hC
      match vs, hd, hI, hC with
      | [u], _, hI, hC =>
        obtain ⟨_, v, next, er, rfl, hR⟩ := hI
        exact ⟨PB.wanted_free rfl, run_ext2 W (hC.left 10 rfl)⟩
    · intro vs A W hd hI hC
      exact ⟨PB.wanted_free rfl, run_assD W (hC.left 11 rfl)⟩
    · intro vs A W hd hI hC
      exact ⟨PB.wanted_free rfl, run_assD W (hC.left 12 rfl)⟩
    · intro vs A W hd hI hC
      exact ⟨PB.wanted_free rfl, run_assD W (hC.left 13 rfl)⟩
  · intro vs A W hk hI hE
    match vs, hk, hI, hE with
    | [u], _, hI, hE =>
      obtain ⟨hB, v, next, er, rfl, hR⟩ := hI
      have h_5 : PB.slot A 5 = v := hE.left 14
      have h_6 : PB.slot A 6 = .int .i64 next := hE.left 15
      have h_7 : PB.slot A 7 = .int .i64 er := hE.left 16
      have q_0 : PB.slot A 0 = .pointer (some ⟨g, 0, none⟩) := hE.outer 0 rfl
      have hA := PT.frame_of (A := A) (n := 43) hE.size
      have hd : A.defers = [] := hE.defers
      rw [hd] at hA
      obtain ⟨fr, hfr⟩ : ∃ f, PB.slot A = f := ⟨_, rfl⟩
      rw [hfr] at hA h_5 h_6 h_7 q_0
      rw [hA]
      clear hA hfr hd hE
      simp only [List.range, List.range.loop, List.map_cons, List.map_nil, h_5, h_6, h_7, q_0]
      clear h_5 h_6 h_7 q_0
      have X := HX.out.keep hB
      have HR := hid' hR
      have HB := hid' hB
      have c2 : W.cell? ⟨g, 2, none⟩ = some (.bool bad) := X.cell 2
      have f2 := X.frozen 2
      clear hR hB HH HF HX
      cases bad with
      | true =>
        have h2 : Bx (W.setCell ⟨g, 2, none⟩ (.bool true)) g #[.slice ba n cap, .int .i64 at', .bool true] 82 := X.setCell (i := 2)
        have d2 : (W.setCell ⟨g, 2, none⟩ (.bool true)).cell? ⟨g, 2, none⟩ = some (.bool true) := h2.cell 2
        have HZ := hid' (HT.out v next er W _ HR.out HB.out (But.setCell g 2 W (.bool true)) (by simpa using h2))
        clear h2 X HT
        go_wp2
        go_ret
        exact HZ.out
      | false =>
        by_cases h0 : er = 0
        · subst h0
          have h2 : Bx (W.setCell ⟨g, 2, none⟩ (.bool false)) g #[.slice ba n cap, .int .i64 at', .bool false] 82 := X.setCell (i := 2)
          have d2 : (W.setCell ⟨g, 2, none⟩ (.bool false)).cell? ⟨g, 2, none⟩ = some (.bool false) := h2.cell 2
          have d1 : (W.setCell ⟨g, 2, none⟩ (.bool false)).cell? ⟨g, 1, none⟩ = some (.int .i64 at') := h2.cell 1
          have f1 := h2.frozen 1
          have h3 : Bx ((W.setCell ⟨g, 2, none⟩ (.bool false)).setCell ⟨g, 1, none⟩ (.int .i64 next)) g #[.slice ba n cap, .int .i64 next, .bool false] 82 := h2.setCell (i := 1)
          have HZ := hid' (HT.out v next 0 W _ HR.out HB.out ((But.setCell g 2 W (.bool false)).trans (But.setCell g 1 _ (.int .i64 next))) (by simpa using h3))
          clear h2 h3 X HT
          go_wp2
          go_ret
          exact HZ.out
        · have h2 : Bx (W.setCell ⟨g, 2, none⟩ (.bool true)) g #[.slice ba n cap, .int .i64 at', .bool true] 82 := X.setCell (i := 2)
          have d2 : (W.setCell ⟨g, 2, none⟩ (.bool true)).cell? ⟨g, 2, none⟩ = some (.bool true) := h2.cell 2
          have hb : (er != 0) = true := by simpa using h0
          have HZ := hid' (HT.out v next er W _ HR.out HB.out (But.setCell g 2 W (.bool true)) (by simpa [h0, hb] using h2))
          clear h2 X HT h0
          go_wp2
          go_ret
          exact HZ.out

set_option maxHeartbeats 4000000 in
theorem takeI_any (R : Value → Int → Int → World → Prop) (G : FuncId) (fn : Func) (hf : Try.prog.funcs[G]? = some fn) (hname : (fn.name == "runtime.NumGoroutine") = false) (hbody : fn.body.isNone = false) (w : World) (g : Nat) (ba : Option Addr) (n cap : Nat) (at' : Int) (bad : Bool) (hbx : Bx w g #[.slice ba n cap, .int .i64 at', .bool bad] 82)
    (HG : ∀ W, Below w.heap.size w W → Calls Try.prog G #[.slice ba n cap, .int .i64 at'] W fun e w' => ∃ v next er, e = .returned (.tuple #[v, .int .i64 next, .int .i64 er]) ∧ R v next er w' ∧ Below W.heap.size W w') :
    Calls Try.prog 61 #[.pointer (some ⟨g, 0, none⟩), .func (.func G) #[] #[]] w (TkAns R w g (.slice ba n cap) at' bad) := by
  have HX := hid' hbx
  have HH := hid' HG
  have HF := hid' hf
  have HT : Hid (∀ v next er W w', R v next er W → Below w.heap.size w W → But g W w' → Bx w' g #[.slice ba n cap, .int .i64 (if bad = true ∨ er ≠ 0 then at' else next), .bool (bad || er != 0)] 82 → TkAns R w g (.slice ba n cap) at' bad (.returned v) w') := fun v next er W w' h1 h2 h3 h4 => ⟨v, next, er, W, rfl, h1, h2, h3, h4⟩
  clear hbx HG hf
  go_enter Try.func61, Try.ntmps61
  go_wp2_with fail
  refine PD.wp_region_deps (tkVal g (.slice ba n cap) at' G) tkDep (tkInv R w) mixed' (by kernel_rfl) (tk_stable g (.slice ba n cap) at' G) ⟨(Below.refl _ _).drew, trivial⟩ ?_ ?_
  · refine ⟨?_, ?_, ?_, ?_, ?_, ?_, ?_, ?_, ?_, ?_, ?_, ?_, ?_, ?_, ?_, ?_, ?_, trivial⟩
    · intro vs A W hd hI hC
      exact ⟨PB.wanted_free rfl, run_moveD W (hC.outer 1 rfl)⟩
    · intro vs A W hd hI hC
      exact ⟨PB.wanted_free rfl, run_moveD W (hC.outer 0 rfl)⟩
    · intro vs A W hd hI hC
      exact ⟨PB.wanted_free rfl, run_nilc W (hC.left 1 rfl)⟩
    · intro vs A W hd hI hC
      exact ⟨PB.wanted_free rfl, run_faRdr0 W (hC.left 2 rfl)⟩
    · intro vs A W hd hI hC
      exact ⟨PB.wanted_free rfl, run_loadBy W (hC.left 3 rfl) ((HX.out.keep hI.1).cell 0)⟩
    · intro vs A W hd hI hC
      exact ⟨PB.wanted_free rfl, run_moveD W (hC.outer 0 rfl)⟩
    · intro vs A W hd hI hC
      exact ⟨PB.wanted_free rfl, run_nilc W (hC.left 5 rfl)⟩
    · intro vs A W hd hI hC
      exact ⟨PB.wanted_free rfl, run_faRdr1 W (hC.left 6 rfl)⟩
    · intro vs A W hd hI hC
      exact ⟨PB.wanted_free rfl, run_loadZ W (hC.left 7 rfl) ((HX.out.keep hI.1).cell 1)⟩
    · intro vs A W hk hI hC
      obtain rfl : vs = [] := List.length_eq_zero_iff.1 hk
      refine ⟨PB.wanted_free rfl, loud_callV #[.slice ba n cap, .int .i64 at'] rfl (hC.left 0 rfl) HF.out hname hbody ?_ ?_⟩
      · show [PB.slot A 13, PB.slot A 17] = _
        rw [show PB.slot A 13 = .slice ba n cap from hC.left 4 rfl, show PB.slot A 17 = .int .i64 at' from hC.left 8 rfl]
      · refine (HH.out W hI.1).mono ?_
        rintro e W2 ⟨v, next, er, rfl, hR, hb⟩
        exact ⟨_, rfl, bel_trans' hI.1 hb, v, next, er, rfl, hR⟩
    · intro vs A W hd hI hC
      exact ⟨PB.wanted_free rfl, run_moveD W (hC.left 9 rfl)⟩
    · intro vs A W hd hI hC
      match vs, hd, hI, hC with
      | [u], _, hI, hC =>
        obtain ⟨_, v, next, er, rfl, hR⟩ := hI
        exact ⟨PB.wanted_free rfl, run_ext0 W (hC.left 10 rfl)⟩
    · intro vs A W hd hI hC
      match vs, hd, hI, hC with
      | [u], _, hI, hC =>
        obtain ⟨_, v, next, er, rfl, hR⟩ := hI
        exact ⟨PB.wanted_free rfl, run_ext1 W (hC.left 10 rfl)⟩
    · intro vs A W hd hI hC
      match vs, hd, hI, hC with
      | [u], _, hI, hC =>
        obtain ⟨_, v, next, er, rfl, hR⟩ := hI
        exact ⟨PB.wanted_free rfl, run_ext2 W (hC.left 10 rfl)⟩
    · intro vs A W hd hI hC
      exact ⟨PB.wanted_free rfl, run_assD W (hC.left 11 rfl)⟩
    · intro vs A W hd hI hC
      exact ⟨PB.wanted_free rfl, run_assD W (hC.left 12 rfl)⟩
    · intro vs A W hd hI hC
      exact ⟨PB.wanted_free rfl, run_assD W (hC.left 13 rfl)⟩
  · intro vs A W hk hI hE
    match vs, hk, hI, hE with
    | [u], _, hI, hE =>
      obtain ⟨hB, v, next, er, rfl, hR⟩ := hI
      have h_5 : PB.slot A 5 = v := hE.left 14
      have h_6 : PB.slot A 6 = .int .i64 next := hE.left 15
      have h_7 : PB.slot A 7 = .int .i64 er := hE.left 16
      have q_0 : PB.slot A 0 = .pointer (some ⟨g, 0, none⟩) := hE.outer 0 rfl
      have hA := PT.frame_of (A := A) (n := 43) hE.size
      have hd : A.defers = [] := hE.defers
      rw [hd] at hA
      obtain ⟨fr, hfr⟩ : ∃ f, PB.slot A = f := ⟨_, rfl⟩
      rw [hfr] at hA h_5 h_6 h_7 q_0
      rw [hA]
      clear hA hfr hd hE
      simp only [List.range, List.range.loop, List.map_cons, List.map_nil, h_5, h_6, h_7, q_0]
      clear h_5 h_6 h_7 q_0
      have X := HX.out.keep hB
      have HR := hid' hR
      have HB := hid' hB
      have c2 : W.cell? ⟨g, 2, none⟩ = some (.bool bad) := X.cell 2
      have f2 := X.frozen 2
      clear hR hB HH HF HX
      cases bad with
      | true =>
        have h2 : Bx (W.setCell ⟨g, 2, none⟩ (.bool true)) g #[.slice ba n cap, .int .i64 at', .bool true] 82 := X.setCell (i := 2)
        have d2 : (W.setCell ⟨g, 2, none⟩ (.bool true)).cell? ⟨g, 2, none⟩ = some (.bool true) := h2.cell 2
        have HZ := hid' (HT.out v next er W _ HR.out HB.out (But.setCell g 2 W (.bool true)) (by simpa using h2))
        clear h2 X HT
        go_wp2
        go_ret
        exact HZ.out
      | false =>
        by_cases h0 : er = 0
        · subst h0
          have h2 : Bx (W.setCell ⟨g, 2, none⟩ (.bool false)) g #[.slice ba n cap, .int .i64 at', .bool false] 82 := X.setCell (i := 2)
          have d2 : (W.setCell ⟨g, 2, none⟩ (.bool false)).cell? ⟨g, 2, none⟩ = some (.bool false) := h2.cell 2
          have d1 : (W.setCell ⟨g, 2, none⟩ (.bool false)).cell? ⟨g, 1, none⟩ = some (.int .i64 at') := h2.cell 1
          have f1 := h2.frozen 1
          have h3 : Bx ((W.setCell ⟨g, 2, none⟩ (.bool false)).setCell ⟨g, 1, none⟩ (.int .i64 next)) g #[.slice ba n cap, .int .i64 next, .bool false] 82 := h2.setCell (i := 1)
          have HZ := hid' (HT.out v next 0 W _ HR.out HB.out ((But.setCell g 2 W (.bool false)).trans (But.setCell g 1 _ (.int .i64 next))) (by simpa using h3))
          clear h2 h3 X HT
          go_wp2
          go_ret
          exact HZ.out
        · have h2 : Bx (W.setCell ⟨g, 2, none⟩ (.bool true)) g #[.slice ba n cap, .int .i64 at', .bool true] 82 := X.setCell (i := 2)
          have d2 : (W.setCell ⟨g, 2, none⟩ (.bool true)).cell? ⟨g, 2, none⟩ = some (.bool true) := h2.cell 2
          have hb : (er != 0) = true := by simpa using h0
          have HZ := hid' (HT.out v next er W _ HR.out HB.out (But.setCell g 2 W (.bool true)) (by simpa [h0, hb] using h2))
          clear h2 X HT h0
          go_wp2
          go_ret
          exact HZ.out

set_option maxHeartbeats 4000000 in
theorem takeB_any (R : Value → Int → Int → World → Prop) (G : FuncId) (fn : Func) (hf : Try.prog.funcs[G]? = some fn) (hname : (fn.name == "runtime.NumGoroutine") = false) (hbody : fn.body.isNone = false) (w : World) (g : Nat) (ba : Option Addr) (n cap : Nat) (at' : Int) (bad : Bool) (hbx : Bx w g #[.slice ba n cap, .int .i64 at', .bool bad] 82)
    (HG : ∀ W, Below w.heap.size w W → Calls Try.prog G #[.slice ba n cap, .int .i64 at'] W fun e w' => ∃ v next er, e = .returned (.tuple #[v, .int .i64 next, .int .i64 er]) ∧ R v next er w' ∧ Below W.heap.size W w') :
    Calls Try.prog 64 #[.pointer (some ⟨g, 0, none⟩), .func (.func G) #[] #[]] w (TkAns R w g (.slice ba n cap) at' bad) := by
  have HX := hid' hbx
  have HH := hid' HG
  have HF := hid' hf
  have HT : Hid (∀ v next er W w', R v next er W → Below w.heap.size w W → But g W w' → Bx w' g #[.slice ba n cap, .int .i64 (if bad = true ∨ er ≠ 0 then at' else next), .bool (bad || er != 0)] 82 → TkAns R w g (.slice ba n cap) at' bad (.returned v) w') := fun v next er W w' h1 h2 h3 h4 => ⟨v, next, er, W, rfl, h1, h2, h3, h4⟩
  clear hbx HG hf
  go_enter Try.func64, Try.ntmps64
  go_wp2_with fail
  refine PD.wp_region_deps (tkVal g (.slice ba n cap) at' G) tkDep (tkInv R w) mixed' (by kernel_rfl) (tk_stable g (.slice ba n cap) at' G) ⟨(Below.refl _ _).drew, trivial⟩ ?_ ?_
  · refine ⟨?_, ?_, ?_, ?_, ?_, ?_, ?_, ?_, ?_, ?_, ?_, ?_, ?_, ?_, ?_, ?_, ?_, trivial⟩
    · intro vs A W hd hI hC
      exact ⟨PB.wanted_free rfl, run_moveD W (hC.outer 1 rfl)⟩
    · intro vs A W hd hI hC
      exact ⟨PB.wanted_free rfl, run_moveD W (hC.outer 0 rfl)⟩
    · intro vs A W hd hI hC
      exact ⟨PB.wanted_free rfl, run_nilc W (hC.left 1 rfl)⟩
    · intro vs A W hd hI hC
      exact ⟨PB.wanted_free rfl, run_faRdr0 W (hC.left 2 rfl)⟩
    · intro vs A W hd hI hC
      exact ⟨PB.wanted_free rfl, run_loadBy W (hC.left 3 rfl) ((HX.out.keep hI.1).cell 0)⟩
    · intro vs A W hd hI hC
      exact ⟨PB.wanted_free rfl, run_moveD W (hC.outer 0 rfl)⟩
    · intro vs A W hd hI hC
      exact ⟨PB.wanted_free rfl, run_nilc W (hC.left 5 rfl)⟩
    · intro vs A W hd hI hC
      exact ⟨PB.wanted_free rfl, run_faRdr1 W (hC.left 6 rfl)⟩
    · intro vs A W hd hI hC
      exact ⟨PB.wanted_free rfl, run_loadZ W (hC.left 7 rfl) ((HX.out.keep hI.1).cell 1)⟩
    · intro vs A W hk hI hC
      obtain rfl : vs = [] := List.length_eq_zero_iff.1 hk
      refine ⟨PB.wanted_free rfl, loud_callV #[.slice ba n cap, .int .i64 at'] rfl (hC.left 0 rfl) HF.out hname hbody ?_ ?_⟩
      · show [PB.slot A 13, PB.slot A 17] = _
        rw [show PB.slot A 13 = .slice ba n cap from hC.left 4 rfl, show PB.slot A 17 = .int .i64 at' from hC.left 8 rfl]
      · refine (HH.out W hI.1).mono ?_
        rintro e W2 ⟨v, next, er, rfl, hR, hb⟩
        exact ⟨_, rfl, bel_trans' hI.1 hb, v, next, er, rfl, hR⟩
    · intro vs A W hd hI hC
      exact ⟨PB.wanted_free rfl, run_moveD W (hC.left 9 rfl)⟩
    · intro vs A W hd hI hC
      match vs, hd, hI, hC with
      | [u], _, hI, hC =>
        obtain ⟨_, v, next, er, rfl, hR⟩ := hI
        exact ⟨PB.wanted_free rfl, run_ext0 W (hC.left 10 rfl)⟩
    · intro vs A W hd hI hC
      match vs, hd, hI, hC with
      | [u], _, hI, hC =>
        obtain ⟨_, v, next, er, rfl, hR⟩ := hI
        exact ⟨PB.wanted_free rfl, run_ext1 W (hC.left 10 rfl)⟩
    · intro vs A W hd hI hC
      match vs, hd, hI, hC with
      | [u], _, hI, hC =>
        obtain ⟨_, v, next, er, rfl, hR⟩ := hI
        exact ⟨PB.wanted_free rfl, run_ext2 W (hC.left 10 rfl)⟩
    · intro vs A W hd hI hC
      exact ⟨PB.wanted_free rfl, run_assD W (hC.left 11 rfl)⟩
    · intro vs A W hd hI hC
      exact ⟨PB.wanted_free rfl, run_assD W (hC.left 12 rfl)⟩
    · intro vs A W hd hI hC
      exact ⟨PB.wanted_free rfl, run_assD W (hC.left 13 rfl)⟩
  · intro vs A W hk hI hE
    match vs, hk, hI, hE with
    | [u], _, hI, hE =>
      obtain ⟨hB, v, next, er, rfl, hR⟩ := hI
      have h_5 : PB.slot A 5 = v := hE.left 14
      have h_6 : PB.slot A 6 = .int .i64 next := hE.left 15
      have h_7 : PB.slot A 7 = .int .i64 er := hE.left 16
      have q_0 : PB.slot A 0 = .pointer (some ⟨g, 0, none⟩) := hE.outer 0 rfl
      have hA := PT.frame_of (A := A) (n := 43) hE.size
      have hd : A.defers = [] := hE.defers
      rw [hd] at hA
      obtain ⟨fr, hfr⟩ : ∃ f, PB.slot A = f := ⟨_, rfl⟩
      rw [hfr] at hA h_5 h_6 h_7 q_0
      rw [hA]
      clear hA hfr hd hE
      simp only [List.range, List.range.loop, List.map_cons, List.map_nil, h_5, h_6, h_7, q_0]
      clear h_5 h_6 h_7 q_0
      have X := HX.out.keep hB
      have HR := hid' hR
      have HB := hid' hB
      have c2 : W.cell? ⟨g, 2, none⟩ = some (.bool bad) := X.cell 2
      have f2 := X.frozen 2
      clear hR hB HH HF HX
      cases bad with
      | true =>
        have h2 : Bx (W.setCell ⟨g, 2, none⟩ (.bool true)) g #[.slice ba n cap, .int .i64 at', .bool true] 82 := X.setCell (i := 2)
        have d2 : (W.setCell ⟨g, 2, none⟩ (.bool true)).cell? ⟨g, 2, none⟩ = some (.bool true) := h2.cell 2
        have HZ := hid' (HT.out v next er W _ HR.out HB.out (But.setCell g 2 W (.bool true)) (by simpa using h2))
        clear h2 X HT
        go_wp2
        go_ret
        exact HZ.out
      | false =>
        by_cases h0 : er = 0
        · subst h0
          have h2 : Bx (W.setCell ⟨g, 2, none⟩ (.bool false)) g #[.slice ba n cap, .int .i64 at', .bool false] 82 := X.setCell (i := 2)
          have d2 : (W.setCell ⟨g, 2, none⟩ (.bool false)).cell? ⟨g, 2, none⟩ = some (.bool false) := h2.cell 2
          have d1 : (W.setCell ⟨g, 2, none⟩ (.bool false)).cell? ⟨g, 1, none⟩ = some (.int .i64 at') := h2.cell 1
          have f1 := h2.frozen 1
          have h3 : Bx ((W.setCell ⟨g, 2, none⟩ (.bool false)).setCell ⟨g, 1, none⟩ (.int .i64 next)) g #[.slice ba n cap, .int .i64 next, .bool false] 82 := h2.setCell (i := 1)
          have HZ := hid' (HT.out v next 0 W _ HR.out HB.out ((But.setCell g 2 W (.bool false)).trans (But.setCell g 1 _ (.int .i64 next))) (by simpa using h3))
          clear h2 h3 X HT
          go_wp2
          go_ret
          exact HZ.out
        · have h2 : Bx (W.setCell ⟨g, 2, none⟩ (.bool true)) g #[.slice ba n cap, .int .i64 at', .bool true] 82 := X.setCell (i := 2)
          have d2 : (W.setCell ⟨g, 2, none⟩ (.bool true)).cell? ⟨g, 2, none⟩ = some (.bool true) := h2.cell 2
          have hb : (er != 0) = true := by simpa using h0
          have HZ := hid' (HT.out v next er W _ HR.out HB.out (But.setCell g 2 W (.bool true)) (by simpa [h0, hb] using h2))
          clear h2 X HT h0
          go_wp2
          go_ret
          exact HZ.out

set_option maxHeartbeats 4000000 in
theorem takeV_any (R : Value → Int → Int → World → Prop) (G : FuncId) (fn : Func) (hf : Try.prog.funcs[G]? = some fn) (hname : (fn.name == "runtime.NumGoroutine") = false) (hbody : fn.body.isNone = false) (w : World) (g : Nat) (ba : Option Addr) (n cap : Nat) (at' : Int) (bad : Bool) (hbx : Bx w g #[.slice ba n cap, .int .i64 at', .bool bad] 82)
    (HG : ∀ W, Below w.heap.size w W → Calls Try.prog G #[.slice ba n cap, .int .i64 at'] W fun e w' => ∃ v next er, e = .returned (.tuple #[v, .int .i64 next, .int .i64 er]) ∧ R v next er w' ∧ Below W.heap.size W w') :
    Calls Try.prog 66 #[.pointer (some ⟨g, 0, none⟩), .func (.func G) #[] #[]] w (TkAns R w g (.slice ba n cap) at' bad) := by
  have HX := hid' hbx
  have HH := hid' HG
  have HF := hid' hf
  have HT : Hid (∀ v next er W w', R v next er W → Below w.heap.size w W → But g W w' → Bx w' g #[.slice ba n cap, .int .i64 (if bad = true ∨ er ≠ 0 then at' else next), .bool (bad || er != 0)] 82 → TkAns R w g (.slice ba n cap) at' bad (.returned v) w') := fun v next er W w' h1 h2 h3 h4 => ⟨v, next, er, W, rfl, h1, h2, h3, h4⟩
  clear hbx HG hf
  go_enter Try.func66, Try.ntmps66
  go_wp2_with fail
  refine PD.wp_region_deps (tkVal g (.slice ba n cap) at' G) tkDep (tkInv R w) mixed' (by kernel_rfl) (tk_stable g (.slice ba n cap) at' G) ⟨(Below.refl _ _).drew, trivial⟩ ?_ ?_
  · refine ⟨?_, ?_, ?_, ?_, ?_, ?_, ?_, ?_, ?_, ?_, ?_, ?_, ?_, ?_, ?_, ?_, ?_, trivial⟩
    · intro vs A W hd hI hC
      exact ⟨PB.wanted_free rfl, run_moveD W (hC.outer 1 rfl)⟩
    · intro vs A W hd hI hC
      exact ⟨PB.wanted_free rfl, run_moveD W (hC.outer 0 rfl)⟩
    · intro vs A W hd hI hC
      exact ⟨PB.wanted_free rfl, run_nilc W (hC.left 1 rfl)⟩
    · intro vs A W hd hI hC
      exact ⟨PB.wanted_free rfl, run_faRdr0 W (hC.left 2 rfl)⟩
    · intro vs A W hd hI hC
      exact ⟨PB.wanted_free rfl, run_loadBy W (hC.left 3 rfl) ((HX.out.keep hI.1).cell 0)⟩
    · intro vs A W hd hI hC
      exact ⟨PB.wanted_free rfl, run_moveD W (hC.outer 0 rfl)⟩
    · intro vs A W hd hI hC
      exact ⟨PB.wanted_free rfl, run_nilc W (hC.left 5 rfl)⟩
    · intro vs A W hd hI hC
      exact ⟨PB.wanted_free rfl, run_faRdr1 W (hC.left 6 rfl)⟩
    · intro vs A W hd hI hC
      exact ⟨PB.wanted_free rfl, run_loadZ W (hC.left 7 rfl) ((HX.out.keep hI.1).cell 1)⟩
    · intro vs A W hk hI hC
      obtain rfl : vs = [] := List.length_eq_zero_iff.1 hk
      refine ⟨PB.wanted_free rfl, loud_callV #[.slice ba n cap, .int .i64 at'] rfl (hC.left 0 rfl) HF.out hname hbody ?_ ?_⟩
      · show [PB.slot A 13, PB.slot A 17] = _
        rw [show PB.slot A 13 = .slice ba n cap from hC.left 4 rfl, show PB.slot A 17 = .int .i64 at' from hC.left 8 rfl]
      · refine (HH.out W hI.1).mono ?_
        rintro e W2 ⟨v, next, er, rfl, hR, hb⟩
        exact ⟨_, rfl, bel_trans' hI.1 hb, v, next, er, rfl, hR⟩
    · intro vs A W hd hI hC
      exact ⟨PB.wanted_free rfl, run_moveD W (hC.left 9 rfl)⟩
    · intro vs A W hd hI hC
      match vs, hd, hI, hC with
      | [u], _, hI, hC =>
        obtain ⟨_, v, next, er, rfl, hR⟩ := hI
        exact ⟨PB.wanted_free rfl, run_ext0 W (hC.left 10 rfl)⟩
    · intro vs A W hd hI hC
      match vs, hd, hI, hC with
      | [u], _, hI, hC =>
        obtain ⟨_, v, next, er, rfl, hR⟩ := hI
        exact ⟨PB.wanted_free rfl, run_ext1 W (hC.left 10 rfl)⟩
    · intro vs A W hd hI hC
      match vs, hd, hI, hC with
      | [u], _, hI, hC =>
        obtain ⟨_, v, next, er, rfl, hR⟩ := hI
        exact ⟨PB.wanted_free rfl, run_ext2 W (hC.left 10 rfl)⟩
    · intro vs A W hd hI hC
      exact ⟨PB.wanted_free rfl, run_assD W (hC.left 11 rfl)⟩
    · intro vs A W hd hI hC
      exact ⟨PB.wanted_free rfl, run_assD W (hC.left 12 rfl)⟩
    · intro vs A W hd hI hC
      exact ⟨PB.wanted_free rfl, run_assD W (hC.left 13 rfl)⟩
  · intro vs A W hk hI hE
    match vs, hk, hI, hE with
    | [u], _, hI, hE =>
      obtain ⟨hB, v, next, er, rfl, hR⟩ := hI
      have h_5 : PB.slot A 5 = v := hE.left 14
      have h_6 : PB.slot A 6 = .int .i64 next := hE.left 15
      have h_7 : PB.slot A 7 = .int .i64 er := hE.left 16
      have q_0 : PB.slot A 0 = .pointer (some ⟨g, 0, none⟩) := hE.outer 0 rfl
      have hA := PT.frame_of (A := A) (n := 43) hE.size
      have hd : A.defers = [] := hE.defers
      rw [hd] at hA
      obtain ⟨fr, hfr⟩ : ∃ f, PB.slot A = f := ⟨_, rfl⟩
      rw [hfr] at hA h_5 h_6 h_7 q_0
      rw [hA]
      clear hA hfr hd hE
      simp only [List.range, List.range.loop, List.map_cons, List.map_nil, h_5, h_6, h_7, q_0]
      clear h_5 h_6 h_7 q_0
      have X := HX.out.keep hB
      have HR := hid' hR
      have HB := hid' hB
      have c2 : W.cell? ⟨g, 2, none⟩ = some (.bool bad) := X.cell 2
      have f2 := X.frozen 2
      clear hR hB HH HF HX
      cases bad with
      | true =>
        have h2 : Bx (W.setCell ⟨g, 2, none⟩ (.bool true)) g #[.slice ba n cap, .int .i64 at', .bool true] 82 := X.setCell (i := 2)
        have d2 : (W.setCell ⟨g, 2, none⟩ (.bool true)).cell? ⟨g, 2, none⟩ = some (.bool true) := h2.cell 2
        have HZ := hid' (HT.out v next er W _ HR.out HB.out (But.setCell g 2 W (.bool true)) (by simpa using h2))
        clear h2 X HT
        go_wp2
        go_ret
        exact HZ.out
      | false =>
        by_cases h0 : er = 0
        · subst h0
          have h2 : Bx (W.setCell ⟨g, 2, none⟩ (.bool false)) g #[.slice ba n cap, .int .i64 at', .bool false] 82 := X.setCell (i := 2)
          have d2 : (W.setCell ⟨g, 2, none⟩ (.bool false)).cell? ⟨g, 2, none⟩ = some (.bool false) := h2.cell 2
          have d1 : (W.setCell ⟨g, 2, none⟩ (.bool false)).cell? ⟨g, 1, none⟩ = some (.int .i64 at') := h2.cell 1
          have f1 := h2.frozen 1
          have h3 : Bx ((W.setCell ⟨g, 2, none⟩ (.bool false)).setCell ⟨g, 1, none⟩ (.int .i64 next)) g #[.slice ba n cap, .int .i64 next, .bool false] 82 := h2.setCell (i := 1)
          have HZ := hid' (HT.out v next 0 W _ HR.out HB.out ((But.setCell g 2 W (.bool false)).trans (But.setCell g 1 _ (.int .i64 next))) (by simpa using h3))
          clear h2 h3 X HT
          go_wp2
          go_ret
          exact HZ.out
        · have h2 : Bx (W.setCell ⟨g, 2, none⟩ (.bool true)) g #[.slice ba n cap, .int .i64 at', .bool true] 82 := X.setCell (i := 2)
          have d2 : (W.setCell ⟨g, 2, none⟩ (.bool true)).cell? ⟨g, 2, none⟩ = some (.bool true) := h2.cell 2
          have hb : (er != 0) = true := by simpa using h0
          have HZ := hid' (HT.out v next er W _ HR.out HB.out (But.setCell g 2 W (.bool true)) (by simpa [h0, hb] using h2))
          clear h2 X HT h0
          go_wp2
          go_ret
          exact HZ.out

set_option maxHeartbeats 4000000 in
theorem takeT_any (R : Value → Int → Int → World → Prop) (G : FuncId) (fn : Func) (hf : Try.prog.funcs[G]? = some fn) (hname : (fn.name == "runtime.NumGoroutine") = false) (hbody : fn.body.isNone = false) (w : World) (g : Nat) (ba : Option Addr) (n cap : Nat) (at' : Int) (bad : Bool) (hbx : Bx w g #[.slice ba n cap, .int .i64 at', .bool bad] 82)
    (HG : ∀ W, Below w.heap.size w W → Calls Try.prog G #[.slice ba n cap, .int .i64 at'] W fun e w' => ∃ v next er, e = .returned (.tuple #[v, .int .i64 next, .int .i64 er]) ∧ R v next er w' ∧ Below W.heap.size W w') :
    Calls Try.prog 68 #[.pointer (some ⟨g, 0, none⟩), .func (.func G) #[] #[]] w (TkAns R w g (.slice ba n cap) at' bad) := by
  have HX := hid' hbx
  have HH := hid' HG
  have HF := hid' hf
  have HT : Hid (∀ v next er W w', R v next er W → Below w.heap.size w W → But g W w' → Bx w' g #[.slice ba n cap, .int .i64 (if bad = true ∨ er ≠ 0 then at' else next), .bool (bad || er != 0)] 82 → TkAns R w g (.slice ba n cap) at' bad (.returned v) w') := fun v next er W w' h1 h2 h3 h4 => ⟨v, next, er, W, rfl, h1, h2, h3, h4⟩
  clear hbx HG hf
  go_enter Try.func68, Try.ntmps68
  go_wp2_with fail
  refine PD.wp_region_deps (tkVal g (.slice ba n cap) at' G) tkDep (tkInv R w) mixed' (by kernel_rfl) (tk_stable g (.slice ba n cap) at' G) ⟨(Below.refl _ _).drew, trivial⟩ ?_ ?_
  · refine ⟨?_, ?_, ?_, ?_, ?_, ?_, ?_, ?_, ?_, ?_, ?_, ?_, ?_, ?_, ?_, ?_, ?_, trivial⟩
    · intro vs A W hd hI hC
      exact ⟨PB.wanted_free rfl, run_moveD W (hC.outer 1 rfl)⟩
    · intro vs A W hd hI hC
      exact ⟨PB.wanted_free rfl, run_moveD W (hC.outer 0 rfl)⟩
    · intro vs A W hd hI hC
      exact ⟨PB.wanted_free rfl, run_nilc W (hC.left 1 rfl)⟩
    · intro vs A W hd hI hC
      exact ⟨PB.wanted_free rfl, run_faRdr0 W (hC.left 2 rfl)⟩
    · intro vs A W hd hI hC
      exact ⟨PB.wanted_free rfl, run_loadBy W (hC.left 3 rfl) ((HX.out.keep hI.1).cell 0)⟩
    · intro vs A W hd hI hC
      exact ⟨PB.wanted_free rfl, run_moveD W (hC.outer 0 rfl)⟩
    · intro vs A W hd hI hC
      exact ⟨PB.wanted_free rfl, run_nilc W (hC.left 5 rfl)⟩
    · intro vs A W hd hI hC
      exact ⟨PB.wanted_free rfl, run_faRdr1 W (hC.left 6 rfl)⟩
    · intro vs A W hd hI hC
      exact ⟨PB.wanted_free rfl, run_loadZ W (hC.left 7 rfl) ((HX.out.keep hI.1).cell 1)⟩
    · intro vs A W hk hI hC
      obtain rfl : vs = [] := List.length_eq_zero_iff.1 hk
      refine ⟨PB.wanted_free rfl, loud_callV #[.slice ba n cap, .int .i64 at'] rfl (hC.left 0 rfl) HF.out hname hbody ?_ ?_⟩
      · show [PB.slot A 13, PB.slot A 17] = _
        rw [show PB.slot A 13 = .slice ba n cap from hC.left 4 rfl, show PB.slot A 17 = .int .i64 at' from hC.left 8 rfl]
      · refine (HH.out W hI.1).mono ?_
        rintro e W2 ⟨v, next, er, rfl, hR, hb⟩
        exact ⟨_, rfl, bel_trans' hI.1 hb, v, next, er, rfl, hR⟩
    · intro vs A W hd hI hC
      exact ⟨PB.wanted_free rfl, run_moveD W (hC.left 9 rfl)⟩
    · intro vs A W hd hI hC
      match vs, hd, hI, hC with
      | [u], _, hI, hC =>
        obtain ⟨_, v, next, er, rfl, hR⟩ := hI
        exact ⟨PB.wanted_free rfl, run_ext0 W (hC.left 10 rfl)⟩
    · intro vs A W hd hI hC
      match vs, hd, hI, hC with
      | [u], _, hI, hC =>
        obtain ⟨_, v, next, er, rfl, hR⟩ := hI
        exact ⟨PB.wanted_free rfl, run_ext1 W (hC.left 10 rfl)⟩
    · intro vs A W hd hI hC
      match vs, hd, hI, hC with
      | [u], _, hI, hC =>
        obtain ⟨_, v, next, er, rfl, hR⟩ := hI
        exact ⟨PB.wanted_free rfl, run_ext2 W (hC.left 10 rfl)⟩
    · intro vs A W hd hI hC
      exact ⟨PB.wanted_free rfl, run_assD W (hC.left 11 rfl)⟩
    · intro vs A W hd hI hC
      exact ⟨PB.wanted_free rfl, run_assD W (hC.left 12 rfl)⟩
    · intro vs A W hd hI hC
      exact ⟨PB.wanted_free rfl, run_assD W (hC.left 13 rfl)⟩
  · intro vs A W hk hI hE
    match vs, hk, hI, hE with
    | [u], _, hI, hE =>
      obtain ⟨hB, v, next, er, rfl, hR⟩ := hI
      have h_5 : PB.slot A 5 = v := hE.left 14
      have h_6 : PB.slot A 6 = .int .i64 next := hE.left 15
      have h_7 : PB.slot A 7 = .int .i64 er := hE.left 16
      have q_0 : PB.slot A 0 = .pointer (some ⟨g, 0, none⟩) := hE.outer 0 rfl
      have hA := PT.frame_of (A := A) (n := 43) hE.size
      have hd : A.defers = [] := hE.defers
      rw [hd] at hA
      obtain ⟨fr, hfr⟩ : ∃ f, PB.slot A = f := ⟨_, rfl⟩
      rw [hfr] at hA h_5 h_6 h_7 q_0
      rw [hA]
      clear hA hfr hd hE
      simp only [List.range, List.range.loop, List.map_cons, List.map_nil, h_5, h_6, h_7, q_0]
      clear h_5 h_6 h_7 q_0
      have X := HX.out.keep hB
      have HR := hid' hR
      have HB := hid' hB
      have c2 : W.cell? ⟨g, 2, none⟩ = some (.bool bad) := X.cell 2
      have f2 := X.frozen 2
      clear hR hB HH HF HX
      cases bad with
      | true =>
        have h2 : Bx (W.setCell ⟨g, 2, none⟩ (.bool true)) g #[.slice ba n cap, .int .i64 at', .bool true] 82 := X.setCell (i := 2)
        have d2 : (W.setCell ⟨g, 2, none⟩ (.bool true)).cell? ⟨g, 2, none⟩ = some (.bool true) := h2.cell 2
        have HZ := hid' (HT.out v next er W _ HR.out HB.out (But.setCell g 2 W (.bool true)) (by simpa using h2))
        clear h2 X HT
        go_wp2
        go_ret
        exact HZ.out
      | false =>
        by_cases h0 : er = 0
        · subst h0
          have h2 : Bx (W.setCell ⟨g, 2, none⟩ (.bool false)) g #[.slice ba n cap, .int .i64 at', .bool false] 82 := X.setCell (i := 2)
          have d2 : (W.setCell ⟨g, 2, none⟩ (.bool false)).cell? ⟨g, 2, none⟩ = some (.bool false) := h2.cell 2
          have d1 : (W.setCell ⟨g, 2, none⟩ (.bool false)).cell? ⟨g, 1, none⟩ = some (.int .i64 at') := h2.cell 1
          have f1 := h2.frozen 1
          have h3 : Bx ((W.setCell ⟨g, 2, none⟩ (.bool false)).setCell ⟨g, 1, none⟩ (.int .i64 next)) g #[.slice ba n cap, .int .i64 next, .bool false] 82 := h2.setCell (i := 1)
          have HZ := hid' (HT.out v next 0 W _ HR.out HB.out ((But.setCell g 2 W (.bool false)).trans (But.setCell g 1 _ (.int .i64 next))) (by simpa using h3))
          clear h2 h3 X HT
          go_wp2
          go_ret
          exact HZ.out
        · have h2 : Bx (W.setCell ⟨g, 2, none⟩ (.bool true)) g #[.slice ba n cap, .int .i64 at', .bool true] 82 := X.setCell (i := 2)
          have d2 : (W.setCell ⟨g, 2, none⟩ (.bool true)).cell? ⟨g, 2, none⟩ = some (.bool true) := h2.cell 2
          have hb : (er != 0) = true := by simpa using h0
          have HZ := hid' (HT.out v next er W _ HR.out HB.out (But.setCell g 2 W (.bool true)) (by simpa [h0, hb] using h2))
          clear h2 X HT h0
          go_wp2
          go_ret
          exact HZ.out

end Go.Proofs.Ytgalmkhgbokidaa
