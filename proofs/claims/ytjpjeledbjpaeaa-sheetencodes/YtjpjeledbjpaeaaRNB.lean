/-
  What is proved here: the document's bytes of a node and of a plan.
-/
import Derived.Test.YtjpjeledbjpaeaaChain
namespace Go.Proofs.Ytjpjeledbjpaeaa
open Go.RowKit Go.Proofs
set_option maxRecDepth 20000
set_option linter.unusedVariables false
set_option linter.unusedSimpArgs false

theorem mixedC : Try.prog.follows .mixedOrders = true := by kernel_rfl

section
variable {a : Act} {t u c : Nat} {dst : Option Tmp} {ty : TypeId} {pos : String} {aft : Array Edge} {guard : Option (Nat × Bool)}

theorem run_moveC {v : Value} (w : World) (h : PB.slot a t = v) : (execOp a.eval { dst := dst, op := .move (.tmp t), type := ty, pos := pos, after := aft, guard := guard }).run Try.prog w = .ok (.value v) w := by
  have h1 : a.tmps[t]?.getD undef = v := by rw [← Array.getD_eq_getD_getElem?]; exact h
  go_simp

theorem run_assignC {v : Value} (w : World) (h : PB.slot a t = v) : (execOp a.eval { dst := dst, op := .assign (.tmp t), type := ty, pos := pos, after := aft, guard := guard }).run Try.prog w = .ok (.value v) w := by
  have h1 : a.tmps[t]?.getD undef = v := by rw [← Array.getD_eq_getD_getElem?]; exact h
  go_simp

theorem run_ldL {g k : Nat} {x : Option Addr} {n m : Nat} (w : World) (h : PB.slot a t = .pointer (some ⟨g, k, none⟩)) (hc : w.cell? ⟨g, k, none⟩ = some (.slice x n m)) :
    (execOp a.eval { dst := dst, op := .load 23 (.tmp t), type := ty, pos := pos, after := aft, guard := guard }).run Try.prog w = .ok (.value (.slice x n m)) w := by
  have h0 : a.tmps[t]?.getD undef = .pointer (some ⟨g, k, none⟩) := by rw [← Array.getD_eq_getD_getElem?]; exact h
  go_simp

theorem run_ldZ {g k : Nat} {z : Int} (w : World) (h : PB.slot a t = .pointer (some ⟨g, k, none⟩)) (hc : w.cell? ⟨g, k, none⟩ = some (.int .i64 z)) :
    (execOp a.eval { dst := dst, op := .load 3 (.tmp t), type := ty, pos := pos, after := aft, guard := guard }).run Try.prog w = .ok (.value (.int .i64 z)) w := by
  have h0 : a.tmps[t]?.getD undef = .pointer (some ⟨g, k, none⟩) := by rw [← Array.getD_eq_getD_getElem?]; exact h
  go_simp

theorem run_ldS {g k : Nat} {z : ByteArray} (w : World) (h : PB.slot a t = .pointer (some ⟨g, k, none⟩)) (hc : w.cell? ⟨g, k, none⟩ = some (.string z)) :
    (execOp a.eval { dst := dst, op := .load 9 (.tmp t), type := ty, pos := pos, after := aft, guard := guard }).run Try.prog w = .ok (.value (.string z)) w := by
  have h0 : a.tmps[t]?.getD undef = .pointer (some ⟨g, k, none⟩) := by rw [← Array.getD_eq_getD_getElem?]; exact h
  go_simp

theorem run_faNode1 {g : Nat} (w : World) (h : PB.slot a t = .pointer (some ⟨g, 0, none⟩)) : (execOp a.eval { dst := dst, op := .fieldAddr 44 (.tmp t) 1, type := ty, pos := pos, after := aft, guard := guard }).run Try.prog w = .ok (.value (.pointer (some ⟨g, 1, none⟩))) w := by
  have h1 : a.tmps[t]?.getD undef = .pointer (some ⟨g, 0, none⟩) := by rw [← Array.getD_eq_getD_getElem?]; exact h
  go_simp
theorem run_faNode2 {g : Nat} (w : World) (h : PB.slot a t = .pointer (some ⟨g, 0, none⟩)) : (execOp a.eval { dst := dst, op := .fieldAddr 44 (.tmp t) 2, type := ty, pos := pos, after := aft, guard := guard }).run Try.prog w = .ok (.value (.pointer (some ⟨g, 2, none⟩))) w := by
  have h1 : a.tmps[t]?.getD undef = .pointer (some ⟨g, 0, none⟩) := by rw [← Array.getD_eq_getD_getElem?]; exact h
  go_simp
theorem run_faNode5 {g : Nat} (w : World) (h : PB.slot a t = .pointer (some ⟨g, 0, none⟩)) : (execOp a.eval { dst := dst, op := .fieldAddr 44 (.tmp t) 5, type := ty, pos := pos, after := aft, guard := guard }).run Try.prog w = .ok (.value (.pointer (some ⟨g, 5, none⟩))) w := by
  have h1 : a.tmps[t]?.getD undef = .pointer (some ⟨g, 0, none⟩) := by rw [← Array.getD_eq_getD_getElem?]; exact h
  go_simp
theorem run_faNode6 {g : Nat} (w : World) (h : PB.slot a t = .pointer (some ⟨g, 0, none⟩)) : (execOp a.eval { dst := dst, op := .fieldAddr 44 (.tmp t) 6, type := ty, pos := pos, after := aft, guard := guard }).run Try.prog w = .ok (.value (.pointer (some ⟨g, 6, none⟩))) w := by
  have h1 : a.tmps[t]?.getD undef = .pointer (some ⟨g, 0, none⟩) := by rw [← Array.getD_eq_getD_getElem?]; exact h
  go_simp
theorem run_faNode7 {g : Nat} (w : World) (h : PB.slot a t = .pointer (some ⟨g, 0, none⟩)) : (execOp a.eval { dst := dst, op := .fieldAddr 44 (.tmp t) 7, type := ty, pos := pos, after := aft, guard := guard }).run Try.prog w = .ok (.value (.pointer (some ⟨g, 7, none⟩))) w := by
  have h1 : a.tmps[t]?.getD undef = .pointer (some ⟨g, 0, none⟩) := by rw [← Array.getD_eq_getD_getElem?]; exact h
  go_simp
theorem run_faNode8 {g : Nat} (w : World) (h : PB.slot a t = .pointer (some ⟨g, 0, none⟩)) : (execOp a.eval { dst := dst, op := .fieldAddr 44 (.tmp t) 8, type := ty, pos := pos, after := aft, guard := guard }).run Try.prog w = .ok (.value (.pointer (some ⟨g, 8, none⟩))) w := by
  have h1 : a.tmps[t]?.getD undef = .pointer (some ⟨g, 0, none⟩) := by rw [← Array.getD_eq_getD_getElem?]; exact h
  go_simp
theorem run_faTerm0 {g : Nat} (w : World) (h : PB.slot a t = .pointer (some ⟨g, 0, none⟩)) : (execOp a.eval { dst := dst, op := .fieldAddr 64 (.tmp t) 0, type := ty, pos := pos, after := aft, guard := guard }).run Try.prog w = .ok (.value (.pointer (some ⟨g, 0, none⟩))) w := by
  have h1 : a.tmps[t]?.getD undef = .pointer (some ⟨g, 0, none⟩) := by rw [← Array.getD_eq_getD_getElem?]; exact h
  go_simp
theorem run_faTerm1 {g : Nat} (w : World) (h : PB.slot a t = .pointer (some ⟨g, 0, none⟩)) : (execOp a.eval { dst := dst, op := .fieldAddr 64 (.tmp t) 1, type := ty, pos := pos, after := aft, guard := guard }).run Try.prog w = .ok (.value (.pointer (some ⟨g, 1, none⟩))) w := by
  have h1 : a.tmps[t]?.getD undef = .pointer (some ⟨g, 0, none⟩) := by rw [← Array.getD_eq_getD_getElem?]; exact h
  go_simp
theorem run_faTerm2 {g : Nat} (w : World) (h : PB.slot a t = .pointer (some ⟨g, 0, none⟩)) : (execOp a.eval { dst := dst, op := .fieldAddr 64 (.tmp t) 2, type := ty, pos := pos, after := aft, guard := guard }).run Try.prog w = .ok (.value (.pointer (some ⟨g, 2, none⟩))) w := by
  have h1 : a.tmps[t]?.getD undef = .pointer (some ⟨g, 0, none⟩) := by rw [← Array.getD_eq_getD_getElem?]; exact h
  go_simp
end

def pvC2 (u p0 v0 p1 v1 : Value) : Nat → Option Value
  | 0 => some u | 1 => some p0 | 2 => some v0 | 5 => some p1 | 6 => some v1 | _ => none
theorem pvC2_ok {u p0 v0 p1 v1 : Value} : ∀ k v, pvC2 u p0 v0 p1 v1 k = some v → k = 0 ∨ (k < 4 * 2 ∧ (k % 4 = 1 ∨ k % 4 = 2)) := by
  intro k v h
  unfold pvC2 at h
  split at h <;> first | omega | cases h
def xsC2 (x0 x1 : List Int) : Nat → List Int
  | 0 => x0 | 1 => x1 | _ => []

def pvC3 (u p0 v0 p1 v1 p2 v2 : Value) : Nat → Option Value
  | 0 => some u | 1 => some p0 | 2 => some v0 | 5 => some p1 | 6 => some v1 | 9 => some p2 | 10 => some v2 | _ => none
theorem pvC3_ok {u p0 v0 p1 v1 p2 v2 : Value} : ∀ k v, pvC3 u p0 v0 p1 v1 p2 v2 k = some v → k = 0 ∨ (k < 4 * 3 ∧ (k % 4 = 1 ∨ k % 4 = 2)) := by
  intro k v h
  unfold pvC3 at h
  split at h <;> first | omega | cases h
def xsC3 (x0 x1 x2 : List Int) : Nat → List Int
  | 0 => x0 | 1 => x1 | 2 => x2 | _ => []

def pvC4 (u p0 v0 p1 v1 p2 v2 p3 v3 : Value) : Nat → Option Value
  | 0 => some u | 1 => some p0 | 2 => some v0 | 5 => some p1 | 6 => some v1 | 9 => some p2 | 10 => some v2 | 13 => some p3 | 14 => some v3 | _ => none
theorem pvC4_ok {u p0 v0 p1 v1 p2 v2 p3 v3 : Value} : ∀ k v, pvC4 u p0 v0 p1 v1 p2 v2 p3 v3 k = some v → k = 0 ∨ (k < 4 * 4 ∧ (k % 4 = 1 ∨ k % 4 = 2)) := by
  intro k v h
  unfold pvC4 at h
  split at h <;> first | omega | cases h
def xsC4 (x0 x1 x2 x3 : List Int) : Nat → List Int
  | 0 => x0 | 1 => x1 | 2 => x2 | 3 => x3 | _ => []

/-- A node's cells. -/
def ndCs' (x : Nd) (s : NdS) : Array Value := #[.int .i64 x.kind, .slice s.a1 x.ins.length s.c1, .slice s.a2 x.kinds.length s.c2, .slice s.a3 x.exprs.length s.c3, .slice s.a4 x.cols.length s.c4, .int .i64 x.key, .int .i64 x.n, .int .i64 x.size, .int .i64 x.slide]

/-- Bytes of a node, up to its expressions. -/
def nb1 (x : Nd) : List Int := (oneB x.kind ++ listB oneB x.ins) ++ listB oneB x.kinds

theorem app_own {base : Nat} {w' : World} {v' : Value} {l r : List Int} (h : w'.ownsRow base 5 1 v' (l.length + r.length) (B8 l ++ B8 r)) : Own base w' v' (l ++ r) := by
  unfold Own
  rw [B8_append, List.length_append]
  exact h

theorem NewAns.newB' {r : List Int} {w : World} {P : Program} {f : FuncId} {args : Array Value} (h : Calls P f args w (NewAns r w)) (hne : r ≠ []) : Calls P f args w fun e w' => ∃ v, e = .returned v ∧ Below w.heap.size w w' ∧ NewB r v w' := h.mono fun e w' h => h.newB hne

theorem rtext_new (w : World) (s : ByteArray) (hs : s.size ≤ 5000) : Calls Try.prog 54 #[.string s] w fun e w' => ∃ v, e = .returned v ∧ Below w.heap.size w w' ∧ NewB (strB s) v w' := by
  refine (text_new w s hs).mono ?_
  rintro e w' ⟨v, rfl, hb, g, c, rfl, hbt⟩
  obtain ⟨ad, he, h⟩ := hbt.src (by have := sz_pos s.size; rw [length_B8, List.length_append, length_bytesOf]; omega)
  cases he
  obtain ⟨b, off, e2, hB, _⟩ := hbt.cells (by simp [bytesOf_ne])
  cases e2
  exact ⟨_, rfl, hb, g, c, rfl, hB, h⟩

/-- The loops of nodeBytes. -/
def nbI1 (w : World) (x : Nd) (m k : Nat) (b i : Value) (wr : World) : Prop := ∃ j : Nat, j + k = m ∧ i = .int .i64 (j : Int) ∧ Own w.heap.size wr b (nb1 x ++ (bytesOf x.exprs.length ++ (x.exprs.take j).flatMap stepsB)) ∧ Kb w.heap.size w wr
def nbI2 (w : World) (cur : List Int) (y : List V) (m k : Nat) (b i : Value) (wr : World) : Prop := ∃ j : Nat, j + k = m ∧ i = .int .i64 (j : Int) ∧ Own w.heap.size wr b (cur ++ (bytesOf y.length ++ (y.take j).flatMap stepB)) ∧ Kb w.heap.size w wr

theorem nbI1.out {w : World} {x : Nd} {m k : Nat} {b i : Value} {wr : World} (h : nbI1 w x m k b i wr) : ∃ (j : Nat) (g c : Nat), j + k = m ∧ i = .int .i64 (j : Int) ∧ b = .slice (some ⟨g, 0, none⟩) (nb1 x ++ (bytesOf x.exprs.length ++ (x.exprs.take j).flatMap stepsB)).length c ∧ Own w.heap.size wr b (nb1 x ++ (bytesOf x.exprs.length ++ (x.exprs.take j).flatMap stepsB)) ∧ Kb w.heap.size w wr := by
  obtain ⟨j, h1, h2, h3, h4⟩ := h
  obtain ⟨g, c, hv⟩ := h3.someOf (by simp [bytesOf_ne])
  exact ⟨j, g, c, h1, h2, hv, h3, h4⟩
theorem nbI2.out {w : World} {cur : List Int} {y : List V} {m k : Nat} {b i : Value} {wr : World} (h : nbI2 w cur y m k b i wr) : ∃ (j : Nat) (g c : Nat), j + k = m ∧ i = .int .i64 (j : Int) ∧ b = .slice (some ⟨g, 0, none⟩) (cur ++ (bytesOf y.length ++ (y.take j).flatMap stepB)).length c ∧ Own w.heap.size wr b (cur ++ (bytesOf y.length ++ (y.take j).flatMap stepB)) ∧ Kb w.heap.size w wr := by
  obtain ⟨j, h1, h2, h3, h4⟩ := h
  obtain ⟨g, c, hv⟩ := h3.someOf (by simp [bytesOf_ne])
  exact ⟨j, g, c, h1, h2, hv, h3, h4⟩

set_option maxHeartbeats 16000000 in
theorem rnodeBytes_any (w : World) (x : Nd) (s : NdS) (hx : NdR w.heap.size w x s) (hok : NdOK x) :
    Calls Try.prog 29 #[ndV x s] w (NewAns (nodeB x) w) := by
  obtain ⟨i0, hi, hz0, hz1, hz2⟩ := info_parts Try.info5
  have hlen := len_node hok
  have HX := hid' hx
  have HOK := hid' hok
  have KB0 := hid' ((Kb.refl w.heap.size w).alloc (ndObj x s))
  have BX0 := hid' (Bx.new w (ndCs' x s) 44)
  have H1 := hid' (rone_any (w.alloc (ndObj x s)) x.kind hok.kind)
  clear hx hok
  unfold ndV
  unfold ndObj at KB0 H1
  unfold ndCs' at BX0
  go_enter Try.func29, Try.ntmps29
  go_wp2_with fail
  refine H1.out.mono ?_
  rintro e w1 ⟨u, rfl, hown, hbel⟩
  obtain ⟨g1, c1, hu⟩ := hown.someOf (oneB_ne _)
  subst hu
  have K1 := hid' (KB0.out.trans (Kb.of_below hbel))
  have HO := hid' (Own.base hown (show w.heap.size ≤ _ by simp))
  have BX := hid' (BX0.out.keep hbel)
  have hs1 : w.heap.size ≤ w1.heap.size := K1.out.size
  have HC : Hid (∀ W, Kb w.heap.size w1 W → W.cell? ⟨w.heap.size, 1, none⟩ = some (.slice s.a1 x.ins.length s.c1) ∧ W.cell? ⟨w.heap.size, 2, none⟩ = some (.slice s.a2 x.kinds.length s.c2)) := fun W hk => ⟨(BX.out.kb hk (by decide)).cell 1, (BX.out.kb hk (by decide)).cell 2⟩
  have HCL0 : Hid (∀ W, Kb w.heap.size w1 W → Calls Try.prog 27 #[.slice s.a1 x.ins.length s.c1] W fun e w' => ∃ v, e = .returned v ∧ Below W.heap.size W w' ∧ NewB (listB oneB x.ins) v w') := fun W hk => NewAns.newB' (rlist_any W s.a1 s.c1 x.ins ((HX.out.ins.keep ((K1.out.trans hk).below (Nat.le_refl _))).mono (K1.out.trans hk).size) HOK.out.ins (by have := HOK.out.n1; omega)) (listB_ne _ _)
  have HCL1 : Hid (∀ W, Kb w.heap.size w1 W → Calls Try.prog 27 #[.slice s.a2 x.kinds.length s.c2] W fun e w' => ∃ v, e = .returned v ∧ Below W.heap.size W w' ∧ NewB (listB oneB x.kinds) v w') := fun W hk => NewAns.newB' (rlist_any W s.a2 s.c2 x.kinds ((HX.out.kinds.keep ((K1.out.trans hk).below (Nat.le_refl _))).mono (K1.out.trans hk).size) HOK.out.kinds (by have := HOK.out.n2; omega)) (listB_ne _ _)
  have HLN0 : Hid ((oneB x.kind ++ listB oneB x.ins).length ≤ 1000000000) := (by
    simp only [nodeB, numsB, exprsB, List.length_append] at hlen ⊢
    omega : _ ≤ _)
  have HLN1 : Hid (((oneB x.kind ++ listB oneB x.ins) ++ listB oneB x.kinds).length ≤ 1000000000) := (by
    simp only [nodeB, numsB, exprsB, List.length_append] at hlen ⊢
    omega : _ ≤ _)
  clear hown hbel H1 KB0 BX0
  go_wp2_with fail
  generalize hA0 : Act.mk _ _ = A0
  have eS : PB.slot A0 3 = .slice (some ⟨g1, 0, none⟩) (oneB x.kind).length c1 := by rw [← hA0]; rfl
  have eB : PB.slot A0 1 = .pointer (some ⟨w.heap.size, 0, none⟩) := by rw [← hA0]; rfl
  have eN : A0.tmps.size = 96 := by rw [← hA0]; rfl
  have hFit : Fits 10 2 3 A0 := ⟨by omega, by omega, by omega, by omega⟩
  refine PB.wp_region_invT (RC 10 2 3 (.slice (some ⟨g1, 0, none⟩) (oneB x.kind).length c1) w.heap.size (oneB x.kind) (xsC2 (listB oneB x.ins) (listB oneB x.kinds)) (pvC2 (.slice (some ⟨g1, 0, none⟩) (oneB x.kind).length c1) (.pointer (some ⟨w.heap.size, 1, none⟩)) (.slice s.a1 x.ins.length s.c1) (.pointer (some ⟨w.heap.size, 2, none⟩)) (.slice s.a2 x.kinds.length s.c2)) A0 w1) mixedC (by kernel_rfl) (RC.start HO.out) ?_ ?_
  · refine ⟨?_, ?_, ?_, ?_, ?_, ?_, ?_, ?_, ?_, ?_, trivial⟩ <;> intro L A W hl hw hI
    · exact PB.inv_value (PB.wanted_free rfl) (run_moveC W ((hI.dD (by cases hh : L (4 * 2 + 1) with | false => rfl | true => (rw [hI.zero hh] at hl; cases hl))).trans eS)) (hI.pureS hFit (i := 0) (.inl rfl) rfl)
    · exact PB.inv_value (PB.wanted_free rfl) (run_faNode1 W ((hI.oth 1 (by omega) (by omega)).trans eB)) (hI.pureS hFit (i := 1) (.inr ⟨by omega, by omega⟩) rfl)
    · exact PB.inv_value (PB.wanted_free rfl) (run_ldL W (hI.pure 1 _ rfl (hw 1 rfl)) (HC.out W hI.kb).1) (hI.pureS hFit (i := 2) (.inr ⟨by omega, by omega⟩) rfl)
    · refine ⟨PB.wanted_free rfl, Oper.wp_mono (fun a' w' h' => ?_) (PB.does_call (ops := #[]) (p := NewB (listB oneB x.ins)) #[.slice s.a1 x.ins.length s.c1] (PB.wanted_free rfl) rfl Try.func27 rfl rfl (by show [PB.slot A 12] = _; rw [show PB.slot A 12 = .slice s.a1 x.ins.length s.c1 from hI.pure 2 _ rfl (hw 2 rfl)]) (HCL0.out W hI.kb)).2⟩
      obtain ⟨v, rfl, hb2, hp⟩ := h'
      exact hI.callS hFit pvC2_ok (r := 0) (by omega) hl (.inl rfl) hb2 hp
    · exact ⟨PB.wanted_free rfl, wp_chain hI hFit pvC2_ok (r := 0) (by omega) hl (hw 3 rfl) (fun _ => hI.pure 0 _ rfl (hw 0 rfl)) rfl rfl HLN0.out hs1⟩
    · exact PB.inv_value (PB.wanted_free rfl) (run_faNode2 W ((hI.oth 1 (by omega) (by omega)).trans eB)) (hI.pureS hFit (i := 5) (.inr ⟨by omega, by omega⟩) rfl)
    · exact PB.inv_value (PB.wanted_free rfl) (run_ldL W (hI.pure 5 _ rfl (hw 5 rfl)) (HC.out W hI.kb).2) (hI.pureS hFit (i := 6) (.inr ⟨by omega, by omega⟩) rfl)
    · refine ⟨PB.wanted_free rfl, Oper.wp_mono (fun a' w' h' => ?_) (PB.does_call (ops := #[]) (p := NewB (listB oneB x.kinds)) #[.slice s.a2 x.kinds.length s.c2] (PB.wanted_free rfl) rfl Try.func27 rfl rfl (by show [PB.slot A 16] = _; rw [show PB.slot A 16 = .slice s.a2 x.kinds.length s.c2 from hI.pure 6 _ rfl (hw 6 rfl)]) (HCL1.out W hI.kb)).2⟩
      obtain ⟨v, rfl, hb2, hp⟩ := h'
      exact hI.callS hFit pvC2_ok (r := 1) (by omega) hl (.inr (hw 4 rfl)) hb2 hp
    · exact ⟨PB.wanted_free rfl, wp_chain hI hFit pvC2_ok (r := 1) (by omega) hl (hw 7 rfl) (fun h => absurd h (by omega)) rfl rfl HLN1.out hs1⟩
    · exact PB.inv_value (PB.wanted_free rfl) (run_assignC W rfl) (hI.asgS hFit pvC2_ok (fun q hq => by rcases (show q = 0 ∨ q = 1 by omega) with rfl | rfl; exact hw 4 rfl; exact hw 8 rfl) (hw 0 rfl))
  · intro L A W hall hI
    obtain ⟨hoD, hkD⟩ := hI.done hFit (fun k hk => hall k hk)
    have hA := frame_puts hI.defers hI.size [3, 10, 11, 12, 13, 14, 15, 16, 17, 18] (fun t ht => hI.oth t (by rintro rfl; simp at ht) (by simp at ht; omega))
    clear hI hall
    rw [hA, ← hA0]
    simp only [puts]
    generalize hvD : PB.slot A 3 = vD at hoD ⊢
    generalize PB.slot A 10 = f10
    generalize PB.slot A 11 = f11
    generalize PB.slot A 12 = f12
    generalize PB.slot A 13 = f13
    generalize PB.slot A 14 = f14
    generalize PB.slot A 15 = f15
    generalize PB.slot A 16 = f16
    generalize PB.slot A 17 = f17
    generalize PB.slot A 18 = f18
    clear hA hA0 eS eB eN hFit hvD
    simp only [Act.put, List.setIfInBounds_toArray, List.set_cons_succ, List.set_cons_zero]
    have hoD : Own w.heap.size W vD (nb1 x) := hoD
    obtain ⟨g2, c2, hvv⟩ := hoD.someOf (by unfold nb1; simp [oneB_ne])
    subst hvv
    have K2 := hid' (K1.out.trans hkD)
    replace BX := hid' (BX.out.kb hkD (by decide))
    have k3 : W.cell? ⟨w.heap.size, 3, none⟩ = some (.slice s.a3 x.exprs.length s.c3) := BX.out.cell 3
    have hs2 : w.heap.size ≤ W.heap.size := K2.out.size
    have HLE : Hid ((nb1 x ++ listB stepsB x.exprs).length ≤ 1000000000) := (by
      simp only [nodeB, numsB, exprsB, nb1, List.length_append] at hlen ⊢
      omega : _ ≤ _)
    have HLC : Hid (((nb1 x ++ listB stepsB x.exprs) ++ listB oneB x.cols).length ≤ 1000000000) := (by
      simp only [nodeB, numsB, exprsB, nb1, List.length_append] at hlen ⊢
      omega : _ ≤ _)
    have HLK : Hid (((nb1 x ++ listB stepsB x.exprs) ++ listB oneB x.cols ++ oneB x.key).length ≤ 1000000000 ∧ ((nb1 x ++ listB stepsB x.exprs) ++ listB oneB x.cols ++ oneB x.key ++ oneB x.n).length ≤ 1000000000 ∧ ((nb1 x ++ listB stepsB x.exprs) ++ listB oneB x.cols ++ oneB x.key ++ oneB x.n ++ oneB x.size).length ≤ 1000000000 ∧ ((nb1 x ++ listB stepsB x.exprs) ++ listB oneB x.cols ++ oneB x.key ++ oneB x.n ++ oneB x.size ++ oneB x.slide).length ≤ 1000000000) := (by
      simp only [nodeB, numsB, exprsB, nb1, List.length_append] at hlen ⊢
      omega : _ ∧ _)
    have HEQ : Hid ((nb1 x ++ listB stepsB x.exprs) ++ listB oneB x.cols ++ oneB x.key ++ oneB x.n ++ oneB x.size ++ oneB x.slide = nodeB x) := (by
      unfold nodeB numsB exprsB nb1
      simp only [List.append_assoc] : _ = _)
    obtain ⟨m, hm⟩ : ∃ m, x.exprs.length = m := ⟨_, rfl⟩
    have HM := hid' hm
    have hmle : m ≤ 16 := by rw [← hm]; exact HOK.out.n3
    have HP := hid' (bytes_any W m (by omega))
    have HO2 := hid' hoD
    have HXE := hid' HX.out.exprs
    rw [hm] at k3
    have CE : Hid (∀ Z, Kb w.heap.size W Z → Z.cell? ⟨w.heap.size, 3, none⟩ = some (.slice s.a3 m s.c3)) := fun Z hk => (by
      have := (BX.out.kb hk (by decide)).cell 3
      simp only [List.getElem?_toArray, List.getElem?_cons_zero, List.getElem?_cons_succ, HM.out] at this
      exact this)
    clear hlen hoD hkD HC HCL0 HCL1 HLN0 HLN1 HO hm K1 hs1
    go_wp2_with fail
    refine HP.out.mono ?_
    rintro e w3 ⟨g3, c3, rfl, hown3, hbel3⟩
    have HW := hid' (owns_below HO2.out hbel3)
    have HN2 := hid' (hown3.cells rfl)
    have hs3 : w.heap.size ≤ w3.heap.size := Nat.le_trans hs2 hbel3.size
    have HLL : Hid ((nb1 x).length + sz m ≤ 1000000000) := (by
      have h := HLE.out
      simp only [listB, List.length_append, length_bytesOf, HM.out] at h ⊢
      omega : _ ≤ _)
    have K3 := hid' (Kb.of_below (base := w.heap.size) hbel3)
    clear hown3 hbel3 HP k3
    go_wp2_with (first
      | (at_builtin; refine wpList_append_own _ rfl (.tmp 19) (.tmp 24) 28 rfl w.heap.size 5 i0 (.int .u8 0) 1 1 Try.underlying28 hi hz0 hz1 hz2 rfl (by decide) (.slice (some ⟨g2, 0, none⟩) (nb1 x).length c2) (nb1 x).length (B8 (nb1 x)) rfl HW.out ⟨g3, 0, none⟩ (sz m) c3 (B8 (bytesOf m)) rfl (by rw [length_B8, length_bytesOf]; omega) HN2.out (B8_one _) (by have := HLL.out; unfold maxLen; omega) (by have := HLL.out; omega) hs3 ?_; intro v' w4 hown1 hgrow1 hnil1))
    have K4 := hid' (K3.out.trans (Kb.grown hgrow1 HW.out))
    have I0 : Hid (nbI1 w x m m v' (.int .i64 ((0 : Nat) : Int)) w4) := ⟨0, by omega, rfl, (by
      simp only [List.take_zero, List.flatMap_nil, List.append_nil, HM.out]
      exact app_own (l := nb1 x) (r := bytesOf m) (by rw [length_bytesOf]; exact hown1)), K2.out.trans K4.out⟩
    have CE1 : Hid (∀ Z, Kb w.heap.size w4 Z → Z.cell? ⟨w.heap.size, 3, none⟩ = some (.slice s.a3 m s.c3)) := fun Z hk => CE.out Z (K4.out.trans hk)
    have K40 := hid' (K2.out.trans K4.out)
    have BX4 := hid' (BX.out.kb K4.out (by decide))
    clear hown1 hgrow1 hnil1 HW HN2 HLL K3 K4 CE BX HO2 hs3 hs2 K2
    go_wp2
    go_loopg [3, 4] m (fun k b i wr => nbI1 w x m k b i wr ∧ Kb w.heap.size w4 wr)
    case atStart => exact ⟨I0.out, Kb.refl _ _⟩
    case round =>
      clear I0
      obtain ⟨hrel, hk4⟩ := hrel
      obtain ⟨j, gb, cb, hj, rfl, rfl, hown, hkw⟩ := hrel.out
      clear hrel
      have d3 := CE1.out wr hk4
      have hsr : w.heap.size ≤ wr.heap.size := hkw.size
      cases gk with
      | succ k =>
        have hjl : j < x.exprs.length := by rw [HM.out]; omega
        obtain ⟨b1, o1, hsa, hB1, hc1⟩ := HXE.out.cells (by intro h; rw [h] at hjl; simp at hjl)
        rw [hsa] at d3
        have CE2 : Hid (∀ Z, Kb w.heap.size w4 Z → Z.cell? ⟨w.heap.size, 3, none⟩ = some (.slice (some ⟨b1, o1, none⟩) m s.c3)) := fun Z hk => (by
          have := CE1.out Z hk
          rw [hsa] at this
          exact this)
        clear hsa
        obtain ⟨ya, yc, q1, v1⟩ := hc1 j hjl
        have HLj := hid' (len_take stepsB x.exprs (nb1 x) j [] hjl HLE.out)
        have HSj := hid' (flat_step stepsB x.exprs (nb1 x) j [] hjl)
        have HYK := hid' (HOK.out.exprs _ (getD_mem (d := []) hjl))
        generalize hyy : x.exprs.getD j [] = y at *
        obtain ⟨n1, hn1⟩ : ∃ n1, y.length = n1 := ⟨_, rfl⟩
        have HN1 := hid' hn1
        have hn1le : n1 ≤ 64 := by rw [← hn1]; exact HYK.out.1
        rw [hn1] at q1
        have CQ : Hid (∀ Z, Kb w.heap.size w Z → Z.cell? ⟨b1, o1 + j, none⟩ = some (.slice ya n1 yc)) := fun Z hk => ((hk.below (Nat.le_refl _)).cell (p := ⟨b1, o1 + j, none⟩) hB1).trans q1
        have V1 := hid' v1
        have q1 := CQ.out wr hkw
        generalize hcur : nb1 x ++ (bytesOf x.exprs.length ++ (x.exprs.take j).flatMap stepsB) = cur at *
        have HO := hid' hown
        have HP := hid' (bytes_any wr n1 (by omega))
        have HKW := hid' hkw
        have HK4 := hid' hk4
        clear hc1 hjl v1 hn1 hyy hown hkw hk4 hcur
        go_wp2_with fail
        refine HP.out.mono ?_
        rintro e w5 ⟨g5, c5, rfl, hown5, hbel5⟩
        have HW := hid' (owns_below HO.out hbel5)
        have HN2 := hid' (hown5.cells rfl)
        have hs5 : w.heap.size ≤ w5.heap.size := Nat.le_trans hsr hbel5.size
        have HLL : Hid (cur.length + sz n1 ≤ 1000000000) := (by
          have h := HLj.out
          simp only [stepsB, listB, List.length_append, length_bytesOf, HN1.out] at h ⊢
          omega : _ ≤ _)
        have K5 := hid' (Kb.of_below (base := w.heap.size) hbel5)
        clear hown5 hbel5 HP HO
        go_wp2_with (first
          | (at_builtin; refine wpList_append_own _ rfl (.tmp 33) (.tmp 41) 28 rfl w.heap.size 5 i0 (.int .u8 0) 1 1 Try.underlying28 hi hz0 hz1 hz2 rfl (by decide) (.slice (some ⟨gb, 0, none⟩) (cur).length cb) (cur).length (B8 (cur)) rfl HW.out ⟨g5, 0, none⟩ (sz n1) c5 (B8 (bytesOf n1)) rfl (by rw [length_B8, length_bytesOf]; omega) HN2.out (B8_one _) (by have := HLL.out; unfold maxLen; omega) (by have := HLL.out; omega) hs5 ?_; intro v' w6 hown1 hgrow1 hnil1))
        have K6 := hid' (K5.out.trans (Kb.grown hgrow1 HW.out))
        have I2 : Hid (nbI2 w cur y n1 n1 v' (.int .i64 ((0 : Nat) : Int)) w6) := ⟨0, by omega, rfl, (by
          simp only [List.take_zero, List.flatMap_nil, List.append_nil, HN1.out]
          exact app_own (l := cur) (r := bytesOf n1) (by rw [length_bytesOf]; exact hown1)), HKW.out.trans K6.out⟩
        have HK46 := hid' (HK4.out.trans K6.out)
        clear hown1 hgrow1 hnil1 HW HN2 HLL K5 K6 d3 q1 hs5 HKW HK4
        go_wp2
        obtain ⟨wO, hO⟩ : ∃ z, z = wr := ⟨_, rfl⟩
        subst hO
        go_loopg [3, 5] n1 (fun k b i wr => nbI2 w cur y n1 k b i wr ∧ Kb w.heap.size w4 wr)
        case atStart => exact ⟨I2.out, HK46.out⟩
        case round =>
          clear I2
          obtain ⟨hrel, hk4⟩ := hrel
          obtain ⟨j2, gb2, cb2, hj2, rfl, rfl, hown, hkw⟩ := hrel.out
          clear hrel
          have d3 := CE2.out wr hk4
          have q1 := CQ.out wr hkw
          have hsr2 : w.heap.size ≤ wr.heap.size := hkw.size
          cases gk with
          | zero =>
            obtain rfl : j2 = n1 := by omega
            have R : Hid (nbI1 w x m k (.slice (some ⟨gb2, 0, none⟩) (cur ++ (bytesOf y.length ++ (y.take j2).flatMap stepB)).length cb2) (.int .i64 ((j : Int) + 1)) wr ∧ Kb w.heap.size w4 wr) := ⟨⟨j + 1, by omega, by simp, (by
              rw [← HSj.out]
              have h := hown
              rw [List.take_of_length_le (Nat.le_of_eq HN1.out)] at h ⊢
              exact h), hkw⟩, hk4⟩
            clear hown hkw hk4
            generalize (cur ++ (bytesOf y.length ++ (y.take j2).flatMap stepB)).length = ln at *
            go_wp2
            go_roundg k
            case measure => omega
            case rel => exact R.out
          | succ k2 =>
            have hje : j2 < y.length := by rw [HN1.out]; omega
            obtain ⟨b5, o5, rfl, hB5, hc5⟩ := V1.out.cells (by rintro rfl; simp at hje)
            have p1 := ((hkw.below (Nat.le_refl _)).cell (p := ⟨b5, o5 + j2 * 3, none⟩) hB5).trans (hc5 j2 hje).1
            have p2 := ((hkw.below (Nat.le_refl _)).cell (p := ⟨b5, o5 + j2 * 3 + 1, none⟩) hB5).trans (hc5 j2 hje).2.1
            have p3 := ((hkw.below (Nat.le_refl _)).cell (p := ⟨b5, o5 + j2 * 3 + 2, none⟩) hB5).trans (hc5 j2 hje).2.2
            have HLt := hid' (len_take stepB y cur j2 d0 hje HLj.out)
            have HSt := hid' (flat_step stepB y cur j2 d0 hje)
            have HTK := hid' (HYK.out.2 _ (getD_mem (d := d0) hje))
            generalize htt : y.getD j2 d0 = t at *
            obtain ⟨t0, t1, t2⟩ := t
            generalize hcur2 : cur ++ (bytesOf y.length ++ (y.take j2).flatMap stepB) = cur2 at *
            simp only at p1 p2 p3
            have KT := hid' ((Kb.refl w.heap.size wr).alloc (Obj.cells #[.int .i64 t0, .int .i64 t1, .string t2] 64))
            have BT := hid' (Bx.new wr #[.int .i64 t0, .int .i64 t1, .string t2] 64)
            have HO : Hid (Own w.heap.size (wr.alloc (Obj.cells #[.int .i64 t0, .int .i64 t1, .string t2] 64)) (.slice (some ⟨gb2, 0, none⟩) cur2.length cb2) cur2) := Own.kb_alloc hown _
            have hst : w.heap.size ≤ (wr.alloc (Obj.cells #[.int .i64 t0, .int .i64 t1, .string t2] 64)).heap.size := by simp; omega
            obtain ⟨wT, hwT⟩ : ∃ z, wr.alloc (Obj.cells #[.int .i64 t0, .int .i64 t1, .string t2] 64) = z := ⟨_, rfl⟩
            have HWT := hid' hwT
            rw [hwT] at KT BT HO hst
            have HC : Hid (∀ W, Kb w.heap.size wT W → W.cell? ⟨wr.heap.size, 0, none⟩ = some (.int .i64 t0) ∧ W.cell? ⟨wr.heap.size, 1, none⟩ = some (.int .i64 t1) ∧ W.cell? ⟨wr.heap.size, 2, none⟩ = some (.string t2)) := fun W hk => ⟨(BT.out.kb hk (by decide)).cell 0, (BT.out.kb hk (by decide)).cell 1, (BT.out.kb hk (by decide)).cell 2⟩
            have HCL0 : Hid (∀ W, Kb w.heap.size wT W → Calls Try.prog 26 #[.int .i64 t0] W fun e w' => ∃ v, e = .returned v ∧ Below W.heap.size W w' ∧ NewB (oneB t0) v w') := fun W hk => NewAns.newB' (rone_any W t0 HTK.out.op) (oneB_ne _)
            have HCL1 : Hid (∀ W, Kb w.heap.size wT W → Calls Try.prog 26 #[.int .i64 t1] W fun e w' => ∃ v, e = .returned v ∧ Below W.heap.size W w' ∧ NewB (oneB t1) v w') := fun W hk => NewAns.newB' (rone_any W t1 HTK.out.int) (oneB_ne _)
            have HCL2 : Hid (∀ W, Kb w.heap.size wT W → Calls Try.prog 54 #[.string t2] W fun e w' => ∃ v, e = .returned v ∧ Below W.heap.size W w' ∧ NewB (strB t2) v w') := fun W hk => rtext_new W t2 (by have := HTK.out.str; simp only at this; omega)
            have hlt := HLt.out
            have HLN0 : Hid ((cur2 ++ oneB t0).length ≤ 1000000000) := (by simp only [stepB, List.length_append] at hlt ⊢; omega : _ ≤ _)
            have HLN1 : Hid (((cur2 ++ oneB t0) ++ oneB t1).length ≤ 1000000000) := (by simp only [stepB, List.length_append] at hlt ⊢; omega : _ ≤ _)
            have HLN2 : Hid ((((cur2 ++ oneB t0) ++ oneB t1) ++ strB t2).length ≤ 1000000000) := (by simp only [stepB, List.length_append] at hlt ⊢; omega : _ ≤ _)
            have HKW := hid' hkw
            have HK4 := hid' hk4
            clear hc5 hje htt hown hkw hk4 hcur2 hwT hlt HLt BT
            go_wp2_with fail
            rw [HWT.out]
            generalize hA0 : Act.mk _ _ = A0
            have eS : PB.slot A0 3 = .slice (some ⟨gb2, 0, none⟩) cur2.length cb2 := by rw [← hA0]; rfl
            have eB : PB.slot A0 6 = .pointer (some ⟨wr.heap.size, 0, none⟩) := by rw [← hA0]; rfl
            have eN : A0.tmps.size = 96 := by rw [← hA0]; rfl
            have hFit : Fits 61 3 3 A0 := ⟨by omega, by omega, by omega, by omega⟩
            refine PB.wp_region_invT (RC 61 3 3 (.slice (some ⟨gb2, 0, none⟩) cur2.length cb2) w.heap.size (cur2) (xsC3 (oneB t0) (oneB t1) (strB t2)) (pvC3 (.slice (some ⟨gb2, 0, none⟩) cur2.length cb2) (.pointer (some ⟨wr.heap.size, 0, none⟩)) (.int .i64 t0) (.pointer (some ⟨wr.heap.size, 1, none⟩)) (.int .i64 t1) (.pointer (some ⟨wr.heap.size, 2, none⟩)) (.string t2)) A0 wT) mixedC (by kernel_rfl) (RC.start HO.out) ?_ ?_
            · refine ⟨?_, ?_, ?_, ?_, ?_, ?_, ?_, ?_, ?_, ?_, ?_, ?_, ?_, ?_, trivial⟩ <;> intro L A W hl hw hI
              · exact PB.inv_value (PB.wanted_free rfl) (run_moveC W ((hI.dD (by cases hh : L (4 * 3 + 1) with | false => rfl | true => (rw [hI.zero hh] at hl; cases hl))).trans eS)) (hI.pureS hFit (i := 0) (.inl rfl) rfl)
              · exact PB.inv_value (PB.wanted_free rfl) (run_faTerm0 W ((hI.oth 6 (by omega) (by omega)).trans eB)) (hI.pureS hFit (i := 1) (.inr ⟨by omega, by omega⟩) rfl)
              · exact PB.inv_value (PB.wanted_free rfl) (run_ldZ W (hI.pure 1 _ rfl (hw 1 rfl)) (HC.out W hI.kb).1) (hI.pureS hFit (i := 2) (.inr ⟨by omega, by omega⟩) rfl)
              · refine ⟨PB.wanted_free rfl, Oper.wp_mono (fun a' w' h' => ?_) (PB.does_call (ops := #[]) (p := NewB (oneB t0)) #[.int .i64 t0] (PB.wanted_free rfl) rfl Try.func26 rfl rfl (by show [PB.slot A 63] = _; rw [show PB.slot A 63 = .int .i64 t0 from hI.pure 2 _ rfl (hw 2 rfl)]) (HCL0.out W hI.kb)).2⟩
                obtain ⟨v, rfl, hb2, hp⟩ := h'
                exact hI.callS hFit pvC3_ok (r := 0) (by omega) hl (.inl rfl) hb2 hp
              · exact ⟨PB.wanted_free rfl, wp_chain hI hFit pvC3_ok (r := 0) (by omega) hl (hw 3 rfl) (fun _ => hI.pure 0 _ rfl (hw 0 rfl)) rfl rfl HLN0.out hst⟩
              · exact PB.inv_value (PB.wanted_free rfl) (run_faTerm1 W ((hI.oth 6 (by omega) (by omega)).trans eB)) (hI.pureS hFit (i := 5) (.inr ⟨by omega, by omega⟩) rfl)
              · exact PB.inv_value (PB.wanted_free rfl) (run_ldZ W (hI.pure 5 _ rfl (hw 5 rfl)) (HC.out W hI.kb).2.1) (hI.pureS hFit (i := 6) (.inr ⟨by omega, by omega⟩) rfl)
              · refine ⟨PB.wanted_free rfl, Oper.wp_mono (fun a' w' h' => ?_) (PB.does_call (ops := #[]) (p := NewB (oneB t1)) #[.int .i64 t1] (PB.wanted_free rfl) rfl Try.func26 rfl rfl (by show [PB.slot A 67] = _; rw [show PB.slot A 67 = .int .i64 t1 from hI.pure 6 _ rfl (hw 6 rfl)]) (HCL1.out W hI.kb)).2⟩
                obtain ⟨v, rfl, hb2, hp⟩ := h'
                exact hI.callS hFit pvC3_ok (r := 1) (by omega) hl (.inr (hw 4 rfl)) hb2 hp
              · exact ⟨PB.wanted_free rfl, wp_chain hI hFit pvC3_ok (r := 1) (by omega) hl (hw 7 rfl) (fun h => absurd h (by omega)) rfl rfl HLN1.out hst⟩
              · exact PB.inv_value (PB.wanted_free rfl) (run_faTerm2 W ((hI.oth 6 (by omega) (by omega)).trans eB)) (hI.pureS hFit (i := 9) (.inr ⟨by omega, by omega⟩) rfl)
              · exact PB.inv_value (PB.wanted_free rfl) (run_ldS W (hI.pure 9 _ rfl (hw 9 rfl)) (HC.out W hI.kb).2.2) (hI.pureS hFit (i := 10) (.inr ⟨by omega, by omega⟩) rfl)
              · refine ⟨PB.wanted_free rfl, Oper.wp_mono (fun a' w' h' => ?_) (PB.does_call (ops := #[]) (p := NewB (strB t2)) #[.string t2] (PB.wanted_free rfl) rfl Try.func54 rfl rfl (by show [PB.slot A 71] = _; rw [show PB.slot A 71 = .string t2 from hI.pure 10 _ rfl (hw 10 rfl)]) (HCL2.out W hI.kb)).2⟩
                obtain ⟨v, rfl, hb2, hp⟩ := h'
                exact hI.callS hFit pvC3_ok (r := 2) (by omega) hl (.inr (hw 8 rfl)) hb2 hp
              · exact ⟨PB.wanted_free rfl, wp_chain hI hFit pvC3_ok (r := 2) (by omega) hl (hw 11 rfl) (fun h => absurd h (by omega)) rfl rfl HLN2.out hst⟩
              · exact PB.inv_value (PB.wanted_free rfl) (run_assignC W rfl) (hI.asgS hFit pvC3_ok (fun q hq => by rcases (show q = 0 ∨ q = 1 ∨ q = 2 by omega) with rfl | rfl | rfl; exact hw 4 rfl; exact hw 8 rfl; exact hw 12 rfl) (hw 0 rfl))
            · intro L A W hall hI
              obtain ⟨hoD, hkD⟩ := hI.done hFit (fun k hk => hall k hk)
              have hA := frame_puts hI.defers hI.size [3, 61, 62, 63, 64, 65, 66, 67, 68, 69, 70, 71, 72, 73] (fun t ht => hI.oth t (by rintro rfl; simp at ht) (by simp at ht; omega))
              clear hI hall
              rw [hA, ← hA0]
              simp only [puts]
              generalize hvD : PB.slot A 3 = vD at hoD ⊢
              generalize PB.slot A 61 = f61
              generalize PB.slot A 62 = f62
              generalize PB.slot A 63 = f63
              generalize PB.slot A 64 = f64
              generalize PB.slot A 65 = f65
              generalize PB.slot A 66 = f66
              generalize PB.slot A 67 = f67
              generalize PB.slot A 68 = f68
              generalize PB.slot A 69 = f69
              generalize PB.slot A 70 = f70
              generalize PB.slot A 71 = f71
              generalize PB.slot A 72 = f72
              generalize PB.slot A 73 = f73
              clear hA hA0 eS eB eN hFit hvD
              simp only [Act.put, List.setIfInBounds_toArray, List.set_cons_succ, List.set_cons_zero]
              have R : Hid (nbI2 w cur y n1 k2 vD (.int .i64 ((j2 : Int) + 1)) W ∧ Kb w.heap.size w4 W) := ⟨⟨j2 + 1, by omega, by simp, (by
                rw [← HSt.out]
                have h : Own w.heap.size W vD (((cur2 ++ oneB t0) ++ oneB t1) ++ strB t2) := hoD
                unfold stepB
                simp only [List.append_assoc] at h ⊢
                exact h), HKW.out.trans (KT.out.trans hkD)⟩, HK4.out.trans (KT.out.trans hkD)⟩
              obtain ⟨gD, cD, hvD⟩ := Own.someOf hoD (by show _ ++ strB t2 ≠ []; unfold strB; simp [bytesOf_ne])
              subst hvD
              generalize (pre cur2 (xsC3 (oneB t0) (oneB t1) (strB t2)) 3).length = ln at *
              clear hoD hkD HC HCL0 HCL1 HCL2 HLN0 HLN1 HLN2 HKW HK4 KT HO HWT p1 p2 p3 d3 q1
              go_wp2
              go_roundg k2
              case measure => omega
              case rel => exact R.out
      | zero =>
        obtain rfl : j = m := by omega
        have hown : Own w.heap.size wr (.slice (some ⟨gb, 0, none⟩) (nb1 x ++ (bytesOf x.exprs.length ++ (x.exprs.take j).flatMap stepsB)).length cb) (nb1 x ++ listB stepsB x.exprs) := by
          have h := hown
          rw [List.take_of_length_le (Nat.le_of_eq HM.out)] at h ⊢
          exact h
        have hle : (nb1 x ++ (bytesOf x.exprs.length ++ (x.exprs.take j).flatMap stepsB)).length = (nb1 x ++ listB stepsB x.exprs).length := by
          rw [List.take_of_length_le (Nat.le_of_eq HM.out)]; rfl
        rw [hle] at hown ⊢
        clear hle
        have BXr := hid' (BX4.out.kb hk4 (by decide))
        have c4 : wr.cell? ⟨w.heap.size, 4, none⟩ = some (.slice s.a4 x.cols.length s.c4) := BXr.out.cell 4
        have HP := hid' (rlist_any wr s.a4 s.c4 x.cols ((HX.out.cols.keep (hkw.below (Nat.le_refl _))).mono hkw.size) HOK.out.cols (by have := HOK.out.n4; omega))
        generalize hc1 : nb1 x ++ listB stepsB x.exprs = cur at *
        have HO := hid' hown
        have HKW := hid' hkw
        clear hown hkw hk4 hc1 CE1 K40 BX4 HXE HLE
        go_wp2_with fail
        refine HP.out.mono ?_
        rintro e w5 ⟨v5, rfl, hown5, hbel5⟩
        obtain ⟨g5, c5, hv5⟩ := hown5.someOf (listB_ne _ _)
        subst hv5
        have HW := hid' (owns_below HO.out hbel5)
        have HN2 := hid' (hown5.cells rfl)
        have hs5 : w.heap.size ≤ w5.heap.size := Nat.le_trans hsr hbel5.size
        have HLL : Hid (cur.length + (listB oneB x.cols).length ≤ 1000000000) := (by have h := HLC.out; rwa [List.length_append] at h : _ ≤ _)
        have K5 := hid' (Kb.of_below (base := w.heap.size) hbel5)
        clear hown5 hbel5 HP HO c4 d3
        go_wp2_with (first
          | (at_builtin; refine wpList_append_own _ rfl (.tmp 74) (.tmp 77) 28 rfl w.heap.size 5 i0 (.int .u8 0) 1 1 Try.underlying28 hi hz0 hz1 hz2 rfl (by decide) (.slice (some ⟨gb, 0, none⟩) (cur).length cb) (cur).length (B8 (cur)) rfl HW.out ⟨g5, 0, none⟩ (listB oneB x.cols).length c5 (B8 (listB oneB x.cols)) rfl (by rw [length_B8]; omega) HN2.out (B8_one _) (by have := HLL.out; unfold maxLen; omega) (by have := HLL.out; omega) hs5 ?_; intro v' w6 hown1 hgrow1 hnil1))
        have K6 := hid' (K5.out.trans (Kb.grown hgrow1 HW.out))
        have hown6 : Own w.heap.size w6 v' (cur ++ listB oneB x.cols) := app_own hown1
        obtain ⟨g6, c6, hv6⟩ := hown6.someOf (by simp [listB_ne])
        subst hv6
        generalize hc2 : cur ++ listB oneB x.cols = cur2 at *
        have HO := hid' hown6
        have BX6 := hid' (BXr.out.kb K6.out (by decide))
        have hs6 : w.heap.size ≤ w6.heap.size := Nat.le_trans hsr K6.out.size
        have K60 := hid' (HKW.out.trans K6.out)
        have HC : Hid (∀ W, Kb w.heap.size w6 W → W.cell? ⟨w.heap.size, 5, none⟩ = some (.int .i64 x.key) ∧ W.cell? ⟨w.heap.size, 6, none⟩ = some (.int .i64 x.n) ∧ W.cell? ⟨w.heap.size, 7, none⟩ = some (.int .i64 x.size) ∧ W.cell? ⟨w.heap.size, 8, none⟩ = some (.int .i64 x.slide)) := fun W hk => ⟨(BX6.out.kb hk (by decide)).cell 5, (BX6.out.kb hk (by decide)).cell 6, (BX6.out.kb hk (by decide)).cell 7, (BX6.out.kb hk (by decide)).cell 8⟩
        have HCL0 : Hid (∀ W, Kb w.heap.size w6 W → Calls Try.prog 26 #[.int .i64 x.key] W fun e w' => ∃ v, e = .returned v ∧ Below W.heap.size W w' ∧ NewB (oneB x.key) v w') := fun W hk => NewAns.newB' (rone_any W _ HOK.out.key) (oneB_ne _)
        have HCL1 : Hid (∀ W, Kb w.heap.size w6 W → Calls Try.prog 26 #[.int .i64 x.n] W fun e w' => ∃ v, e = .returned v ∧ Below W.heap.size W w' ∧ NewB (oneB x.n) v w') := fun W hk => NewAns.newB' (rone_any W _ HOK.out.n) (oneB_ne _)
        have HCL2 : Hid (∀ W, Kb w.heap.size w6 W → Calls Try.prog 26 #[.int .i64 x.size] W fun e w' => ∃ v, e = .returned v ∧ Below W.heap.size W w' ∧ NewB (oneB x.size) v w') := fun W hk => NewAns.newB' (rone_any W _ HOK.out.size) (oneB_ne _)
        have HCL3 : Hid (∀ W, Kb w.heap.size w6 W → Calls Try.prog 26 #[.int .i64 x.slide] W fun e w' => ∃ v, e = .returned v ∧ Below W.heap.size W w' ∧ NewB (oneB x.slide) v w') := fun W hk => NewAns.newB' (rone_any W _ HOK.out.slide) (oneB_ne _)
        have HLN0 := hid' HLK.out.1
        have HLN1 := hid' HLK.out.2.1
        have HLN2 := hid' HLK.out.2.2.1
        have HLN3 := hid' HLK.out.2.2.2
        clear hown1 hgrow1 hnil1 HW HN2 HLL K5 K6 hown6 hc2 BXr HKW HLK HLC BX6
        go_wp2_with fail
        generalize hA0 : Act.mk _ _ = A0
        have eS : PB.slot A0 3 = .slice (some ⟨g6, 0, none⟩) cur2.length c6 := by rw [← hA0]; rfl
        have eB : PB.slot A0 1 = .pointer (some ⟨w.heap.size, 0, none⟩) := by rw [← hA0]; rfl
        have eN : A0.tmps.size = 96 := by rw [← hA0]; rfl
        have hFit : Fits 79 4 2 A0 := ⟨by omega, by omega, by omega, by omega⟩
        refine PB.wp_region_invT (RC 79 4 2 (.slice (some ⟨g6, 0, none⟩) cur2.length c6) w.heap.size (cur2) (xsC4 (oneB x.key) (oneB x.n) (oneB x.size) (oneB x.slide)) (pvC4 (.slice (some ⟨g6, 0, none⟩) cur2.length c6) (.pointer (some ⟨w.heap.size, 5, none⟩)) (.int .i64 x.key) (.pointer (some ⟨w.heap.size, 6, none⟩)) (.int .i64 x.n) (.pointer (some ⟨w.heap.size, 7, none⟩)) (.int .i64 x.size) (.pointer (some ⟨w.heap.size, 8, none⟩)) (.int .i64 x.slide)) A0 w6) mixedC (by kernel_rfl) (RC.start HO.out) ?_ ?_
        · refine ⟨?_, ?_, ?_, ?_, ?_, ?_, ?_, ?_, ?_, ?_, ?_, ?_, ?_, ?_, ?_, ?_, ?_, ?_, trivial⟩ <;> intro L A W hl hw hI
          · exact PB.inv_value (PB.wanted_free rfl) (run_moveC W ((hI.oth 3 (by omega) (by omega)).trans eS)) (hI.pureS hFit (i := 0) (.inl rfl) rfl)
          · exact PB.inv_value (PB.wanted_free rfl) (run_faNode5 W ((hI.oth 1 (by omega) (by omega)).trans eB)) (hI.pureS hFit (i := 1) (.inr ⟨by omega, by omega⟩) rfl)
          · exact PB.inv_value (PB.wanted_free rfl) (run_ldZ W (hI.pure 1 _ rfl (hw 1 rfl)) (HC.out W hI.kb).1) (hI.pureS hFit (i := 2) (.inr ⟨by omega, by omega⟩) rfl)
          · refine ⟨PB.wanted_free rfl, Oper.wp_mono (fun a' w' h' => ?_) (PB.does_call (ops := #[]) (p := NewB (oneB x.key)) #[.int .i64 x.key] (PB.wanted_free rfl) rfl Try.func26 rfl rfl (by show [PB.slot A 81] = _; rw [show PB.slot A 81 = .int .i64 x.key from hI.pure 2 _ rfl (hw 2 rfl)]) (HCL0.out W hI.kb)).2⟩
            obtain ⟨v, rfl, hb2, hp⟩ := h'
            exact hI.callS hFit pvC4_ok (r := 0) (by omega) hl (.inl rfl) hb2 hp
          · exact ⟨PB.wanted_free rfl, wp_chain hI hFit pvC4_ok (r := 0) (by omega) hl (hw 3 rfl) (fun _ => hI.pure 0 _ rfl (hw 0 rfl)) rfl rfl HLN0.out hs6⟩
          · exact PB.inv_value (PB.wanted_free rfl) (run_faNode6 W ((hI.oth 1 (by omega) (by omega)).trans eB)) (hI.pureS hFit (i := 5) (.inr ⟨by omega, by omega⟩) rfl)
          · exact PB.inv_value (PB.wanted_free rfl) (run_ldZ W (hI.pure 5 _ rfl (hw 5 rfl)) (HC.out W hI.kb).2.1) (hI.pureS hFit (i := 6) (.inr ⟨by omega, by omega⟩) rfl)
          · refine ⟨PB.wanted_free rfl, Oper.wp_mono (fun a' w' h' => ?_) (PB.does_call (ops := #[]) (p := NewB (oneB x.n)) #[.int .i64 x.n] (PB.wanted_free rfl) rfl Try.func26 rfl rfl (by show [PB.slot A 85] = _; rw [show PB.slot A 85 = .int .i64 x.n from hI.pure 6 _ rfl (hw 6 rfl)]) (HCL1.out W hI.kb)).2⟩
            obtain ⟨v, rfl, hb2, hp⟩ := h'
            exact hI.callS hFit pvC4_ok (r := 1) (by omega) hl (.inr (hw 4 rfl)) hb2 hp
          · exact ⟨PB.wanted_free rfl, wp_chain hI hFit pvC4_ok (r := 1) (by omega) hl (hw 7 rfl) (fun h => absurd h (by omega)) rfl rfl HLN1.out hs6⟩
          · exact PB.inv_value (PB.wanted_free rfl) (run_faNode7 W ((hI.oth 1 (by omega) (by omega)).trans eB)) (hI.pureS hFit (i := 9) (.inr ⟨by omega, by omega⟩) rfl)
          · exact PB.inv_value (PB.wanted_free rfl) (run_ldZ W (hI.pure 9 _ rfl (hw 9 rfl)) (HC.out W hI.kb).2.2.1) (hI.pureS hFit (i := 10) (.inr ⟨by omega, by omega⟩) rfl)
          · refine ⟨PB.wanted_free rfl, Oper.wp_mono (fun a' w' h' => ?_) (PB.does_call (ops := #[]) (p := NewB (oneB x.size)) #[.int .i64 x.size] (PB.wanted_free rfl) rfl Try.func26 rfl rfl (by show [PB.slot A 89] = _; rw [show PB.slot A 89 = .int .i64 x.size from hI.pure 10 _ rfl (hw 10 rfl)]) (HCL2.out W hI.kb)).2⟩
            obtain ⟨v, rfl, hb2, hp⟩ := h'
            exact hI.callS hFit pvC4_ok (r := 2) (by omega) hl (.inr (hw 8 rfl)) hb2 hp
          · exact ⟨PB.wanted_free rfl, wp_chain hI hFit pvC4_ok (r := 2) (by omega) hl (hw 11 rfl) (fun h => absurd h (by omega)) rfl rfl HLN2.out hs6⟩
          · exact PB.inv_value (PB.wanted_free rfl) (run_faNode8 W ((hI.oth 1 (by omega) (by omega)).trans eB)) (hI.pureS hFit (i := 13) (.inr ⟨by omega, by omega⟩) rfl)
          · exact PB.inv_value (PB.wanted_free rfl) (run_ldZ W (hI.pure 13 _ rfl (hw 13 rfl)) (HC.out W hI.kb).2.2.2) (hI.pureS hFit (i := 14) (.inr ⟨by omega, by omega⟩) rfl)
          · refine ⟨PB.wanted_free rfl, Oper.wp_mono (fun a' w' h' => ?_) (PB.does_call (ops := #[]) (p := NewB (oneB x.slide)) #[.int .i64 x.slide] (PB.wanted_free rfl) rfl Try.func26 rfl rfl (by show [PB.slot A 93] = _; rw [show PB.slot A 93 = .int .i64 x.slide from hI.pure 14 _ rfl (hw 14 rfl)]) (HCL3.out W hI.kb)).2⟩
            obtain ⟨v, rfl, hb2, hp⟩ := h'
            exact hI.callS hFit pvC4_ok (r := 3) (by omega) hl (.inr (hw 12 rfl)) hb2 hp
          · exact ⟨PB.wanted_free rfl, wp_chain hI hFit pvC4_ok (r := 3) (by omega) hl (hw 15 rfl) (fun h => absurd h (by omega)) rfl rfl HLN3.out hs6⟩
          · exact PB.inv_value (PB.wanted_free rfl) (run_assignC W rfl) (hI.asgS hFit pvC4_ok (fun q hq => by rcases (show q = 0 ∨ q = 1 ∨ q = 2 ∨ q = 3 by omega) with rfl | rfl | rfl | rfl; exact hw 4 rfl; exact hw 8 rfl; exact hw 12 rfl; exact hw 16 rfl) (hw 0 rfl))
        · intro L A W hall hI
          obtain ⟨hoD, hkD⟩ := hI.done hFit (fun k hk => hall k hk)
          have hA := frame_puts hI.defers hI.size [2, 79, 80, 81, 82, 83, 84, 85, 86, 87, 88, 89, 90, 91, 92, 93, 94, 95] (fun t ht => hI.oth t (by rintro rfl; simp at ht) (by simp at ht; omega))
          clear hI hall
          rw [hA, ← hA0]
          simp only [puts]
          generalize hvD : PB.slot A 2 = vD at hoD ⊢
          generalize PB.slot A 79 = f79
          generalize PB.slot A 80 = f80
          generalize PB.slot A 81 = f81
          generalize PB.slot A 82 = f82
          generalize PB.slot A 83 = f83
          generalize PB.slot A 84 = f84
          generalize PB.slot A 85 = f85
          generalize PB.slot A 86 = f86
          generalize PB.slot A 87 = f87
          generalize PB.slot A 88 = f88
          generalize PB.slot A 89 = f89
          generalize PB.slot A 90 = f90
          generalize PB.slot A 91 = f91
          generalize PB.slot A 92 = f92
          generalize PB.slot A 93 = f93
          generalize PB.slot A 94 = f94
          generalize PB.slot A 95 = f95
          clear hA hA0 eS eB eN hFit hvD
          simp only [Act.put, List.setIfInBounds_toArray, List.set_cons_succ, List.set_cons_zero]
          have HF : Hid (NewAns (nodeB x) w (.returned vD) W) := ⟨vD, rfl, (by rw [← HEQ.out]; exact hoD), (K60.out.trans hkD).below (Nat.le_refl _)⟩
          clear hoD hkD HC HCL0 HCL1 HCL2 HCL3 HLN0 HLN1 HLN2 HLN3
          go_wp2
          go_ret
          exact HF.out

end Go.Proofs.Ytjpjeledbjpaeaa
