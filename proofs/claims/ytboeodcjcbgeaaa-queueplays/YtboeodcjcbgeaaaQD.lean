/-
  What is proved here: copy of elements of several cells; make of places; grow.
-/
import Derived.Test.YtboeodcjcbgeaaaQC
import Derived.Laws.CopyOwn
import Derived.Laws.OwnMore
import Derived.Deep.RegionLaw
namespace Go.Proofs.Ytboeodcjcbgeaaa
open Go.RowKit Go.Proofs
set_option linter.unusedVariables false
set_option linter.unusedSimpArgs false

/-- The language's copy, elements of several cells, as one step of a statement that leaves its order open. -/
theorem step_copyN {P : Program} {ops : Array Oper} {o : Oper} {a : Act} {w : World} {K : Act → World → Prop} {Q : Exit → Act → World → Prop} {E : Prop} (hgd : o.guard = none) (d s : Operand) (dT sT : TypeId)
    (ho : o.op = .call { callee := .builtin .copy, args := #[d, s], argTypes := #[dT, sT] }) (elem : TypeId) (hu : P.underlying dT = some (.slice elem)) (i : TypeInfo) (hi : P.info? elem = some i) (size : Nat) (hsz : i.size = size)
    (dp sp : Option Addr) (dLen dCap sLen sCap : Nat) (hd : a.eval d = .slice dp dLen dCap) (hs : a.eval s = .slice sp sLen sCap)
    (g off : Nat) (cur : List Value) (t : TypeId) (hg : w.heap[g]? = some (.cells cur.toArray t (0, 0))) (m : Nat) (hm : Nat.min sLen dLen = m) (cs : List Value) (hn : cs.length = m * size)
    (hpos : 0 < m → dp = some ⟨g, off, none⟩ ∧ ∃ ad, sp = some ad ∧ ∀ j v, cs[j]? = some v → w.cell? (ad.add j) = some v)
    (hfit : off + cs.length ≤ cur.length) (h1 : ∀ v ∈ cs, v.oneCell' = true) (B : Nat) (w0 : World) (hb : Below B w0 w) (hBg : B ≤ g)
    (h : ∀ w', Hid (w'.heap[g]? = some (.cells (splice cur off cs).toArray t (0, 0))) → Below B w0 w' → K (a.put o.dst (goInt m)) w') :
    if Region.wanted o (yielded ops a.tmps) = true then Oper.wp P o a w K Q else E := by
  have hw : Region.wanted o (yielded ops a.tmps) = true := by simp [Region.wanted, hgd]
  rw [if_pos hw]
  subst hsz
  by_cases hz : m = 0
  · subst hz
    obtain rfl : cs = [] := List.eq_nil_of_length_eq_zero (by simpa using hn)
    have hrun : (Builtin.copy_ #[dT, sT] o.type #[.slice dp dLen dCap, .slice sp sLen sCap]).run P w = .ok (goInt 0) w := by
      have hl : ∀ (x : Addr), (loadCells x 0).run P w = .ok #[] w := fun x => by simpa using run_loadCells_list (P := P) w x [] (by simp)
      cases dp <;> cases sp <;> simp [Builtin.copy_, run_underlying hu, Builtin.lenOf, Builtin.firstCells, sizeOf, typeInfo, hi, hm, storeCells, hl]
    unfold Oper.wp
    simp [execOp, ho, resolve, invoke, builtin, hd, hs, hrun, Result.andThen]
    exact h w (show _ = _ by simpa [splice] using hg) hb
  · obtain ⟨rfl, ad, rfl, hsrc⟩ := hpos (by omega)
    have hl := run_loadCells_list (P := P) w ad cs hsrc
    have hst := run_storeCells_at P g off t cs 0 cur.toArray w hg (by simpa using hfit) h1
    have hrun : (Builtin.copy_ #[dT, sT] o.type #[.slice (some ⟨g, off, none⟩) dLen dCap, .slice (some ad) sLen sCap]).run P w = .ok (goInt m) (w.setRow g (cur.take off ++ cs ++ cur.drop (off + cs.length)).toArray) := by
      simp [Builtin.copy_, run_underlying hu, Builtin.lenOf, Builtin.firstCells, sizeOf, typeInfo, hi, hm, ← hn, hl, hst]
    unfold Oper.wp
    simp [execOp, ho, resolve, invoke, builtin, hd, hs, hrun, Result.andThen]
    exact h _ (show _ = _ by simpa [splice] using setRow_heap w g _ _ t _ hg) (below_setRow hb hBg _)

theorem madeCells_up (n : Nat) : (madeCells s0.val.cells (n * 4)).toList = flatS (List.replicate n s0) := by
  apply List.ext_getElem?
  intro j
  have hz : s0.val.cells = #[.slice none 0 0, .int .i64 0, .int .i64 0, .int .i64 0] := rfl
  by_cases hj : j < n * 4
  · have hq : j / 4 < (List.replicate n s0).length := by simp; omega
    have hf := flatS_get (List.replicate n s0) (j / 4) hq
    have hg : (List.replicate n s0).getD (j / 4) s0 = s0 := by
      rw [List.length_replicate] at hq
      simp [List.getD, List.getElem?_replicate, hq]
    rw [hg] at hf
    have hl : (madeCells s0.val.cells (n * 4)).toList[j]? = some (s0.val.cells[j % 4]!) := by
      simp [madeCells, hj, hz]
    rw [hl]
    have h3 : j % 4 = 0 ∨ j % 4 = 1 ∨ j % 4 = 2 ∨ j % 4 = 3 := by omega
    rcases h3 with h | h | h | h <;> rw [h]
    · rw [show j / 4 * 4 = j by omega] at hf; rw [hf.1]; rfl
    · rw [show j / 4 * 4 + 1 = j by omega] at hf; rw [hf.2.1]; rfl
    · rw [show j / 4 * 4 + 2 = j by omega] at hf; rw [hf.2.2.1]; rfl
    · rw [show j / 4 * 4 + 3 = j by omega] at hf; rw [hf.2.2.2]; rfl
  · rw [List.getElem?_eq_none (by simp [size_madeCells]; omega), List.getElem?_eq_none (by rw [length_flatS]; simp; omega)]

/-- What make has made. -/
theorem made_up {base n : Nat} {w' : World} {g : Nat} (h : w'.ownsRow base 38 4 (.slice (some ⟨g, 0, none⟩) n n) n (madeCells s0.val.cells (n * 4)).toList) : w'.heap[g]? = some (.cells (flatS (List.replicate n s0)).toArray 38 (0, 0)) := by
  rw [madeCells_up] at h
  obtain ⟨h1, ⟨h2, _⟩ | ⟨g', cap, cur, e, hg, hcur, hle, hm, hs, ht⟩⟩ := h
  · cases h2
  · simp at e
    obtain ⟨rfl, rfl⟩ := e
    rw [hcur]
    have : cur.toList = flatS (List.replicate n s0) := by
      rw [← ht]
      exact (List.take_of_length_le (by simp [hs])).symm
    rw [← this]

section
variable {w : World} {G R : Nat} {room : Int} {L : List U} {p : Nat} {S : List Slot} {f : Nat} {ra : Option Addr}

/-- The ring is another one, longer, what waits from its head on. -/
theorem Qs.grown (h : Qs w G R room L p S f ra) {w' : World} {R' n' : Nat} (hR' : w.heap.size ≤ R') (hb : ∀ k, k < w.heap.size → k ≠ G → w'.heap[k]? = w.heap[k]?) (hs : w.heap.size ≤ w'.heap.size) (hn : S.length < n') (hn' : n' ≤ 131072) {S' : List Slot} (hS' : S' = (S.drop f ++ S.take f) ++ List.replicate (n' - S.length) s0)
    (hG : w'.heap[G]? = some (.cells #[.int .i64 room, .slice (some ⟨R', 0, none⟩) n' n', .int .i64 0, .int .i64 (L.length : Int), .int .i64 (p : Int)] 57 (0, 0))) (hR : w'.heap[R']? = some (.cells (flatS S').toArray 38 (0, 0))) :
    Qs w' G R' room L p S' 0 (some ⟨R', 0, none⟩) := by
  have hf : f ≤ S.length := by rcases h.ring with ⟨h1, _, h3⟩ | ⟨h1, _⟩ <;> omega
  have hlen : S'.length = n' := by rw [hS']; simp; omega
  have hfit := h.fits
  refine ⟨by rw [hlen]; exact hG, .inr ⟨by omega, rfl, hR⟩, by omega, by omega, fun i hi => ?_, h.good⟩
  rw [Nat.zero_add, hlen, Nat.mod_eq_of_lt (by omega), hS']
  have hS : S ≠ [] := by rintro rfl; simp at hfit; subst hfit; simp at hi
  rw [getD_round (h.ne hS).1 (by omega)]
  refine (h.reads i hi).keep (fun k hP hk => ⟨hb k hk hP.1, hP.1, by omega⟩) hs

end

theorem q5 {w : World} {G : Nat} {a b c d e : Value} {t : TypeId} (h : w.heap[G]? = some (.cells #[a, b, c, d, e] t (0, 0))) : w.cell? ⟨G, 0, none⟩ = some a ∧ w.cell? ⟨G, 1, none⟩ = some b ∧ w.cell? ⟨G, 2, none⟩ = some c ∧ w.cell? ⟨G, 3, none⟩ = some d ∧ w.cell? ⟨G, 4, none⟩ = some e := by
  refine ⟨?_, ?_, ?_, ?_, ?_⟩ <;> (rw [cell_of_row _ _ _ _ _ _ h]; rfl)

theorem splice_two {α : Type} (Z X1 X2 : List α) (n : Nat) (hn : X1.length = n) (h : X1.length + X2.length ≤ Z.length) : splice (splice Z 0 X1) n X2 = (X1 ++ X2) ++ Z.drop (X1.length + X2.length) := by
  subst hn
  unfold splice
  simp only [List.take_zero, List.nil_append, Nat.zero_add]
  rw [List.take_append_of_le_length (Nat.le_refl _), List.take_length, List.drop_append, List.drop_eq_nil_of_le (by omega), List.nil_append, List.drop_drop, List.append_assoc]
  congr 3
  omega

theorem grow_end {wr w3 : World} {G R : Nat} {room : Int} {L : List U} {p : Nat} {S : List Slot} {f : Nat} {ra : Option Addr} {j : Nat} {X1 X2 Z : List Value} (h : Qs wr G R room L p S f ra) (h1 : f < S.length) (hGl : G < wr.heap.size) (hj : S.length < j) (hj' : j ≤ 131072)
    (hX1 : X1 = flatS (S.drop f)) (hX2 : X2 = flatS (S.take f)) (hZ : Z = flatS (List.replicate j s0)) (hg : w3.heap[wr.heap.size]? = some (.cells (splice (splice Z 0 X1) ((S.length - f) * 4) X2).toArray 38 (0, 0))) (hb : Below wr.heap.size wr w3) :
    Qs ((w3.setCell ⟨G, 1, none⟩ (.slice (some ⟨wr.heap.size, 0, none⟩) j j)).setCell ⟨G, 2, none⟩ (.int .i64 0)) G wr.heap.size room L p ((S.drop f ++ S.take f) ++ List.replicate (j - S.length) s0) 0 (some ⟨wr.heap.size, 0, none⟩) ∧ j ≤ ((S.drop f ++ S.take f) ++ List.replicate (j - S.length) s0).length ∧
    Kp G R wr ((w3.setCell ⟨G, 1, none⟩ (.slice (some ⟨wr.heap.size, 0, none⟩) j j)).setCell ⟨G, 2, none⟩ (.int .i64 0)) := by
  have hl1 : X1.length = (S.length - f) * 4 := by rw [hX1, length_flatS, List.length_drop]
  have hl2 : X2.length = f * 4 := by rw [hX2, length_flatS, List.length_take, Nat.min_eq_left (by omega)]
  have hlz : Z.length = j * 4 := by rw [hZ, length_flatS, List.length_replicate]
  rw [splice_two Z X1 X2 _ hl1 (by omega), hl1, hl2, show (S.length - f) * 4 + f * 4 = S.length * 4 by omega, hX1, hX2, hZ, ← flatS_append, flatS_drop, List.drop_replicate, ← flatS_append] at hg
  have hO : w3.heap[G]? = _ := (hb.block G hGl).trans h.obj
  refine ⟨h.grown (Nat.le_refl _) (fun k hk hne => ?_) (by simpa using hb.size) hj hj' rfl ?_ ?_, by simp; omega, ((Kp.of_below hb).trans (Kp.set (.inl rfl) _)).trans (Kp.set (.inl rfl) _)⟩
  · rw [Below.heap_setCell _ _ _ _ hne, Below.heap_setCell _ _ _ _ hne]
    exact hb.block k hk
  · simp [World.setCell, Array.getElem?_modify, hO]
  · have hne : wr.heap.size ≠ G := by omega
    rw [Below.heap_setCell _ _ _ _ hne, Below.heap_setCell _ _ _ _ hne]
    exact hg

set_option maxRecDepth 10000 in
set_option maxHeartbeats 2000000 in
theorem grow_no (w : World) (G n : Nat) (ra : Option Addr) (z : Int) (h1 : w.cell? ⟨G, 1, none⟩ = some (.slice ra n n)) (hz : z ≤ (n : Int)) : Calls Try.prog 23 #[.pointer (some ⟨G, 0, none⟩), .int .i64 z] w fun e w' => e = .returned (.tuple #[]) ∧ w' = w := by
  go_enter Try.func23, Try.ntmps23
  go_wp2
  refine bodyPost_ret (results_none rfl _ _ _) rfl ?_
  exact ⟨rfl, rfl⟩

set_option maxRecDepth 10000 in
set_option maxHeartbeats 4000000 in
theorem grow_some (w : World) (G R : Nat) (room : Int) (L : List U) (p : Nat) (S : List Slot) (f : Nat) (ra : Option Addr) (h : Qs w G R room L p S f ra) (m : Nat) (hm : S.length < m) (hm' : m ≤ 65536) (hS : S ≠ []) :
    Calls Try.prog 23 #[.pointer (some ⟨G, 0, none⟩), .int .i64 (m : Int)] w fun e w' => e = .returned (.tuple #[]) ∧ ∃ R' S', w.heap.size ≤ R' ∧ m ≤ S'.length ∧ Qs w' G R' room L p S' 0 (some ⟨R', 0, none⟩) ∧ Kp G R w w' := by
  obtain ⟨iU, hiU, hU0, hU1, hU2⟩ := info_parts Try.infoUp
  have HQ := hid' h
  obtain ⟨h1, rfl, h3, h4, h5⟩ := h.ne hS
  have hmost := h.most
  obtain ⟨rm, q1, q2, q3, q4⟩ := h.cells
  have HR := hid' h3
  have HO := hid' h.obj
  have hGl := h.lt
  have hmx : max (S.length : Int) 1 = (S.length : Int) := by omega
  clear h h3 rm q3 q4
  go_enter Try.func23, Try.ntmps23
  go_wp2
  go_loopg [4] m (fun k v wr => ∃ j : Nat, v = .int .i64 (j : Int) ∧ wr = w ∧ 1 ≤ j ∧ S.length ≤ j ∧ j < 2 * m ∧ m ≤ j + k)
  case atStart => exact ⟨S.length, rfl, rfl, by omega, by omega, by omega, by omega⟩
  case round =>
    obtain ⟨j, rfl, rfl, hj1, hjn, hj2, hjk⟩ := hrel
    by_cases hlt : j < m
    · obtain ⟨k, rfl⟩ : ∃ k, gk = k + 1 := ⟨gk - 1, by omega⟩
      go_wp2
      go_roundg k
      case measure => omega
      case rel => exact ⟨j * 2, by simp, rfl, by omega, by omega, by omega, by omega⟩
    · have hnl : S.length < j := by omega
      go_wp2_with (refine wpList_make_full _ rfl _ _ 30 rfl wr.heap.size 38 iU s0.val 4 Try.underlying30 hiU hU0 hU1 .i64 .i64 _ _ j rfl rfl rfl rfl (by rw [hU2]; omega) (by unfold maxLen; omega) (Nat.le_refl _) ?_; intro w1 hmade hgrow)
      have HM := hid' (made_up hmade)
      have hb1 : Below wr.heap.size wr w1 := (Below.refl _ wr).grown hgrow (Nat.le_refl _) (fun k hk => by cases hk)
      have HB1 := hid' hb1
      have p1 := q1
      have p2 := q2
      have q1 := (hb1.cell (p := ⟨G, 1, none⟩) hGl).trans q1
      have q2 := (hb1.cell (p := ⟨G, 2, none⟩) hGl).trans q2
      have HSRC1 : Hid (∀ w', Below wr.heap.size wr w' → ∀ i v, (flatS (S.drop f))[i]? = some v → w'.cell? ((⟨R, f * 4, none⟩ : Addr).add i) = some v) := by
        intro w' hb i v hi
        rw [addr_addQ, cell_of_row _ _ _ _ _ _ ((hb.block R h5).trans HR.out), List.getElem?_toArray, ← hi, ← flatS_drop, List.getElem?_drop]
      have HSRC2 : Hid (∀ w', Below wr.heap.size wr w' → ∀ i v, (flatS (S.take f))[i]? = some v → w'.cell? ((⟨R, 0, none⟩ : Addr).add i) = some v) := by
        intro w' hb i v hi
        rw [addr_addQ, Nat.zero_add, cell_of_row _ _ _ _ _ _ ((hb.block R h5).trans HR.out), List.getElem?_toArray, ← hi, ← flatS_take]
        have : i < (flatS (S.take f)).length := by
          rcases Nat.lt_or_ge i (flatS (S.take f)).length with h' | h'
          · exact h'
          · rw [List.getElem?_eq_none h'] at hi; cases hi
        rw [length_flatS, List.length_take] at this
        rw [List.getElem?_take_of_lt (by omega)]
      have HL1 : Hid ((flatS (S.drop f)).length = (S.length - f) * 4) := by unfold Hid; rw [length_flatS, List.length_drop]
      have HL2 : Hid ((flatS (S.take f)).length = f * 4) := by unfold Hid; rw [length_flatS, List.length_take, Nat.min_eq_left (by omega)]
      have HLZ : Hid ((flatS (List.replicate j s0)).length = j * 4) := by unfold Hid; rw [length_flatS, List.length_replicate]
      have HO1 := hid' (flatS_ones (S.drop f))
      have HO2 := hid' (flatS_ones (S.take f))
      obtain ⟨X1, hX1⟩ : ∃ x, x = flatS (S.drop f) := ⟨_, rfl⟩
      obtain ⟨X2, hX2⟩ : ∃ x, x = flatS (S.take f) := ⟨_, rfl⟩
      obtain ⟨Z, hZ⟩ : ∃ x, x = flatS (List.replicate j s0) := ⟨_, rfl⟩
      rw [← hX1] at HSRC1 HL1 HO1
      rw [← hX2] at HSRC2 HL2 HO2
      rw [← hZ] at HM HLZ
      have HX := hid' (And.intro hX1 (And.intro hX2 hZ))
      have hgz : wr.heap.size < w1.heap.size := (Array.getElem?_eq_some_iff.1 HM.out).1
      clear hmade hgrow hb1 hX1 hX2 hZ
      have e1 : f ≤ S.length := by omega
      have e2 : ¬ S.length = f := by omega
      have e3 : S.length - f ≤ j := by omega
      have e4 : ¬ j = S.length - f := by omega
      go_region_law (refine step_copyN rfl (.tmp 27) (.tmp 36) 30 30 rfl 38 Try.underlying30 iU hiU 4 hU1 _ _ _ _ _ _ rfl rfl wr.heap.size 0 Z 38 HM.out (S.length - f) (Nat.min_eq_left (by omega)) X1 HL1.out (fun _ => ⟨rfl, _, rfl, HSRC1.out _ (HB1.out.trans (below_drewN (Below.refl _ _) _))⟩) (by rw [HL1.out, HLZ.out]; omega) HO1.out wr.heap.size wr (by first | exact HB1.out.drew | exact HB1.out) (Nat.le_refl _) ?_; intro w2 hg2 hb2)
      all_goals
        have HB2 := hid' hb2
        have p1 := (hb2.cell (p := ⟨G, 1, none⟩) hGl).trans p1
        have p2 := (hb2.cell (p := ⟨G, 2, none⟩) hGl).trans p2
        clear hb2 q1 q2
        go_wp2_with fail
      all_goals
        go_region_law (refine step_copyN rfl (.tmp 40) (.tmp 49) 30 30 rfl 38 Try.underlying30 iU hiU 4 hU1 _ _ _ _ _ _ rfl rfl wr.heap.size ((S.length - f) * 4) (splice Z 0 X1) 38 hg2.out f (Nat.min_eq_left (by omega)) X2 HL2.out (fun _ => ⟨by simp, _, rfl, HSRC2.out _ HB2.out.drew⟩) (by rw [length_splice _ _ _ (by rw [HL1.out, HLZ.out]; omega), HL2.out, HLZ.out]; omega) HO2.out wr.heap.size wr HB2.out.drew (Nat.le_refl _) ?_; intro w3 hg3 hb3)
      all_goals
        have HEN := hid' (grow_end HQ.out h1 hGl (by omega) (by omega) HX.out.1 HX.out.2.1 HX.out.2.2 hg3.out hb3)
        have HOB := hid' ((hb3.block G hGl).trans HO.out)
        obtain ⟨c0, c1, c2, c3, c4⟩ := q5 HOB.out
        have f1 := frozen_of HOB.out 1
        have f2 := frozen_of HOB.out 2
        clear hb3 hg3 p1 p2 HB2 hg2 HSRC1 HSRC2 HL1 HL2 HLZ HO1 HO2 HM HB1 HX HO HR
        go_wp2
        refine bodyPost_end (results_none rfl _ _ _) rfl ?_
        exact ⟨rfl, wr.heap.size, _, Nat.le_refl _, Nat.le_trans (by omega) HEN.out.2.1, HEN.out.1, HEN.out.2.2⟩

theorem grow_end0 {wr w3 : World} {G R : Nat} {room : Int} {L : List U} {p : Nat} {ra : Option Addr} {j : Nat} {Z : List Value} (h : Qs wr G R room L p [] 0 ra) (hGl : G < wr.heap.size) (hj : 0 < j) (hj' : j ≤ 131072)
    (hZ : Z = flatS (List.replicate j s0)) (hg : w3.heap[wr.heap.size]? = some (.cells (splice (splice Z 0 []) 0 []).toArray 38 (0, 0))) (hb : Below wr.heap.size wr w3) :
    Qs ((w3.setCell ⟨G, 1, none⟩ (.slice (some ⟨wr.heap.size, 0, none⟩) j j)).setCell ⟨G, 2, none⟩ (.int .i64 0)) G wr.heap.size room L p (List.replicate j s0) 0 (some ⟨wr.heap.size, 0, none⟩) ∧ j ≤ (List.replicate j s0).length ∧
    Kp G R wr ((w3.setCell ⟨G, 1, none⟩ (.slice (some ⟨wr.heap.size, 0, none⟩) j j)).setCell ⟨G, 2, none⟩ (.int .i64 0)) := by
  have e : splice (splice Z 0 []) 0 [] = Z := by simp [splice]
  rw [e, hZ] at hg
  have hO : w3.heap[G]? = _ := (hb.block G hGl).trans h.obj
  refine ⟨h.grown (Nat.le_refl _) (fun k hk hne => ?_) (by simpa using hb.size) hj hj' (by simp) ?_ ?_, by simp, ((Kp.of_below hb).trans (Kp.set (.inl rfl) _)).trans (Kp.set (.inl rfl) _)⟩
  · rw [Below.heap_setCell _ _ _ _ hne, Below.heap_setCell _ _ _ _ hne]
    exact hb.block k hk
  · simp [World.setCell, Array.getElem?_modify, hO]
  · have hne : wr.heap.size ≠ G := by omega
    rw [Below.heap_setCell _ _ _ _ hne, Below.heap_setCell _ _ _ _ hne]
    exact hg

set_option maxRecDepth 10000 in
set_option maxHeartbeats 4000000 in
theorem grow_first (w : World) (G R : Nat) (room : Int) (L : List U) (p : Nat) (h : Qs w G R room L p [] 0 none) (m : Nat) (hm : 0 < m) (hm' : m ≤ 65536) :
    Calls Try.prog 23 #[.pointer (some ⟨G, 0, none⟩), .int .i64 (m : Int)] w fun e w' => e = .returned (.tuple #[]) ∧ ∃ R' S', w.heap.size ≤ R' ∧ m ≤ S'.length ∧ Qs w' G R' room L p S' 0 (some ⟨R', 0, none⟩) ∧ Kp G R w w' := by
  obtain ⟨iU, hiU, hU0, hU1, hU2⟩ := info_parts Try.infoUp
  have HQ := hid' h
  obtain ⟨rm, q1, q2, q3, q4⟩ := h.cells
  have HO := hid' h.obj
  have hGl := h.lt
  simp only [List.length_nil] at q1
  have q2 : w.cell? ⟨G, 2, none⟩ = some (.int .i64 0) := by simpa using q2
  clear h rm q3 q4
  go_enter Try.func23, Try.ntmps23
  go_wp2
  go_loopg [4] m (fun k v wr => ∃ j : Nat, v = .int .i64 (j : Int) ∧ wr = w ∧ 1 ≤ j ∧ j < 2 * m ∧ m ≤ j + k)
  case atStart => exact ⟨1, by simp, rfl, by omega, by omega, by omega⟩
  case round =>
    obtain ⟨j, rfl, rfl, hj1, hj2, hjk⟩ := hrel
    by_cases hlt : j < m
    · obtain ⟨k, rfl⟩ : ∃ k, gk = k + 1 := ⟨gk - 1, by omega⟩
      go_wp2
      go_roundg k
      case measure => omega
      case rel => exact ⟨j * 2, by simp, rfl, by omega, by omega, by omega⟩
    · go_wp2_with (refine wpList_make_full _ rfl _ _ 30 rfl wr.heap.size 38 iU s0.val 4 Try.underlying30 hiU hU0 hU1 .i64 .i64 _ _ j rfl rfl rfl rfl (by rw [hU2]; omega) (by unfold maxLen; omega) (Nat.le_refl _) ?_; intro w1 hmade hgrow)
      have HM := hid' (made_up hmade)
      have hb1 : Below wr.heap.size wr w1 := (Below.refl _ wr).grown hgrow (Nat.le_refl _) (fun k hk => by cases hk)
      have HB1 := hid' hb1
      have p1 := q1
      have p2 := q2
      have q1 := (hb1.cell (p := ⟨G, 1, none⟩) hGl).trans q1
      have q2 := (hb1.cell (p := ⟨G, 2, none⟩) hGl).trans q2
      obtain ⟨Z, hZ⟩ : ∃ x, x = flatS (List.replicate j s0) := ⟨_, rfl⟩
      rw [← hZ] at HM
      have HX := hid' hZ
      have hgz : wr.heap.size < w1.heap.size := (Array.getElem?_eq_some_iff.1 HM.out).1
      clear hmade hgrow hb1 hZ
      have e4 : ¬ j = 0 := by omega
      go_region_law (refine step_copyN rfl (.tmp 27) (.tmp 36) 30 30 rfl 38 Try.underlying30 iU hiU 4 hU1 _ _ _ _ _ _ rfl rfl wr.heap.size 0 Z 38 HM.out 0 (Nat.min_eq_left (Nat.zero_le _)) [] rfl (fun h => absurd h (Nat.lt_irrefl _)) (Nat.zero_le _) (fun v h => by simp at h) wr.heap.size wr (by first | exact HB1.out.drew | exact HB1.out) (Nat.le_refl _) ?_; intro w2 hg2 hb2)
      all_goals
        have HB2 := hid' hb2
        have p1 := (hb2.cell (p := ⟨G, 1, none⟩) hGl).trans p1
        have p2 := (hb2.cell (p := ⟨G, 2, none⟩) hGl).trans p2
        clear hb2 q1 q2
        go_wp2_with fail
      all_goals
        go_region_law (refine step_copyN rfl (.tmp 40) (.tmp 49) 30 30 rfl 38 Try.underlying30 iU hiU 4 hU1 _ _ _ _ _ _ rfl rfl wr.heap.size 0 (splice Z 0 []) 38 hg2.out 0 (Nat.min_eq_left (Nat.zero_le _)) [] rfl (fun h => absurd h (Nat.lt_irrefl _)) (Nat.zero_le _) (fun v h => by simp at h) wr.heap.size wr HB2.out.drew (Nat.le_refl _) ?_; intro w3 hg3 hb3)
      all_goals
        have HEN := hid' (grow_end0 HQ.out hGl (by omega) (by omega) HX.out hg3.out hb3 (R := R))
        have HOB := hid' ((hb3.block G hGl).trans HO.out)
        obtain ⟨c0, c1, c2, c3, c4⟩ := q5 HOB.out
        have f1 := frozen_of HOB.out 1
        have f2 := frozen_of HOB.out 2
        clear hb3 hg3 p1 p2 HB2 hg2 HM HB1 HX HO
        go_wp2
        refine bodyPost_end (results_none rfl _ _ _) rfl ?_
        exact ⟨rfl, wr.heap.size, _, Nat.le_refl _, Nat.le_trans (by omega) HEN.out.2.1, HEN.out.1, HEN.out.2.2⟩

/-- grow: the ring has so many places, or more. -/
theorem grow_any (w : World) (G R : Nat) (room : Int) (L : List U) (p : Nat) (S : List Slot) (f : Nat) (ra : Option Addr) (h : Qs w G R room L p S f ra) (m : Nat) (hm' : m ≤ 65536) :
    Calls Try.prog 23 #[.pointer (some ⟨G, 0, none⟩), .int .i64 (m : Int)] w fun e w' => e = .returned (.tuple #[]) ∧ ∃ R' S' f' ra', (R' = R ∨ w.heap.size ≤ R') ∧ m ≤ S'.length ∧ Qs w' G R' room L p S' f' ra' ∧ Kp G R w w' := by
  by_cases hlt : S.length < m
  · by_cases hS : S = []
    · subst hS
      obtain ⟨_, rfl, rfl⟩ : ([] : List Slot) = [] ∧ ra = none ∧ f = 0 := by
        rcases h.ring with h | ⟨h, _⟩
        · exact h
        · simp at h
      refine (grow_first w G R room L p h m (by simpa using hlt) hm').mono ?_
      rintro e w' ⟨rfl, R', S', h1, h2, h3, h4⟩
      exact ⟨rfl, R', S', 0, _, .inr h1, h2, h3, h4⟩
    · refine (grow_some w G R room L p S f ra h m hlt hm' hS).mono ?_
      rintro e w' ⟨rfl, R', S', h1, h2, h3, h4⟩
      exact ⟨rfl, R', S', 0, _, .inr h1, h2, h3, h4⟩
  · refine (grow_no w G S.length ra (m : Int) h.cells.2.1 (by omega)).mono ?_
    rintro e w' ⟨rfl, rfl⟩
    exact ⟨rfl, R, S, f, ra, .inl rfl, by omega, h, Kp.refl _ _ _⟩

end Go.Proofs.Ytboeodcjcbgeaaa
