/-
  What is proved here: how a queue changes; Pop.
-/
import Derived.Test.YtboeodcjcbgeaaaQB
namespace Go.Proofs.Ytboeodcjcbgeaaa
open Go.RowKit Go.Proofs
set_option linter.unusedVariables false
set_option linter.unusedSimpArgs false

theorem Kp.rd {G R : Nat} {w w' : World} (h : Kp G R w w') {s : Slot} {u : U} (hr : Rd (Out G R) w s u) : Rd (Out G R) w' s u :=
  hr.keep (fun k hP hk => ⟨h.block k hk hP.1 hP.2, hP⟩) h.size

/-- A place is written. -/
def set4 (w : World) (R o : Nat) (s : Slot) : World := (((w.setCell ⟨R, o, none⟩ (.slice s.a s.n s.c)).setCell ⟨R, o + 1, none⟩ (.int .i64 s.t.1)).setCell ⟨R, o + 2, none⟩ (.int .i64 s.t.2)).setCell ⟨R, o + 3, none⟩ (.int .i64 s.d)

theorem set4_size (w : World) (R o : Nat) (s : Slot) : (set4 w R o s).heap.size = w.heap.size := by simp [set4]

theorem set4_other (w : World) (R o : Nat) (s : Slot) {k : Nat} (h : k ≠ R) : (set4 w R o s).heap[k]? = w.heap[k]? := by
  unfold set4
  rw [Below.heap_setCell _ _ _ _ h, Below.heap_setCell _ _ _ _ h, Below.heap_setCell _ _ _ _ h, Below.heap_setCell _ _ _ _ h]

theorem set4_at {w : World} {R : Nat} {S : List Slot} {t : TypeId} (h : w.heap[R]? = some (.cells (flatS S).toArray t (0, 0))) {k : Nat} (hk : k < S.length) (s : Slot) : (set4 w R (k * 4) s).heap[R]? = some (.cells (flatS (S.set k s)).toArray t (0, 0)) := by
  unfold set4
  rw [← flatS_set S s k hk]
  simp [World.setCell, Array.getElem?_modify, h]

theorem set4_kp (w : World) (G R o : Nat) (s : Slot) : Kp G R w (set4 w R o s) :=
  ⟨rfl, rfl, rfl, by rw [set4_size]; exact Nat.le_refl _, fun k hk h1 h2 => set4_other w R o s h2⟩

theorem Kp.then4 {G R b o : Nat} {w X : World} (h : Kp G R w X) (hb : w.heap.size ≤ b) (s : Slot) : Kp G R w (set4 X b o s) :=
  ⟨h.os, h.tape, h.output, by rw [set4_size]; exact h.size, fun k hk h1 h2 => (set4_other X b o s (by omega)).trans (h.block k hk h1 h2)⟩

theorem below_kp {G R : Nat} {w w' : World} (h : Below w.heap.size w w') : Kp G R w w' := Kp.of_below h

theorem frozen_of {w : World} {R : Nat} {c : Array Value} {t : TypeId} (h : w.heap[R]? = some (.cells c t (0, 0))) (i : Nat) : w.frozen? ⟨R, i, none⟩ = false := by simp [World.frozen?, h]

section
variable {w : World} {G R : Nat} {room : Int} {L : List U} {p : Nat} {S : List Slot} {f : Nat} {ra : Option Addr}

theorem Qs.popped {u : U} (h : Qs w G R room (u :: L) p S f ra) {w' : World} (hk : Kp G R w w') (hG : w'.heap[G]? = some (.cells #[.int .i64 room, .slice ra S.length S.length, .int .i64 (((f + 1) % S.length : Nat) : Int), .int .i64 (L.length : Int), .int .i64 ((p + 1 : Nat) : Int)] 57 (0, 0))) (hR : w'.heap[R]? = some (.cells (flatS (S.set f s0)).toArray 38 (0, 0))) :
    Qs w' G R room L (p + 1) (S.set f s0) ((f + 1) % S.length) ra := by
  have hfit := h.fits
  simp only [List.length_cons] at hfit
  have hS : S ≠ [] := by rintro rfl; simp at hfit
  obtain ⟨h1, h2, h3, h4, h5⟩ := h.ne hS
  have hlen : (S.set f s0).length = S.length := by simp
  refine ⟨by rw [hlen]; exact hG, .inr ⟨by rw [hlen]; exact Nat.mod_lt _ (by omega), h2, hR⟩, by rw [hlen]; omega, by rw [hlen]; exact h.most, fun i hi => ?_, fun x hx => h.good x (by simp [hx])⟩
  have hr := h.reads (i + 1) (by simp; omega)
  rw [hlen, md_next]
  have hne : (f + (i + 1)) % S.length ≠ f := by
    intro e
    have e2 : (f + (i + 1)) % S.length = (f + 0) % S.length := by rw [e, Nat.add_zero, Nat.mod_eq_of_lt h1]
    have := md_inj h1 (by omega) (by omega) e2
    omega
  rw [getD_set_other hne]
  simp only [List.getD_cons_succ] at hr
  exact hk.rd hr

theorem Qs.head {u : U} (h : Qs w G R room (u :: L) p S f ra) : Rd (Out G R) w (S.getD f s0) u ∧ f < S.length := by
  have hfit := h.fits
  simp only [List.length_cons] at hfit
  have hS : S ≠ [] := by rintro rfl; simp at hfit
  have h1 := (h.ne hS).1
  have hr := h.reads 0 (by simp)
  rw [Nat.add_zero, Nat.mod_eq_of_lt h1] at hr
  exact ⟨by simpa using hr, h1⟩
end

theorem pop_end {w w4 : World} {G R : Nat} {room : Int} {L : List U} {u : U} {p : Nat} {S : List Slot} {f : Nat} {ra : Option Addr} {z : Value} (h : Qs w G R room (u :: L) p S f ra) (h4 : G ≠ R) (hO : w4.heap[G]? = some (.cells #[.int .i64 room, .slice ra S.length S.length, .int .i64 (f : Int), z, .int .i64 (p : Int)] 57 (0, 0))) (hR : w4.heap[R]? = some (.cells (flatS (S.set f s0)).toArray 38 (0, 0))) (hW : w4.heap[w.heap.size]? = some (.cells #[.slice none 0 0, .int .i64 0, .int .i64 0, .int .i64 0] 38 (0, 0))) (hk : Kp G R w w4) (s : Slot) (hs : S.getD f s0 = s) :
    Qs (set4 (((w4.setCell ⟨G, 2, none⟩ (.int .i64 (((f : Int) + 1) % (S.length : Int)))).setCell ⟨G, 3, none⟩ (.int .i64 (L.length : Int))).setCell ⟨G, 4, none⟩ (.int .i64 ((p : Int) + 1))) w.heap.size 0 s) G R room L (p + 1) (S.set f s0) ((f + 1) % S.length) ra ∧
    Rd (Out G R) (set4 (((w4.setCell ⟨G, 2, none⟩ (.int .i64 (((f : Int) + 1) % (S.length : Int)))).setCell ⟨G, 3, none⟩ (.int .i64 (L.length : Int))).setCell ⟨G, 4, none⟩ (.int .i64 ((p : Int) + 1))) w.heap.size 0 s) s u ∧
    Kp G R w (set4 (((w4.setCell ⟨G, 2, none⟩ (.int .i64 (((f : Int) + 1) % (S.length : Int)))).setCell ⟨G, 3, none⟩ (.int .i64 (L.length : Int))).setCell ⟨G, 4, none⟩ (.int .i64 ((p : Int) + 1))) w.heap.size 0 s) ∧
    (((w4.setCell ⟨G, 2, none⟩ (.int .i64 (((f : Int) + 1) % (S.length : Int)))).setCell ⟨G, 3, none⟩ (.int .i64 (L.length : Int))).setCell ⟨G, 4, none⟩ (.int .i64 ((p : Int) + 1))).heap[w.heap.size]? = some (.cells #[.slice none 0 0, .int .i64 0, .int .i64 0, .int .i64 0] 38 (0, 0)) := by
  obtain ⟨w5, hw5⟩ : ∃ x, x = ((w4.setCell ⟨G, 2, none⟩ (.int .i64 (((f : Int) + 1) % (S.length : Int)))).setCell ⟨G, 3, none⟩ (.int .i64 (L.length : Int))).setCell ⟨G, 4, none⟩ (.int .i64 ((p : Int) + 1)) := ⟨_, rfl⟩
  rw [← hw5]
  have hS : S ≠ [] := by have a := h.fits; rintro rfl; simp at a
  have hGw : G < w.heap.size := h.lt
  have hRw : R < w.heap.size := (h.ne hS).2.2.2.2
  have hG5 : w5.heap[G]? = some (.cells #[.int .i64 room, .slice ra S.length S.length, .int .i64 (((f + 1) % S.length : Nat) : Int), .int .i64 (L.length : Int), .int .i64 ((p + 1 : Nat) : Int)] 57 (0, 0)) := by
    rw [hw5]
    simp [World.setCell, Array.getElem?_modify, hO]
  have hR5 : w5.heap[R]? = some (.cells (flatS (S.set f s0)).toArray 38 (0, 0)) := by
    rw [hw5, Below.heap_setCell _ _ _ _ (Ne.symm h4), Below.heap_setCell _ _ _ _ (Ne.symm h4), Below.heap_setCell _ _ _ _ (Ne.symm h4)]
    exact hR
  have hK5 : Kp G R w w5 := by
    rw [hw5]
    exact ((hk.trans (Kp.set (.inl rfl) _)).trans (Kp.set (.inl rfl) _)).trans (Kp.set (.inl rfl) _)
  have hW5 : w5.heap[w.heap.size]? = w4.heap[w.heap.size]? := by
    have n1 : w.heap.size ≠ G := by omega
    rw [hw5, Below.heap_setCell _ _ _ _ n1, Below.heap_setCell _ _ _ _ n1, Below.heap_setCell _ _ _ _ n1]
  have hK := hK5.then4 (b := w.heap.size) (o := 0) (Nat.le_refl _) s
  have hr := hK.rd h.head.1
  rw [hs] at hr
  exact ⟨h.popped hK ((set4_other w5 w.heap.size 0 _ (by omega)).trans hG5) ((set4_other w5 w.heap.size 0 _ (by omega)).trans hR5), hr, hK, hW5.trans hW⟩

set_option maxHeartbeats 1000000 in
theorem pop_nil (w : World) : Calls Try.prog 10 #[.pointer none] w fun e w' => e = .returned (.tuple #[s0.val, .bool false]) ∧ Below w.heap.size w w' := by
  have HL := hid' (len_nil (w.alloc (.cells #[.slice none 0 0, .int .i64 0, .int .i64 0, .int .i64 0] 38)))
  go_enter Try.func10, Try.ntmps10
  go_wp2_with fail
  refine HL.out.mono ?_
  rintro e w1 ⟨rfl, rfl⟩
  clear HL
  go_wp2
  refine bodyPost_ret (v := .tuple #[s0.val, .bool false]) ?_ rfl ⟨rfl, (Below.refl _ w).alloc (Nat.le_refl _) _⟩
  unfold results
  go_simp
  rfl

set_option maxHeartbeats 1000000 in
theorem pop_empty (w : World) (G R : Nat) (room : Int) (p : Nat) (h : Q w G R room [] p) : Calls Try.prog 10 #[.pointer (some ⟨G, 0, none⟩)] w fun e w' => e = .returned (.tuple #[s0.val, .bool false]) ∧ Below w.heap.size w w' := by
  have hb0 : Below w.heap.size w (w.alloc (.cells #[.slice none 0 0, .int .i64 0, .int .i64 0, .int .i64 0] 38)) := (Below.refl _ w).alloc (Nat.le_refl _) _
  obtain ⟨S, f, ra, hq⟩ := h
  have HL := hid' (len_at G 0 (w.alloc (.cells #[.slice none 0 0, .int .i64 0, .int .i64 0, .int .i64 0] 38)) (hq.on hb0).cells.2.2.2.1)
  clear hq
  go_enter Try.func10, Try.ntmps10
  go_wp2_with fail
  refine HL.out.mono ?_
  rintro e w1 ⟨rfl, rfl⟩
  clear HL
  go_wp2
  refine bodyPost_ret (v := .tuple #[s0.val, .bool false]) ?_ rfl ⟨rfl, hb0⟩
  unfold results
  go_simp
  rfl

set_option maxRecDepth 10000 in
set_option maxHeartbeats 4000000 in
theorem pop_some (w : World) (G R : Nat) (room : Int) (L : List U) (u : U) (p : Nat) (h : Q w G R room (u :: L) p) (hp : p ≤ 1000000000) : Calls Try.prog 10 #[.pointer (some ⟨G, 0, none⟩)] w fun e w' => ∃ s : Slot, e = .returned (.tuple #[s.val, .bool true]) ∧ Rd (Out G R) w' s u ∧ Q w' G R room L (p + 1) ∧ Kp G R w w' := by
  obtain ⟨S, f, ra, h⟩ := h
  have hb0 : Below w.heap.size w (w.alloc (.cells #[.slice none 0 0, .int .i64 0, .int .i64 0, .int .i64 0] 38)) := (Below.refl _ w).alloc (Nat.le_refl _) _
  have hS : S ≠ [] := by have := h.fits; rintro rfl; simp at this
  have HQ := hid' h
  have HQ0 := hid' (h.on hb0)
  have HL := hid' (len_at G ((L.length : Int) + 1) (w.alloc (.cells #[.slice none 0 0, .int .i64 0, .int .i64 0, .int .i64 0] 38)) (by simpa using (h.on hb0).cells.2.2.2.1))
  have hq : ¬ (L.length : Int) + 1 = 0 := by omega
  have hL : L.length ≤ 131072 := by have a := h.fits; have b := h.most; rw [List.length_cons] at a; omega
  have hSl : S.length ≤ 131072 := h.most
  have hW0 : Hid ((w.alloc (.cells #[.slice none 0 0, .int .i64 0, .int .i64 0, .int .i64 0] 38)).heap[w.heap.size]? = some (.cells #[.slice none 0 0, .int .i64 0, .int .i64 0, .int .i64 0] 38 (0, 0))) := heap_alloc_new w _
  have hf := h.head.2
  have hpl : w.heap.size < (w.alloc (.cells #[.slice none 0 0, .int .i64 0, .int .i64 0, .int .i64 0] 38)).heap.size := by simp
  clear h
  go_enter Try.func10, Try.ntmps10
  go_wp2_with fail
  refine HL.out.mono ?_
  rintro e w1 ⟨rfl, rfl⟩
  clear HL
  generalize hw : (w.alloc (.cells #[.slice none 0 0, .int .i64 0, .int .i64 0, .int .i64 0] 38)) = w0 at *
  obtain ⟨h1, h2, h3, h4, h5⟩ := HQ0.out.ne hS
  obtain ⟨rm, q1, q2, q3, q4⟩ := HQ0.out.cells
  subst h2
  have hGl := HQ0.out.lt
  obtain ⟨r0, r1, r2, r3⟩ := C4.of_block h3 h1
  have HR0 := hid' h3
  have HB0 := hid' hb0
  generalize hs : S.getD f s0 = s at r0 r1 r2 r3
  obtain ⟨sa, sn, sc, ⟨st1, st2⟩, sd⟩ := s
  simp only at r0 r1 r2 r3
  clear h3 hw hb0 q3 q4 rm
  have HOB := hid' HQ0.out.obj
  go_wp2_with fail
  go_region
  generalize hw2 : (w0.alloc (.cells #[.slice sa sn sc, .int .i64 st1, .int .i64 st2, .int .i64 sd] 38)).drew = w2
  have hb2 : Below w0.heap.size w0 w2 := by rw [← hw2]; exact ((Below.refl _ w0).alloc (Nat.le_refl _) _).drew
  have HB2 := hid' hb2
  have HOB2 := hid' ((hb2.block G hGl).trans HOB.out)
  have HR2 := hid' ((hb2.block R h5).trans HR0.out)
  have HV2 : Hid (w2.heap[w0.heap.size]? = some (.cells #[.slice sa sn sc, .int .i64 st1, .int .i64 st2, .int .i64 sd] 38 (0, 0))) := by rw [← hw2]; exact heap_alloc_new w0 _
  have HW2 := hid' ((hb2.block w.heap.size hpl).trans hW0.out)
  have hz2 : w0.heap.size < w2.heap.size := by rw [← hw2]; simp
  have q1 : w2.cell? ⟨G, 1, none⟩ = some (.slice (some ⟨R, 0, none⟩) S.length S.length) := by rw [cell_of_row _ _ _ _ _ _ HOB2.out]; rfl
  have q2 : w2.cell? ⟨G, 2, none⟩ = some (.int .i64 (f : Int)) := by rw [cell_of_row _ _ _ _ _ _ HOB2.out]; rfl
  obtain ⟨r0, r1, r2, r3⟩ := C4.of_block HR2.out h1
  have f0 := frozen_of HR2.out (f * 4)
  have f1 := frozen_of HR2.out (f * 4 + 1)
  have f2 := frozen_of HR2.out (f * 4 + 2)
  have f3 := frozen_of HR2.out (f * 4 + 3)
  have hGl2 : G < w2.heap.size := by omega
  have hRl2 : R < w2.heap.size := by omega
  clear hw2 hb2
  go_wp2_with fail
  go_region
  generalize hw3 : ((((w2.setCell ⟨R, f * 4, none⟩ (.slice none 0 0)).setCell ⟨R, f * 4 + 1, none⟩ (.int .i64 0)).setCell ⟨R, f * 4 + 2, none⟩ (.int .i64 0)).setCell ⟨R, f * 4 + 3, none⟩ (.int .i64 0)).drew = w3
  have hw3' : w3 = (set4 w2 R (f * 4) s0).drew := hw3.symm
  have hz3 : w3.heap.size = w2.heap.size := by rw [hw3']; exact set4_size _ _ _ _
  have HK3 : Hid (Kp G R w2 w3) := by rw [hw3']; exact (set4_kp w2 G R (f * 4) s0).trans (Kp.of_below (Below.refl _ _).drew)
  have hR3 : w3.heap[R]? = some (.cells (flatS (S.set f s0)).toArray 38 (0, 0)) := by rw [hw3']; exact set4_at HR2.out h1 s0
  have hG3 : w3.heap[G]? = w2.heap[G]? := by rw [hw3']; exact set4_other w2 R (f * 4) s0 h4
  have HOB3 := hid' (hG3.trans HOB2.out)
  have HR3 := hid' hR3
  have q1 : w3.cell? ⟨G, 1, none⟩ = some (.slice (some ⟨R, 0, none⟩) S.length S.length) := by rw [cell_of_row _ _ _ _ _ _ HOB3.out]; rfl
  have q2 : w3.cell? ⟨G, 2, none⟩ = some (.int .i64 (f : Int)) := by rw [cell_of_row _ _ _ _ _ _ HOB3.out]; rfl
  have HPL := hid' (place_at G f 1 S.length (some ⟨R, 0, none⟩) w3 (by omega) (by omega) (by omega) (by omega) q1 q2)
  have HV3 : Hid (w3.heap[w0.heap.size]? = some (.cells #[.slice sa sn sc, .int .i64 st1, .int .i64 st2, .int .i64 sd] 38 (0, 0))) := by
    unfold Hid; rw [hw3']; exact (set4_other w2 R (f * 4) s0 (by omega)).trans HV2.out
  have HW3 : Hid (w3.heap[w.heap.size]? = some (.cells #[.slice none 0 0, .int .i64 0, .int .i64 0, .int .i64 0] 38 (0, 0))) := by
    have hRw : R < w.heap.size := ((HQ.out.ne hS).2.2.2.2)
    unfold Hid; rw [hw3']; exact (set4_other w2 R (f * 4) s0 (by omega)).trans HW2.out
  clear hw3 hw3' hR3 hG3 q1 q2 r0 r1 r2 r3 f0 f1 f2 f3
  go_wp2_with fail
  refine HPL.out.mono ?_
  rintro e w4 ⟨rfl, hb4⟩
  clear HPL
  have HOB4 := hid' ((hb4.block G (by omega)).trans HOB3.out)
  have HR4 := hid' ((hb4.block R (by omega)).trans HR3.out)
  have HV4 := hid' ((hb4.block w0.heap.size (by omega)).trans HV3.out)
  have HW4 := hid' ((hb4.block w.heap.size (by omega)).trans HW3.out)
  have HK4 := hid' (HK3.out.trans (Kp.of_below hb4))
  obtain ⟨v0, v1, v2, v3, _⟩ := up_cells HV4.out
  obtain ⟨x0, x1, x2, x3, y0, y1, y2, y3⟩ := up_cells HW4.out
  have g2 := frozen_of HOB4.out 2
  have g3 := frozen_of HOB4.out 3
  have g4 := frozen_of HOB4.out 4
  have q2 : w4.cell? ⟨G, 2, none⟩ = some (.int .i64 (f : Int)) := by rw [cell_of_row _ _ _ _ _ _ HOB4.out]; rfl
  have q3 : w4.cell? ⟨G, 3, none⟩ = some (.int .i64 ((L.length : Int) + 1)) := by rw [cell_of_row _ _ _ _ _ _ HOB4.out]; simp
  have q4 : w4.cell? ⟨G, 4, none⟩ = some (.int .i64 (p : Int)) := by rw [cell_of_row _ _ _ _ _ _ HOB4.out]; rfl
  have hGw : G < w.heap.size := HQ.out.lt
  have hz4 : w3.heap.size ≤ w4.heap.size := hb4.size
  have n1 : ¬ G = w.heap.size := by omega
  have n2 : ¬ G = w0.heap.size := by omega
  clear hb4
  go_wp2
  have HE := hid' (pop_end HQ.out h4 HOB4.out HR4.out HW4.out (((Kp.of_below HB0.out).trans (Kp.of_below HB2.out)).trans HK4.out) (Slot.mk sa sn sc (st1, st2) sd) hs)
  refine bodyPost_ret (v := .tuple #[Slot.val ⟨sa, sn, sc, (st1, st2), sd⟩, .bool true]) ?_ rfl ⟨_, rfl, HE.out.2.1, ⟨_, _, _, HE.out.1⟩, HE.out.2.2.1⟩
  obtain ⟨e0, e1, e2, e3, _⟩ := up_cells HE.out.2.2.2
  clear x0 x1 x2 x3 y0 y1 y2 y3 v0 v1 v2 v3 q2 q3 q4 g2 g3 g4 HE HOB HOB2 HOB3 HOB4 HR0 HR2 HR3 HR4 HV2 HV3 HV4 HW2 HW3 HW4 HK3 HK4 HQ HQ0 HB0 HB2 hW0 hs
  unfold results
  go_simp
  rfl

end Go.Proofs.Ytboeodcjcbgeaaa
