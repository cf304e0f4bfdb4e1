/-
  What is proved here: slices.IndexFunc and ContainsFunc at the two functions that are handed to them; Ahead; what is no time.
-/
import Derived.Test.YtaadbjnfnmjkfaaNew
namespace Go.Proofs.Ytaadbjnfnmjkfaa
open Go.RowKit Go.Proofs
set_option linter.unusedVariables false
set_option linter.unusedSimpArgs false

set_option maxHeartbeats 1000000 in
theorem indexFunc_ahead (w : World) (a : Option Addr) (cap : Nat) (l : List T) (lb : Value) (q : T → Bool) (h : Ts w.heap.size w a l) (hl : l.length < 4611686018427387904)
    (hp : ∀ W (x : T), Gr w W → Calls Try.prog 39 #[.agg #[.int .i64 x.1, .int .i64 x.2], lb] W fun e W' => e = .returned (.bool (q x)) ∧ Gr W W') :
    Calls Try.prog 49 #[.slice a l.length cap, .func (.func 39) #[] #[lb]] w fun e w' => ∃ z : Int, e = .returned (.int .i64 z) ∧ (0 ≤ z ↔ ∃ x ∈ l, q x = true) ∧ Gr w w' := by
  obtain ⟨n, hn⟩ : ∃ n, l.length = n := ⟨_, rfl⟩
  have HN := hid' hn
  have HTS := hid' h
  have HP := hid' hp
  rw [hn] at hl ⊢
  clear hn h hp
  go_enter Try.func49, Try.ntmps49
  go_wp2
  go_loopg [8] n (fun k i wr => ∃ j : Nat, j + k = n ∧ i = .int .i64 (j : Int) ∧ Hid (∀ x ∈ l.take j, q x = false) ∧ Gr w wr)
  case atStart => exact ⟨0, by omega, rfl, fun x hx => by simp at hx, Gr.refl _⟩
  case round =>
    obtain ⟨j, hj, rfl, hno, hg⟩ := hrel
    cases gk with
    | zero =>
      obtain rfl : j = n := by omega
      go_wp2
      go_ret
      refine ⟨-1, rfl, ⟨fun h => by omega, fun ⟨x, hx, hq⟩ => ?_⟩, hg⟩
      have := hno.out x (by rw [List.take_of_length_le (Nat.le_of_eq HN.out)]; exact hx)
      rw [hq] at this; cases this
    | succ k =>
      have hjl : j < l.length := by rw [HN.out]; omega
      have HTR := hid' (HTS.out.gr hg)
      obtain ⟨b, off, rfl, hB, hc⟩ := HTR.out.cells (by rintro rfl; simp at hjl)
      have p1 := (hc j hjl).1
      have p2 := (hc j hjl).2
      have HX : Hid (l.take (j + 1) = l.take j ++ [l.getD j (0, 0)] ∧ l.getD j (0, 0) ∈ l) := ⟨by rw [List.take_add_one]; simp [List.getD, List.getElem?_eq_getElem hjl], getD_mem hjl⟩
      have HC := hid' (HP.out wr (l.getD j (0, 0)) hg)
      generalize l.getD j (0, 0) = x at p1 p2 HX HC
      obtain ⟨x1, x2⟩ := x
      obtain ⟨qb, hqb⟩ : ∃ qb, q (x1, x2) = qb := ⟨_, rfl⟩
      rw [hqb] at HC
      have HQ := hid' hqb
      simp only at HC
      clear hc hqb hjl
      go_wp2_with fail
      refine HC.out.mono ?_
      clear HC
      rintro e w2 ⟨rfl, hg2⟩
      cases qb with
      | true =>
        go_wp2
        go_ret
        exact ⟨j, rfl, ⟨fun _ => ⟨_, HX.out.2, HQ.out⟩, fun _ => by omega⟩, hg.trans hg2⟩
      | false =>
        have HN2 : Hid (∀ x ∈ l.take (j + 1), q x = false) := fun x hx => by
          rw [HX.out.1] at hx
          rcases List.mem_append.1 hx with hx | hx
          · exact hno.out x hx
          · simp at hx; subst hx; exact HQ.out
        go_wp2
        go_roundg k
        case measure => omega
        case rel => exact ⟨j + 1, by omega, by simp, HN2, hg.trans hg2⟩

set_option maxHeartbeats 1000000 in
theorem containsFunc_ahead (w : World) (a : Option Addr) (cap : Nat) (l : List T) (lb : Value) (q : T → Bool) (h : Ts w.heap.size w a l) (hl : l.length < 4611686018427387904)
    (hp : ∀ W (x : T), Gr w W → Calls Try.prog 39 #[.agg #[.int .i64 x.1, .int .i64 x.2], lb] W fun e W' => e = .returned (.bool (q x)) ∧ Gr W W') :
    Calls Try.prog 32 #[.slice a l.length cap, .func (.func 39) #[] #[lb]] w fun e w' => ∃ b : Bool, e = .returned (.bool b) ∧ (b = true ↔ ∃ x ∈ l, q x = true) ∧ Gr w w' := by
  have HI := hid' (indexFunc_ahead w a cap l lb q h hl hp)
  clear h hl hp
  go_enter Try.func32, Try.ntmps32
  go_wp2_with fail
  refine HI.out.mono ?_
  clear HI
  rintro e w1 ⟨z, rfl, hz, hg⟩
  have HZ := hid' hz
  clear hz
  go_wp2
  go_ret
  exact ⟨decide (0 ≤ z), rfl, by rw [← HZ.out]; simp, hg⟩

set_option maxHeartbeats 1000000 in
theorem indexFunc_isNoTime (w : World) (a : Option Addr) (cap : Nat) (l : List T) (q : T → Bool) (h : Ts w.heap.size w a l) (hl : l.length < 4611686018427387904)
    (hp : ∀ W (x : T), Gr w W → Calls Try.prog 33 #[.agg #[.int .i64 x.1, .int .i64 x.2]] W fun e W' => e = .returned (.bool (q x)) ∧ Gr W W') :
    Calls Try.prog 49 #[.slice a l.length cap, .func (.func 33) #[] #[]] w fun e w' => ∃ z : Int, e = .returned (.int .i64 z) ∧ (0 ≤ z ↔ ∃ x ∈ l, q x = true) ∧ Gr w w' := by
  obtain ⟨n, hn⟩ : ∃ n, l.length = n := ⟨_, rfl⟩
  have HN := hid' hn
  have HTS := hid' h
  have HP := hid' hp
  rw [hn] at hl ⊢
  clear hn h hp
  go_enter Try.func49, Try.ntmps49
  go_wp2
  go_loopg [8] n (fun k i wr => ∃ j : Nat, j + k = n ∧ i = .int .i64 (j : Int) ∧ Hid (∀ x ∈ l.take j, q x = false) ∧ Gr w wr)
  case atStart => exact ⟨0, by omega, rfl, fun x hx => by simp at hx, Gr.refl _⟩
  case round =>
    obtain ⟨j, hj, rfl, hno, hg⟩ := hrel
    cases gk with
    | zero =>
      obtain rfl : j = n := by omega
      go_wp2
      go_ret
      refine ⟨-1, rfl, ⟨fun h => by omega, fun ⟨x, hx, hq⟩ => ?_⟩, hg⟩
      have := hno.out x (by rw [List.take_of_length_le (Nat.le_of_eq HN.out)]; exact hx)
      rw [hq] at this; cases this
    | succ k =>
      have hjl : j < l.length := by rw [HN.out]; omega
      have HTR := hid' (HTS.out.gr hg)
      obtain ⟨b, off, rfl, hB, hc⟩ := HTR.out.cells (by rintro rfl; simp at hjl)
      have p1 := (hc j hjl).1
      have p2 := (hc j hjl).2
      have HX : Hid (l.take (j + 1) = l.take j ++ [l.getD j (0, 0)] ∧ l.getD j (0, 0) ∈ l) := ⟨by rw [List.take_add_one]; simp [List.getD, List.getElem?_eq_getElem hjl], getD_mem hjl⟩
      have HC := hid' (HP.out wr (l.getD j (0, 0)) hg)
      generalize l.getD j (0, 0) = x at p1 p2 HX HC
      obtain ⟨x1, x2⟩ := x
      obtain ⟨qb, hqb⟩ : ∃ qb, q (x1, x2) = qb := ⟨_, rfl⟩
      rw [hqb] at HC
      have HQ := hid' hqb
      simp only at HC
      clear hc hqb hjl
      go_wp2_with fail
      refine HC.out.mono ?_
      clear HC
      rintro e w2 ⟨rfl, hg2⟩
      cases qb with
      | true =>
        go_wp2
        go_ret
        exact ⟨j, rfl, ⟨fun _ => ⟨_, HX.out.2, HQ.out⟩, fun _ => by omega⟩, hg.trans hg2⟩
      | false =>
        have HN2 : Hid (∀ x ∈ l.take (j + 1), q x = false) := fun x hx => by
          rw [HX.out.1] at hx
          rcases List.mem_append.1 hx with hx | hx
          · exact hno.out x hx
          · simp at hx; subst hx; exact HQ.out
        go_wp2
        go_roundg k
        case measure => omega
        case rel => exact ⟨j + 1, by omega, by simp, HN2, hg.trans hg2⟩

set_option maxHeartbeats 1000000 in
theorem containsFunc_isNoTime (w : World) (a : Option Addr) (cap : Nat) (l : List T) (q : T → Bool) (h : Ts w.heap.size w a l) (hl : l.length < 4611686018427387904)
    (hp : ∀ W (x : T), Gr w W → Calls Try.prog 33 #[.agg #[.int .i64 x.1, .int .i64 x.2]] W fun e W' => e = .returned (.bool (q x)) ∧ Gr W W') :
    Calls Try.prog 32 #[.slice a l.length cap, .func (.func 33) #[] #[]] w fun e w' => ∃ b : Bool, e = .returned (.bool b) ∧ (b = true ↔ ∃ x ∈ l, q x = true) ∧ Gr w w' := by
  have HI := hid' (indexFunc_isNoTime w a cap l q h hl hp)
  clear h hl hp
  go_enter Try.func32, Try.ntmps32
  go_wp2_with fail
  refine HI.out.mono ?_
  clear HI
  rintro e w1 ⟨z, rfl, hz, hg⟩
  have HZ := hid' hz
  clear hz
  go_wp2
  go_ret
  exact ⟨decide (0 ≤ z), rfl, by rw [← HZ.out]; simp, hg⟩

set_option maxHeartbeats 1000000 in
theorem ahead1_any (W : World) (g : Nat) (x t : T) (h : W.heap[g]? = some (.cells #[.int .i64 t.1, .int .i64 t.2] 32 (0, 0))) :
    Calls Try.prog 39 #[.agg #[.int .i64 x.1, .int .i64 x.2], .pointer (some ⟨g, 0, none⟩)] W fun e W' => e = .returned (.bool (le2 x t)) ∧ Gr W W' := by
  obtain ⟨x1, x2⟩ := x
  obtain ⟨t1, t2⟩ := t
  have hgl : g < W.heap.size := (Array.getElem?_eq_some_iff.1 h).1
  have h2 : (W.alloc (.cells #[.int .i64 x1, .int .i64 x2] 32)).heap[g]? = some (.cells #[.int .i64 t1, .int .i64 t2] 32 (0, 0)) := (Below.heap_alloc _ _ _ hgl).trans h
  obtain ⟨c1, c2, f1, f2⟩ := box_facts h2
  have HL := hid' (lessEq_any (x1, x2) (t1, t2) (W.alloc (.cells #[.int .i64 x1, .int .i64 x2] 32)))
  generalize le2 (x1, x2) (t1, t2) = r at HL ⊢
  clear h h2 f1 f2
  go_enter Try.func39, Try.ntmps39
  go_wp2_with fail
  refine HL.out.mono ?_
  rintro e w1 ⟨rfl, hg⟩
  go_wp2
  go_ret
  exact ⟨rfl, ((Gr.refl W).alloc _).trans hg⟩

/-- In advance of a list, as a bool. -/
def advB (l : List T) (t : T) : Bool := l.any fun y => le2 y t

theorem advB_iff (l : List T) (t : T) : advB l t = true ↔ Adv l t := by simp [advB, Adv]

theorem bool_eq {a b : Bool} (h : a = true ↔ b = true) : a = b := by cases a <;> cases b <;> simp_all

set_option maxHeartbeats 1000000 in
theorem Ahead_any (w : World) (a : Option Addr) (cap : Nat) (l : List T) (t : T) (h : Ts w.heap.size w a l) (hl : l.length < 4611686018427387904) :
    Calls Try.prog 23 #[.slice a l.length cap, .agg #[.int .i64 t.1, .int .i64 t.2]] w fun e w' => e = .returned (.bool (advB l t)) ∧ Gr w w' := by
  obtain ⟨t1, t2⟩ := t
  have hg0 : Gr w (w.alloc (.cells #[.int .i64 t1, .int .i64 t2] 32)) := (Gr.refl w).alloc _
  have HC := hid' (containsFunc_ahead (w.alloc (.cells #[.int .i64 t1, .int .i64 t2] 32)) a cap l (.pointer (some ⟨w.heap.size, 0, none⟩)) (fun y => le2 y (t1, t2)) (h.gr hg0) hl (fun W x hW =>
    ahead1_any W w.heap.size x (t1, t2) ((hW.below.block w.heap.size (by simp)).trans (World.alloc_heap_new w _))))
  have HB : Hid (advB l (t1, t2) = true ↔ ∃ x ∈ l, le2 x (t1, t2) = true) := advB_iff l _
  generalize advB l (t1, t2) = r at HB ⊢
  clear h hl
  go_enter Try.func23, Try.ntmps23
  go_wp2_with fail
  refine HC.out.mono ?_
  clear HC
  rintro e w1 ⟨b, rfl, hb, hg⟩
  have e : b = r := bool_eq (hb.trans HB.out.symm)
  subst e
  clear hb HB
  go_wp2
  go_ret
  exact ⟨rfl, hg0.trans hg⟩

set_option maxHeartbeats 1000000 in
theorem isNoTime_any (W : World) (x : T) : Calls Try.prog 33 #[.agg #[.int .i64 x.1, .int .i64 x.2]] W fun e W' => e = .returned (.bool (decide (checkT x ≠ 0))) ∧ Gr W W' := by
  obtain ⟨x1, x2⟩ := x
  have HL := hid' (check_any (x1, x2) (W.alloc (.cells #[.int .i64 x1, .int .i64 x2] 32)))
  generalize checkT (x1, x2) = r at HL ⊢
  go_enter Try.func33, Try.ntmps33
  go_wp2_with fail
  refine HL.out.mono ?_
  rintro e w1 ⟨rfl, hg⟩
  go_wp2
  go_ret
  exact ⟨by simp; rfl, ((Gr.refl W).alloc _).trans hg⟩

set_option maxHeartbeats 1000000 in
theorem rAhead_any (w : World) (a : Option Addr) (cap : Nat) (l : List T) (t : T) (h : Ts w.heap.size w a l) (hl : l.length < 4611686018427387904) :
    Calls Try.prog 24 #[.slice a l.length cap, .agg #[.int .i64 t.1, .int .i64 t.2]] w fun e w' => e = .returned (.bool (advB l t)) ∧ Gr w w' := by
  obtain ⟨t1, t2⟩ := t
  have mixed : Try.prog.follows .mixedOrders = true := by kernel_rfl
  have HB := hid' (advB_iff l (t1, t2))
  generalize advB l (t1, t2) = r at HB ⊢
  obtain ⟨n, hn⟩ : ∃ n, l.length = n := ⟨_, rfl⟩
  have HN := hid' hn
  have HTS := hid' h
  rw [hn] at hl ⊢
  clear hn h
  go_enter Try.func24, Try.ntmps24
  go_wp2
  go_loopg [5] n (fun k i wr => ∃ j : Nat, j + k = n ∧ i = .int .i64 (j : Int) ∧ Hid (∀ x ∈ l.take j, le2 x (t1, t2) = false) ∧ Gr (w.alloc (.cells #[.int .i64 t1, .int .i64 t2] 32)) wr)
  case atStart => exact ⟨0, by omega, rfl, fun x hx => by simp at hx, Gr.refl _⟩
  case round =>
    obtain ⟨j, hj, rfl, hno, hg⟩ := hrel
    have hgw : Gr w wr := ((Gr.refl w).alloc _).trans hg
    cases gk with
    | zero =>
      obtain rfl : j = n := by omega
      have HR : Hid (r = false) := by
        unfold Hid
        cases r with
        | false => rfl
        | true =>
          obtain ⟨x, hx, hq⟩ := HB.out.1 rfl
          have := hno.out x (by rw [List.take_of_length_le (Nat.le_of_eq HN.out)]; exact hx)
          rw [hq] at this; cases this
      go_wp2
      go_ret
      exact ⟨by rw [HR.out]; rfl, hgw⟩
    | succ k =>
      have hjl : j < l.length := by rw [HN.out]; omega
      have HTR := hid' (HTS.out.gr hgw)
      obtain ⟨b, off, rfl, hB, hc⟩ := HTR.out.cells (by rintro rfl; simp at hjl)
      have p1 := (hc j hjl).1
      have p2 := (hc j hjl).2
      have HX : Hid (l.take (j + 1) = l.take j ++ [l.getD j (0, 0)] ∧ l.getD j (0, 0) ∈ l) := ⟨by rw [List.take_add_one]; simp [List.getD, List.getElem?_eq_getElem hjl], getD_mem hjl⟩
      generalize l.getD j (0, 0) = x at p1 p2 HX
      obtain ⟨x1, x2⟩ := x
      have hw1 : w.heap.size < wr.heap.size := by have := hg.below.size; simp at this; omega
      have d1 : wr.cell? ⟨w.heap.size, 0, none⟩ = some (.int .i64 t1) := (hg.below.cell (p := ⟨w.heap.size, 0, none⟩) (by simp)).trans (by go_simp)
      have d2 : wr.cell? ⟨w.heap.size, 1, none⟩ = some (.int .i64 t2) := (hg.below.cell (p := ⟨w.heap.size, 1, none⟩) (by simp)).trans (by go_simp)
      have C1 := fun n os => cell_grown (a := ⟨b, off + j * 2, none⟩) hB p1 n os
      have C2 := fun n os => cell_grown (a := ⟨b, off + j * 2 + 1, none⟩) hB p2 n os
      have D1 := fun n os => cell_grown (a := ⟨w.heap.size, 0, none⟩) hw1 d1 n os
      have D2 := fun n os => cell_grown (a := ⟨w.heap.size, 1, none⟩) hw1 d2 n os
      have HC : Hid (∀ n os, Calls Try.prog 27 #[.agg #[.int .i64 x1, .int .i64 x2], .agg #[.int .i64 t1, .int .i64 t2]] (Sort.grow (wr.drewN n) os) fun e w' => e = .returned (.bool (le2 (x1, x2) (t1, t2))) ∧ ∃ q os', w' = Sort.grow ((Sort.grow (wr.drewN n) os).drewN q) os') := fun n os =>
        (refLessEq_any (x1, x2) (t1, t2) _).mono fun e w' ⟨he, hg⟩ => ⟨he, hg.grow⟩
      obtain ⟨qb, hqb⟩ : ∃ qb, le2 (x1, x2) (t1, t2) = qb := ⟨_, rfl⟩
      rw [hqb] at HC
      have HQ := hid' hqb
      clear hc hqb hjl p1 p2 d1 d2
      go_wp2_with fail
      go_quiet_grown (first | (go_at_call 27; exact Calls.grown_of (HC.out _ _)))
      have hg2 : Gr (w.alloc (.cells #[.int .i64 t1, .int .i64 t2] 32)) (Sort.grow (wr.drewN nq) osq) := hg.trans (Gr.of_grow _ _ _)
      clear C1 C2 D1 D2 HC
      cases qb with
      | true =>
        have HR : Hid (r = true) := HB.out.2 ⟨_, HX.out.2, HQ.out⟩
        go_wp2
        go_ret
        exact ⟨by rw [HR.out]; rfl, ((Gr.refl w).alloc _).trans hg2⟩
      | false =>
        have HN2 : Hid (∀ x ∈ l.take (j + 1), le2 x (t1, t2) = false) := fun x hx => by
          rw [HX.out.1] at hx
          rcases List.mem_append.1 hx with hx | hx
          · exact hno.out x hx
          · simp at hx; subst hx; exact HQ.out
        go_wp2
        go_roundg k
        case measure => omega
        case rel => exact ⟨j + 1, by omega, by simp, HN2, hg2⟩

end Go.Proofs.Ytaadbjnfnmjkfaa
