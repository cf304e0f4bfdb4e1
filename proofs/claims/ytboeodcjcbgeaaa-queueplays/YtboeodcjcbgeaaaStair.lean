/-
  What is proved here: sort.Search over a predicate that turns once; the steps of a frontier: under.
-/
import Derived.Test.YtboeodcjcbgeaaaTs
namespace Go.Proofs.Ytboeodcjcbgeaaa
open Go.RowKit
set_option linter.unusedVariables false
set_option linter.unusedSimpArgs false

set_option maxRecDepth 100000 in
set_option maxHeartbeats 1000000 in
theorem under1_any (w : World) (q e p : Nat) (a : Option Addr) (c n : Nat) (l : List T) (i : Nat) (ep : Int) (hq : w.cell? ⟨q, 0, none⟩ = some (.pointer (some ⟨p, 0, none⟩))) (he : w.cell? ⟨e, 0, none⟩ = some (.int .i64 ep))
    (hp : w.cell? ⟨p, 0, none⟩ = some (.slice a n c)) (hn : l.length = n) (ht : Ts w.heap.size w a l) (hi : i < n) (hb : n < 4611686018427387904) :
    Calls Try.prog 42 #[.int .i64 (i : Int), .pointer (some ⟨q, 0, none⟩), .pointer (some ⟨e, 0, none⟩)] w fun e w' => e = .returned (.bool (decide (ep < (l.getD i (0, 0)).1))) ∧ Gr w w' := by
  obtain ⟨b, off, rfl, hB, hc⟩ := ht.cells (by rintro rfl; simp at hn; omega)
  have p1 := (hc i (by omega)).1
  generalize (l.getD i (0, 0)).1 = x at p1
  clear hc ht hn
  go_enter Try.func42, Try.ntmps42
  go_wp2_with fail
  go_quiet (fail)
  go_wp2
  go_ret
  exact ⟨rfl, (Gr.refl w).drewN _⟩

set_option maxRecDepth 100000 in
set_option maxHeartbeats 1000000 in
theorem search_any (w : World) (n : Nat) (lb1 lb2 : Value) (p : Nat → Bool) (hn : n < 4611686018427387904)
    (hp : ∀ W (i : Nat), Gr w W → i < n → Calls Try.prog 42 #[.int .i64 (i : Int), lb1, lb2] W fun e W' => e = .returned (.bool (p i)) ∧ Gr W W') (mono : ∀ i j, i ≤ j → j < n → p i = true → p j = true) :
    Calls Try.prog 41 #[.int .i64 (n : Int), .func (.func 42) #[] #[lb1, lb2]] w fun e w' => ∃ k : Nat, e = .returned (.int .i64 (k : Int)) ∧ k ≤ n ∧ (∀ i, i < k → p i = false) ∧ (∀ i, k ≤ i → i < n → p i = true) ∧ Gr w w' := by
  have HP := hid' hp
  have HM := hid' mono
  clear hp mono
  go_enter Try.func41, Try.ntmps41
  go_wp2
  go_loopg [5, 6] n (fun k u v wr => ∃ lo hi : Nat, hi - lo ≤ k ∧ lo ≤ hi ∧ hi ≤ n ∧ u = .int .i64 (lo : Int) ∧ v = .int .i64 (hi : Int) ∧ Hid (∀ i, i < lo → p i = false) ∧ Hid (∀ i, hi ≤ i → i < n → p i = true) ∧ Gr w wr)
  case atStart => exact ⟨0, n, by omega, by omega, by omega, rfl, rfl, fun i h => by omega, fun i h h' => by omega, Gr.refl _⟩
  case round =>
    obtain ⟨lo, hi, hk, hle, hhi, rfl, rfl, h1, h2, hg⟩ := hrel
    by_cases hlt : lo < hi
    · obtain ⟨m, hm⟩ : ∃ m : Nat, (lo + hi) / 2 = m := ⟨_, rfl⟩
      have HM2 : lo ≤ m ∧ m < hi := by omega
      have HC := hid' (HP.out wr m hg (by omega))
      obtain ⟨b, hb⟩ : ∃ b, p m = b := ⟨_, rfl⟩
      rw [hb] at HC
      have HB := hid' hb
      have e : ((lo : Int) + (hi : Int)) / 2 = (m : Int) := by omega
      have HE := hid' e
      clear hb e
      go_wp2_with fail
      rw [HE.out]
      refine HC.out.mono ?_
      rintro e w' ⟨rfl, hg'⟩
      have hg2 := hg.trans hg'
      cases b with
      | false =>
        have H1' : Hid (∀ i, i < m + 1 → p i = false) := fun i hi' => by
          rcases Bool.eq_false_or_eq_true (p i) with h | h
          · have := HM.out i m (by omega) (by omega) h
            rw [HB.out] at this; cases this
          · exact h
        go_wp2
        go_roundg (hi - (m + 1))
        case measure => omega
        case rel => exact ⟨m + 1, hi, by omega, by omega, by omega, by simp, rfl, H1', h2, hg2⟩
      | true =>
        have H2' : Hid (∀ i, m ≤ i → i < n → p i = true) := fun i hi' hi2 => HM.out m i hi' hi2 HB.out
        go_wp2
        go_roundg (m - lo)
        case measure => omega
        case rel => exact ⟨lo, m, by omega, by omega, by omega, rfl, rfl, h1, H2', hg2⟩
    · go_wp2
      go_ret
      exact ⟨lo, rfl, by omega, h1.out, fun i hi' hi2 => h2.out i (by omega) hi2, hg⟩

set_option maxRecDepth 100000 in
/-- A variable of two cells. -/
theorem box_facts {w : World} {g : Nat} {x y : Value} {t : TypeId} (h : w.heap[g]? = some (.cells #[x, y] t (0, 0))) : w.cell? ⟨g, 0, none⟩ = some x ∧ w.cell? ⟨g, 1, none⟩ = some y ∧ w.frozen? ⟨g, 0, none⟩ = false ∧ w.frozen? ⟨g, 1, none⟩ = false :=
  ⟨by rw [cell_of_row _ _ _ _ _ _ h]; rfl, by rw [cell_of_row _ _ _ _ _ _ h]; rfl, by simp [World.frozen?, h], by simp [World.frozen?, h]⟩

/-- How many of the first times have an epoch that is not above one. -/
def upto (l : List T) (ep : Int) : Nat := l.countP fun x => decide (x.1 ≤ ep)

/-- Epochs do not fall. -/
def Rise (l : List T) : Prop := ∀ i j, i ≤ j → j < l.length → (l.getD i (0, 0)).1 ≤ (l.getD j (0, 0)).1

/-- What under answers. -/
def underT (l : List T) (ep : Int) : T × Bool := if upto l ep = 0 then ((0, 0), false) else (l.getD (upto l ep - 1) (0, 0), true)

set_option maxRecDepth 100000 in
theorem countP_split {α : Type} (p : α → Bool) (d : α) : ∀ (l : List α) (k : Nat), k ≤ l.length → (∀ i, i < k → p (l.getD i d) = true) → (∀ i, k ≤ i → i < l.length → p (l.getD i d) = false) → l.countP p = k
  | [], k, hk, _, _ => by simp at hk; simp [hk]
  | x :: l, 0, _, _, h2 => by
    have h0 := h2 0 (Nat.le_refl _) (by simp)
    have := countP_split p d l 0 (by omega) (fun i h => by omega) (fun i _ hi => by have := h2 (i + 1) (by omega) (by simpa using hi); simpa using this)
    simp at h0
    rw [List.countP_cons, this, h0]; simp
  | x :: l, k + 1, hk, h1, h2 => by
    have h0 := h1 0 (by omega)
    have := countP_split p d l k (by simpa using hk) (fun i hi => by have := h1 (i + 1) (by omega); simpa using this) (fun i hi hi2 => by have := h2 (i + 1) (by omega) (by simpa using hi2); simpa using this)
    simp at h0
    rw [List.countP_cons, this, h0]; simp

set_option maxRecDepth 100000 in
theorem upto_le (l : List T) (ep : Int) : upto l ep ≤ l.length := List.countP_le_length

set_option maxRecDepth 100000 in
set_option maxHeartbeats 1000000 in
theorem under_any (w : World) (p : Nat) (a : Option Addr) (c : Nat) (l : List T) (ep : Int) (hp : w.cell? ⟨p, 0, none⟩ = some (.slice a l.length c)) (ht : Ts w.heap.size w a l) (hpl : p < w.heap.size) (hr : Rise l) (hb : l.length < 4611686018427387904) :
    Calls Try.prog 36 #[.pointer (some ⟨p, 0, none⟩), .int .i64 ep] w fun e w' => e = .returned (.tuple #[tv (underT l ep).1, .bool (underT l ep).2]) ∧ Gr w w' := by
  obtain ⟨n, hn⟩ : ∃ n, l.length = n := ⟨_, rfl⟩
  rw [hn] at hp hb
  have HN := hid' hn
  have HT := hid' ht
  have HR := hid' hr
  clear hn ht hr
  have HS : Hid (∀ W : World, Gr (((w.alloc (.cells #[.pointer (some ⟨p, 0, none⟩)] 75)).alloc (.cells #[.int .i64 ep] 3)).alloc (.cells #[.int .i64 0, .int .i64 0] 36)) W →
      Calls Try.prog 41 #[.int .i64 (n : Int), .func (.func 42) #[] #[.pointer (some ⟨w.heap.size, 0, none⟩), .pointer (some ⟨w.heap.size + 1, 0, none⟩)]] W fun e w' => e = .returned (.int .i64 (upto l ep : Nat)) ∧ Gr W w') := by
    intro W hW
    have hsz := hW.below.size
    simp at hsz
    have h0 : (((w.alloc (.cells #[.pointer (some ⟨p, 0, none⟩)] 75)).alloc (.cells #[.int .i64 ep] 3)).alloc (.cells #[.int .i64 0, .int .i64 0] 36)).cell? ⟨w.heap.size, 0, none⟩ = some (.pointer (some ⟨p, 0, none⟩)) := by go_simp
    have h1 : (((w.alloc (.cells #[.pointer (some ⟨p, 0, none⟩)] 75)).alloc (.cells #[.int .i64 ep] 3)).alloc (.cells #[.int .i64 0, .int .i64 0] 36)).cell? ⟨w.heap.size + 1, 0, none⟩ = some (.int .i64 ep) := by go_simp
    have hgw : Gr w W := ((((Gr.refl w).alloc _).alloc _).alloc _).trans hW
    refine (search_any W n _ _ (fun i => decide (ep < (l.getD i (0, 0)).1)) hb (fun W' i hg hi => ?_) (fun i j hij hj hi => ?_)).mono ?_
    · have hg' := hW.trans hg
      exact under1_any W' w.heap.size (w.heap.size + 1) p a c n l i ep ((hg'.below.cell (p := ⟨w.heap.size, 0, none⟩) (by simp; omega)).trans h0) ((hg'.below.cell (p := ⟨w.heap.size + 1, 0, none⟩) (by simp)).trans h1) (((hgw.trans hg).below.cell (p := ⟨p, 0, none⟩) hpl).trans hp) HN.out (HT.out.gr (hgw.trans hg)) hi hb
    · simp only [decide_eq_true_eq] at hi ⊢
      have := HR.out i j hij (by rw [HN.out]; exact hj)
      omega
    · rintro e w' ⟨k, rfl, hk, h1, h2, hg⟩
      refine ⟨?_, hg⟩
      have : upto l ep = k := countP_split _ (0, 0) l k (by rw [HN.out]; exact hk) (fun i hi => by have := h1 i hi; simpa using this) (fun i hi hi2 => by have := h2 i hi (by rw [← HN.out]; exact hi2); simpa using this)
      rw [this]
  have hule := upto_le l ep
  rw [HN.out] at hule
  have HU : Hid (underT l ep = if upto l ep = 0 then ((0, 0), false) else (l.getD (upto l ep - 1) (0, 0), true)) := rfl
  generalize underT l ep = r at HU ⊢
  generalize upto l ep = k at HS HU hule
  have hp3 := ((((Gr.refl w).alloc (.cells #[.pointer (some ⟨p, 0, none⟩)] 75)).alloc (.cells #[.int .i64 ep] 3)).alloc (.cells #[.int .i64 0, .int .i64 0] 36)).below.cell (p := ⟨p, 0, none⟩) hpl
  rw [hp] at hp3
  go_enter Try.func36, Try.ntmps36
  go_wp2_with fail
  refine (HS.out _ (Gr.refl _)).mono ?_
  rintro e w1 ⟨rfl, hg1⟩
  have hgw : Gr w w1 := ((((Gr.refl w).alloc _).alloc _).alloc _).trans hg1
  have hsz := hg1.below.size
  simp at hsz
  have c0 : w1.cell? ⟨w.heap.size, 0, none⟩ = some (.pointer (some ⟨p, 0, none⟩)) := (hg1.below.cell (p := ⟨w.heap.size, 0, none⟩) (by simp; omega)).trans (by go_simp)
  have hbx : w1.heap[w.heap.size + 1 + 1]? = some (.cells #[.int .i64 0, .int .i64 0] 36 (0, 0)) := by
    refine (hg1.below.block (w.heap.size + 1 + 1) (by simp)).trans ?_
    have := World.alloc_heap_new ((w.alloc (.cells #[.pointer (some ⟨p, 0, none⟩)] 75)).alloc (.cells #[.int .i64 ep] 3)) (.cells #[.int .i64 0, .int .i64 0] 36)
    rwa [World.size_alloc, World.size_alloc] at this
  obtain ⟨c1, c2, f1, f2⟩ := box_facts hbx
  have hpw := (hgw.below.cell (p := ⟨p, 0, none⟩) hpl).trans hp
  have hts1 := HT.out.gr hgw
  clear hbx hp3 hp
  by_cases hk0 : k = 0
  · subst hk0
    have hr : Hid (r = ((0, 0), false)) := by unfold Hid; rw [HU.out, if_pos rfl]
    go_wp2
    (try simp only [Exit.inBlock, Exit.then])
    refine bodyPost_ret (v := .tuple #[tv r.1, .bool r.2]) ?_ rfl ⟨rfl, ?_⟩
    · rw [hr.out]; unfold results; go_simp; simp [tv]
    · exact (hgw.setCell (by simp <;> omega) _).setCell (by simp <;> omega) _
  · have hkn : k - 1 < n := by omega
    obtain ⟨b, off, rfl, hB, hc⟩ := hts1.cells (by intro e; have := HN.out; rw [e] at this; simp at this; omega)
    have p1 := (hc (k - 1) (by rw [HN.out]; exact hkn)).1
    have p2 := (hc (k - 1) (by rw [HN.out]; exact hkn)).2
    have hr : Hid (r = (l.getD (k - 1) (0, 0), true)) := by unfold Hid; rw [HU.out, if_neg hk0]
    generalize l.getD (k - 1) (0, 0) = x at p1 p2 hr
    obtain ⟨x1, x2⟩ := x
    obtain ⟨m, hm⟩ : ∃ m, k = m + 1 := ⟨k - 1, by omega⟩
    subst hm
    simp only [Nat.add_sub_cancel] at p1 p2 hkn
    clear hc hts1 hk0
    go_wp2
    (try simp only [Exit.inBlock, Exit.then])
    refine bodyPost_ret (v := .tuple #[tv r.1, .bool r.2]) ?_ rfl ⟨rfl, ?_⟩
    · rw [hr.out]; unfold results; go_simp; simp [tv]
    · exact (hgw.setCell (by simp <;> omega) _).setCell (by simp <;> omega) _

/-- What the method ahead answers. -/
def stepAhead (l : List T) (t : T) : Bool := (underT l t.1).2 && le2 (underT l t.1).1 t

set_option maxRecDepth 100000 in
set_option maxHeartbeats 1000000 in
theorem ahead_any (w : World) (p : Nat) (a : Option Addr) (c : Nat) (l : List T) (t : T) (hp : w.cell? ⟨p, 0, none⟩ = some (.slice a l.length c)) (ht : Ts w.heap.size w a l) (hpl : p < w.heap.size) (hr : Rise l) (hb : l.length < 4611686018427387904) :
    Calls Try.prog 31 #[.pointer (some ⟨p, 0, none⟩), .agg #[.int .i64 t.1, .int .i64 t.2]] w fun e w' => e = .returned (.bool (stepAhead l t)) ∧ Gr w w' := by
  obtain ⟨t1, t2⟩ := t
  have HA : Hid (stepAhead l (t1, t2) = ((underT l t1).2 && le2 (underT l t1).1 (t1, t2))) := rfl
  generalize stepAhead l (t1, t2) = r at HA ⊢
  have hg0 : Gr w (w.alloc (.cells #[.int .i64 t1, .int .i64 t2] 36)) := (Gr.refl w).alloc _
  have HU := hid' (under_any (w.alloc (.cells #[.int .i64 t1, .int .i64 t2] 36)) p a c l t1 ((hg0.below.cell (p := ⟨p, 0, none⟩) hpl).trans hp) (ht.gr hg0) (by simp; omega) hr hb)
  generalize underT l t1 = u at HU HA
  obtain ⟨⟨u1, u2⟩, ub⟩ := u
  simp only [tv] at HU HA
  clear hp ht hpl hr hb
  go_enter Try.func31, Try.ntmps31
  go_wp2_with fail
  refine HU.out.mono ?_
  clear HU
  rintro e w1 ⟨rfl, hg1⟩
  have hgw : Gr w w1 := hg0.trans hg1
  have hsz := hg1.below.size
  simp at hsz
  have c1 : w1.cell? ⟨w.heap.size, 0, none⟩ = some (.int .i64 t1) := (hg1.below.cell (p := ⟨w.heap.size, 0, none⟩) (by simp)).trans (by go_simp)
  have c2 : w1.cell? ⟨w.heap.size, 1, none⟩ = some (.int .i64 t2) := (hg1.below.cell (p := ⟨w.heap.size, 1, none⟩) (by simp)).trans (by go_simp)
  have hg2 : Gr w1 (w1.alloc (.cells #[.int .i64 u1, .int .i64 u2] 36)) := (Gr.refl w1).alloc _
  have d1 := (hg2.below.cell (p := ⟨w.heap.size, 0, none⟩) (by show w.heap.size < _; omega)).trans c1
  have d2 := (hg2.below.cell (p := ⟨w.heap.size, 1, none⟩) (by show w.heap.size < _; omega)).trans c2
  clear c1 c2 hg1
  cases ub with
  | false =>
    go_wp2
    go_ret
    exact ⟨by rw [HA.out]; rfl, hgw.trans hg2⟩
  | true =>
    have HL := hid' (lessEq_any (u1, u2) (t1, t2) (w1.alloc (.cells #[.int .i64 u1, .int .i64 u2] 36)))
    generalize le2 (u1, u2) (t1, t2) = lb at HL HA
    go_wp2_with fail
    refine HL.out.mono ?_
    clear HL
    rintro e w2 ⟨rfl, hg3⟩
    go_wp2
    go_ret
    exact ⟨by rw [HA.out]; rfl, (hgw.trans hg2).trans hg3⟩

end Go.Proofs.Ytboeodcjcbgeaaa
