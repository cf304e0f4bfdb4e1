/-
  What is proved here: slices.IndexFunc and ContainsFunc at the two functions that are handed to them; Ahead; what is no time.
-/
import Derived.Test.YtlamcgeboclkjaaNew
namespace Go.Proofs.Ytlamcgeboclkjaa
open Go.RowKit Go.Proofs
set_option linter.unusedVariables false
set_option linter.unusedSimpArgs false

set_option maxRecDepth 100000 in
set_option maxHeartbeats 1000000 in
theorem indexFunc_isNoTime (w : World) (a : Option Addr) (cap : Nat) (l : List T) (q : T → Bool) (h : Ts w.heap.size w a l) (hl : l.length < 4611686018427387904)
    (hp : ∀ W (x : T), Gr w W → Calls Try.prog 23 #[.agg #[.int .i64 x.1, .int .i64 x.2]] W fun e W' => e = .returned (.bool (q x)) ∧ Gr W W') :
    Calls Try.prog 31 #[.slice a l.length cap, .func (.func 23) #[] #[]] w fun e w' => ∃ z : Int, e = .returned (.int .i64 z) ∧ (0 ≤ z ↔ ∃ x ∈ l, q x = true) ∧ Gr w w' := by
  obtain ⟨n, hn⟩ : ∃ n, l.length = n := ⟨_, rfl⟩
  have HN := hid' hn
  have HTS := hid' h
  have HP := hid' hp
  rw [hn] at hl ⊢
  clear hn h hp
  go_enter Try.func31, Try.ntmps31
  go_wp2
  go_loopg [8] n (fun k i wr => ∃ j : Nat, j + k = n ∧ i = .int .i64 (j : Int) ∧ Hid (∀ x ∈ l.take j, q x = false) ∧ Gr w wr)
  case atStart => exact ⟨0, by omega, rfl, fun x hx => by simp at hx, Gr.refl _⟩
  case round =>
    obtain ⟨j, hj, rfl, hno, hg⟩ := hrel
    cases gk with
    | zero =>
      obtain rfl : j = n := by omega
      go_wp2
      go_ret
      refine ⟨-1, rfl, ⟨fun h => by omega, fun ⟨x, hx, hq⟩ => ?_⟩, hg⟩
      have := hno.out x (by rw [List.take_of_length_le (Nat.le_of_eq HN.out)]; exact hx)
      rw [hq] at this; cases this
    | succ k =>
      have hjl : j < l.length := by rw [HN.out]; omega
      have HTR := hid' (HTS.out.gr hg)
      obtain ⟨b, off, rfl, hB, hc⟩ := HTR.out.cells (by rintro rfl; simp at hjl)
      have p1 := (hc j hjl).1
      have p2 := (hc j hjl).2
      have HX : Hid (l.take (j + 1) = l.take j ++ [l.getD j (0, 0)] ∧ l.getD j (0, 0) ∈ l) := ⟨by rw [List.take_add_one]; simp [List.getD, List.getElem?_eq_getElem hjl], getD_mem hjl⟩
      have HC := hid' (HP.out wr (l.getD j (0, 0)) hg)
      generalize l.getD j (0, 0) = x at p1 p2 HX HC
      obtain ⟨x1, x2⟩ := x
      obtain ⟨qb, hqb⟩ : ∃ qb, q (x1, x2) = qb := ⟨_, rfl⟩
      rw [hqb] at HC
      have HQ := hid' hqb
      simp only at HC
      clear hc hqb hjl
      go_wp2_with fail
      refine HC.out.mono ?_
      clear HC
      rintro e w2 ⟨rfl, hg2⟩
      cases qb with
      | true =>
        go_wp2
        go_ret
        exact ⟨j, rfl, ⟨fun _ => ⟨_, HX.out.2, HQ.out⟩, fun _ => by omega⟩, hg.trans hg2⟩
      | false =>
        have HN2 : Hid (∀ x ∈ l.take (j + 1), q x = false) := fun x hx => by
          rw [HX.out.1] at hx
          rcases List.mem_append.1 hx with hx | hx
          · exact hno.out x hx
          · simp at hx; subst hx; exact HQ.out
        go_wp2
        go_roundg k
        case measure => omega
        case rel => exact ⟨j + 1, by omega, by simp, HN2, hg.trans hg2⟩

set_option maxRecDepth 100000 in
set_option maxHeartbeats 1000000 in
theorem containsFunc_isNoTime (w : World) (a : Option Addr) (cap : Nat) (l : List T) (q : T → Bool) (h : Ts w.heap.size w a l) (hl : l.length < 4611686018427387904)
    (hp : ∀ W (x : T), Gr w W → Calls Try.prog 23 #[.agg #[.int .i64 x.1, .int .i64 x.2]] W fun e W' => e = .returned (.bool (q x)) ∧ Gr W W') :
    Calls Try.prog 22 #[.slice a l.length cap, .func (.func 23) #[] #[]] w fun e w' => ∃ b : Bool, e = .returned (.bool b) ∧ (b = true ↔ ∃ x ∈ l, q x = true) ∧ Gr w w' := by
  have HI := hid' (indexFunc_isNoTime w a cap l q h hl hp)
  clear h hl hp
  go_enter Try.func22, Try.ntmps22
  go_wp2_with fail
  refine HI.out.mono ?_
  clear HI
  rintro e w1 ⟨z, rfl, hz, hg⟩
  have HZ := hid' hz
  clear hz
  go_wp2
  go_ret
  exact ⟨decide (0 ≤ z), rfl, by rw [← HZ.out]; simp, hg⟩

/-- In advance of a list, as a bool. -/
def advB (l : List T) (t : T) : Bool := l.any fun y => le2 y t

set_option maxRecDepth 100000 in
theorem advB_iff (l : List T) (t : T) : advB l t = true ↔ Adv l t := by simp [advB, Adv]

set_option maxRecDepth 100000 in
theorem bool_eq {a b : Bool} (h : a = true ↔ b = true) : a = b := by cases a <;> cases b <;> simp_all

set_option maxRecDepth 100000 in
set_option maxHeartbeats 1000000 in
theorem isNoTime_any (W : World) (x : T) : Calls Try.prog 23 #[.agg #[.int .i64 x.1, .int .i64 x.2]] W fun e W' => e = .returned (.bool (decide (checkT x ≠ 0))) ∧ Gr W W' := by
  obtain ⟨x1, x2⟩ := x
  have HL := hid' (check_any (x1, x2) (W.alloc (.cells #[.int .i64 x1, .int .i64 x2] 31)))
  generalize checkT (x1, x2) = r at HL ⊢
  go_enter Try.func23, Try.ntmps23
  go_wp2_with fail
  refine HL.out.mono ?_
  rintro e w1 ⟨rfl, hg⟩
  go_wp2
  go_ret
  exact ⟨by simp; rfl, ((Gr.refl W).alloc _).trans hg⟩

end Go.Proofs.Ytlamcgeboclkjaa
