/-
  What is proved here: times as keys of a map: what a time reads as, as a key; the keys that a walk over the map has met; maps.Keys and its iterator.
-/
import Derived.Test.YtboeodcjcbgeaaaOrd
import Derived.Shelf.AbstractIn
import Derived.Maps.OwnSet
import Derived.Maps.Views
import Derived.DeepKeys4
import Derived.RangeFuncGives
import Derived.Sort.MapsRangeIn
import Derived.Sort.KeysCollected
import Derived.OwnWalkIn
import Derived.TacticsInMore
import Derived.RegionIn
import Derived.LoopNIn
import Derived.LoopIn
namespace Go.Proofs.Ytboeodcjcbgeaaa
open Go.RowKit Go.Maps
set_option linter.unusedVariables false
set_option linter.unusedSimpArgs false

set_option maxRecDepth 100000 in
theorem laidOut : laidOutB Try.prog = true := by kernel_rfl
set_option maxRecDepth 100000 in
theorem row37 : (80 : TypeId) < Try.prog.types.size := of_decide_eq_true (by kernel_rfl)
set_option maxRecDepth 100000 in
theorem cells37 : Try.prog.cellsOf 80 = 2 := by kernel_rfl
set_option maxRecDepth 100000 in
theorem cells3 : Try.prog.cellsOf 3 = 1 := by kernel_rfl
set_option maxRecDepth 100000 in
theorem wide37 : (match Try.prog.underlying 80 with | some (.array _ _) | some (.struct _) => true | _ => false) = true := by kernel_rfl
set_option maxRecDepth 100000 in
theorem deep37 : Try.prog.keyType 80 = true := by kernel_rfl
set_option maxRecDepth 100000 in
theorem keyed37 : Keyed Try.prog 80 := Keyed.of_law (deep_law_laid laidOut (m := 2) (by omega) row37 (by kernel_rfl) wide37)

/-- What a time reads as, as a key. -/
def kl (x : T) : Lit := .string (keyBytes [.int .i64 x.1, .int .i64 x.2])

set_option maxRecDepth 100000 in
theorem R64.wf {z : Int} (h : R64 z) : (Lit.int .i64 z).wf = true := by
  unfold R64 at h
  have e : IntKind.i64.min = -9223372036854775808 := by decide
  simp [Lit.wf, e]
  exact h

set_option maxRecDepth 100000 in
theorem R64.of_wf {z : Int} (h : (Lit.int .i64 z).wf = true) : R64 z := by
  have e : IntKind.i64.min = -9223372036854775808 := by decide
  simp [Lit.wf, e] at h
  exact h

set_option maxRecDepth 100000 in
theorem types2 : Try.prog.types.size + 1 = 134 + 2 := by kernel_rfl

set_option maxRecDepth 100000 in
theorem keyLits_two (c d : Value) : Try.prog.keyLits (134 + 2) 80 [c, d] = (Try.prog.keyLits (134 + 1) 3 [c]).bind fun a => (Try.prog.keyLits (134 + 1) 3 [d]).bind fun b => some (a ++ b) := by
  have u37 := Try.underlying80
  conv => lhs; unfold Program.keyLits
  simp [u37, cells37, cells3]
  cases Try.prog.keyLits 135 3 [c] with
  | none => rfl
  | some a =>
    cases Try.prog.keyLits 135 3 [d] with
    | none => rfl
    | some b => simp

set_option maxRecDepth 100000 in
theorem keyLits_one (z : Int) (h : R64 z) : Try.prog.keyLits (134 + 1) 3 [.int .i64 z] = some [.int .i64 z] := by
  have u3 := Try.underlying3
  simp [Program.keyLits, u3, h.wf]

set_option maxRecDepth 100000 in
theorem keyLits_inv {c : Value} {a : List Lit} (h : Try.prog.keyLits (134 + 1) 3 [c] = some a) : ∃ z, R64 z ∧ c = .int .i64 z ∧ a = [.int .i64 z] := by
  have u3 := Try.underlying3
  cases c <;> simp [Program.keyLits, u3] at h
  obtain ⟨⟨rfl, hw⟩, rfl⟩ := h
  exact ⟨_, R64.of_wf hw, rfl, rfl⟩

set_option maxRecDepth 100000 in
theorem keyOf_mk {x : T} (h : RT x) : keyOf Try.prog 80 (tv x) = some (kl x) := by
  have u37 := Try.underlying80
  have hf : (tv x).formed Try.prog 80 = true := by simp [tv, Value.formed, u37, cells37]
  have hc : (tv x).cells.toList = [.int .i64 x.1, .int .i64 x.2] := by simp [tv, Value.cells]
  unfold keyOf
  rw [u37]
  simp only [deep37, hf, Bool.and_self, if_true, hc]
  rw [types2, keyLits_two, keyLits_one _ h.1, keyLits_one _ h.2]
  rfl

set_option maxRecDepth 100000 in
theorem keyOf_inv {v : Value} {l : Lit} (h : keyOf Try.prog 80 v = some l) : ∃ x : T, RT x ∧ v = tv x ∧ l = kl x := by
  have u37 := Try.underlying80
  unfold keyOf at h
  rw [u37] at h
  simp only [deep37, Bool.true_and] at h
  split at h
  · rename_i hf
    cases v <;> simp [Value.formed, u37, cells37] at hf
    rename_i cs
    obtain ⟨l2⟩ := cs
    match l2, hf with
    | [c, d], _ =>
      simp only [Value.cells] at h
      rw [types2, keyLits_two] at h
      cases ha : Try.prog.keyLits (134 + 1) 3 [c] with
      | none => rw [ha] at h; simp at h
      | some a =>
        cases hb : Try.prog.keyLits (134 + 1) 3 [d] with
        | none => rw [ha, hb] at h; simp at h
        | some b =>
          obtain ⟨z, hz, rfl, rfl⟩ := keyLits_inv ha
          obtain ⟨y, hy, rfl, rfl⟩ := keyLits_inv hb
          rw [ha, hb] at h
          simp at h
          exact ⟨(z, y), ⟨hz, hy⟩, rfl, h.symm⟩
  · cases h

set_option maxRecDepth 100000 in
theorem kl_inj {x y : T} (hx : RT x) (hy : RT y) (h : kl x = kl y) : x = y := by
  have h1 := keyOf_mk hx
  rw [h] at h1
  have := keyed37.inj h1 (keyOf_mk hy)
  simp [tv] at this
  exact Prod.ext this.1 this.2

set_option maxRecDepth 100000 in
theorem tv_inj {x y : T} (h : tv x = tv y) : x = y := by
  simp [tv] at h
  exact Prod.ext h.1 h.2

set_option maxRecDepth 100000 in
theorem same_kl {x y : T} (hx : RT x) (hy : RT y) : (kl x).sameKey (kl y) = decide (x = y) := by
  by_cases h : x = y
  · subst h
    rw [WideAt.sameKey_self (keyed37.key (keyOf_mk hx))]
    simp
  · cases hs : (kl x).sameKey (kl y)
    · simp [h]
    · exact absurd (kl_inj hx hy (WideAt.sameKey_eq hs)) h

/-- The keys met so far. -/
structure Met {H : Type} (D0 : DataW H) (left : Lit → Bool) (ss : List T) : Prop where
  nodup : ss.Nodup
  range : ∀ x ∈ ss, RT x
  mem : ∀ x, RT x → (x ∈ ss ↔ (has D0 (kl x) = true ∧ left (kl x) = false))

set_option maxRecDepth 100000 in
theorem Met.start {H : Type} (D0 : DataW H) : Met D0 (has D0) [] :=
  ⟨List.nodup_nil, fun x h => (by simp at h), fun x _ => by cases has D0 (kl x) <;> simp⟩

set_option maxRecDepth 100000 in
theorem Met.step {H : Type} {D0 : DataW H} {left : Lit → Bool} {ss : List T} (h : Met D0 left ss) {x : T} (hx : RT x) {y : DataW H} (hlk : left (kl x) = true) (hat : ∀ zd, D0.atKey (kl x) zd = y) :
    Met D0 (fun z => left z && !z.sameKey (kl x)) (ss ++ [x]) := by
  have hhas : has D0 (kl x) = true := has_true_of_atKey hat
  have hnew : x ∉ ss := fun hxs => by have := ((h.mem x hx).1 hxs).2; rw [hlk] at this; cases this
  refine ⟨List.nodup_append.2 ⟨h.nodup, by simp, fun a ha b hb => by simp at hb; subst hb; exact fun e => hnew (e ▸ ha)⟩, fun y hy => ?_, fun y hy => ?_⟩
  · rcases List.mem_append.1 hy with hy | hy
    · exact h.range y hy
    · simp at hy; subst hy; exact hx
  · rw [same_kl hy hx]
    by_cases e : y = x
    · subst e; simp [hhas]
    · simp [h.mem y hy, e]

/-- What a walk over the map gives in the end. -/
structure KeysAre {H : Type} (D0 : DataW H) (ss : List T) : Prop where
  len : ss.length ≤ Maps.size D0
  nodup : ss.Nodup
  range : ∀ x ∈ ss, RT x
  mem : ∀ x, RT x → (x ∈ ss ↔ has D0 (kl x) = true)

set_option maxRecDepth 100000 in
theorem Met.all {H : Type} {D0 : DataW H} {left : Lit → Bool} {ss : List T} (h : Met D0 left ss) (hl : ∀ l, left l = false) (hs : ss.length ≤ Maps.size D0) : KeysAre D0 ss :=
  ⟨hs, h.nodup, h.range, fun x hx => by rw [h.mem x hx, hl]; simp⟩

set_option maxRecDepth 100000 in
set_option maxHeartbeats 1000000 in
theorem keys1N_in {H : Type} (F : Fence) (n : Nat) (h35 : F.fn 45) (hro : F.round = none) (hn : 1 ≤ n) (l Bm b nn : Nat) (D0 : DataW H) {R : Value → Option (DataW H × List MemPlace)} (J : List T → World → Prop)
    (hY : ∀ pre x W, J pre W → pre.length < Maps.size D0 → YieldAt F (n - 1) Try.prog l #[tv x] W fun e W' => e = .returned (.bool true) ∧ J (pre ++ [x]) W' ∧ KeepsWalks W W')
    (W : World) (hJ : AbidesFrom W.heap.size J) (hm : W.cell? ⟨Bm, 0, none⟩ = some (.map (some b))) (hown : W.ownsMap Try.prog 80 R b nn D0) (h0 : J [] W) :
    CallsIn F n Try.prog 45 #[.func (.yield l) #[] #[], .pointer (some ⟨Bm, 0, none⟩)] W fun e W' => (∃ v, e = .returned v) ∧ ∃ ss : List T, KeysAre D0 ss ∧ J ss W' := by
  refine callsIn_of_wp Try.func45 rfl h35 ?_ hro
  simp only [Try.ntmps45, List.size_toArray, List.length_cons, List.length_nil, Nat.reduceAdd, Nat.reduceSub, Array.replicate_succ, Array.replicate_zero, List.push_toArray, List.append_toArray, List.nil_append, List.cons_append]
  gi_wp2_with (first
    | (gi_at_range; refine wpListIn_range_own _ rfl _ 78 rfl 80 79 keyed37 Try.underlying78 _ b nn _ rfl hown ?_; intro w0 hrg0 hg0 hs0)
    | gi_in)
  go_frame
  gi_loopw [3] (fun _ wr => ∃ (left : Lit → Bool) (cnt : Nat) (ss : List T), wr.ranges Try.prog 80 R b W.heap.size nn D0 left cnt ∧ ss.length + cnt ≤ Maps.size D0 ∧ Met D0 left ss ∧ J ss wr)
    (fun _ wr => wr.rangeLeft b W.heap.size)
  case atStart =>
    exact ⟨_, _, [], hrg0, by simp, Met.start D0, hJ [] W w0 none h0 hg0 (fun r e => by cases e)⟩
  case round =>
    obtain ⟨left, cnt, ss, hrg, hcs, hC, hJs⟩ := hrel
    gi_wp2_with (first
      | (gi_at_next; refine wpListIn_next_ranges _ rfl _ rfl 80 keyed37 R tv id (fun key kl hk => by obtain ⟨x, _, hx, _⟩ := keyOf_inv hk; exact ⟨x, hx⟩) (fun v _ _ => ⟨v, rfl⟩) b W.heap.size nn _ _ _ rfl hrg ?_ ?_)
      | gi_in)
    · intro hc0 hl0
      gi_wp2
      go_end0
      exact ⟨⟨_, rfl⟩, ss, hC.all hl0 (by omega), hJs⟩
    · intro x1 x2 c kl' yd yp w2 cnt2 hkey hlk hv hat hrg2 hlt hg2 hs2 hen
      obtain ⟨x', hrx, ex, rfl⟩ := keyOf_inv hkey
      obtain rfl : (x1, x2) = x' := tv_inj ex
      have hJ2 : J ss w2 := hJ ss wr w2 (some W.heap.size) hJs hg2 (fun r e => by cases e; exact ⟨Nat.le_refl _, hrg.iter_walk⟩)
      have hJ3 : J ss (w2.alloc (.cells #[.int .i64 x1, .int .i64 x2] 80)) := hJ ss w2 _ none hJ2 (World.grownBy_alloc w2 _ none) (fun r e => by cases e)
      have hrg3 := hrg2.of_walks (KeepsWalks.alloc w2 (.cells #[.int .i64 x1, .int .i64 x2] 80))
      obtain ⟨fn, tmps, assign, body, hy, hR⟩ := hY ss (x1, x2) _ hJ3 (by omega)
      simp only [tv] at hy
      clear hs2
      simp only [tv] at hen
      gi_wp2
      refine hR.mono ?_
      rintro e W3 ⟨rfl, hJ4, hk3⟩
      gi_wp2
      have hrg4 := hrg3.of_walks hk3
      go_roundw
      case rel => exact ⟨_, cnt2, ss ++ [(x1, x2)], hrg4, by simp; omega, hC.step hrx hlk hat, hJ4⟩
      case measure => rw [hrg4.left_eq, hrg.left_eq]; exact hlt

set_option maxRecDepth 100000 in
theorem keys_gives {H : Type} (F : Fence) (n : Nat) (h35 : F.fn 45) (hro : F.round = none) (hn : 1 ≤ n) (Bm b nn : Nat) (D0 : DataW H) {R : Value → Option (DataW H × List MemPlace)} (w : World) (hBm : Bm < w.heap.size)
    (hm : w.cell? ⟨Bm, 0, none⟩ = some (.map (some b))) (hown : w.ownsMap Try.prog 80 R b nn D0) :
    SeqGives F n Try.prog 45 #[.pointer (some ⟨Bm, 0, none⟩)] tv (KeysAre D0) (Maps.size D0) w := fun l J W hW hJ hY h0 => by
  have hown' : W.ownsMap Try.prog 80 R b nn D0 := by
    have hbl := hown.lt
    obtain ⟨es, clock, hb, Ft, hs, hD⟩ := hown
    exact ⟨es, clock, (hW.block b hbl).trans hb, Ft, hs, hD⟩
  exact keys1N_in F n h35 hro hn l Bm b nn D0 J hY W hJ ((hW.cell (p := ⟨Bm, 0, none⟩) hBm).trans hm) hown' h0

set_option maxRecDepth 100000 in
set_option maxHeartbeats 1000000 in
theorem keys_in (F : Fence) (n : Nat) (h25 : F.fn 39) (hro : F.round = none) (mb : Option Nat) (w : World) :
    CallsIn F n Try.prog 39 #[.map mb] w fun e w' => e = .returned (.func (.func 45) #[] #[.pointer (some ⟨w.heap.size, 0, none⟩)]) ∧ w' = w.alloc (.cells #[.map mb] 78) := by
  refine callsIn_of_wp Try.func39 rfl h25 ?_ hro
  simp only [Try.ntmps39, List.size_toArray, List.length_cons, List.length_nil, Nat.reduceAdd, Nat.reduceSub, Array.replicate_succ, Array.replicate_zero, List.push_toArray, List.append_toArray, List.nil_append, List.cons_append]
  gi_wp2
  go_ret
  exact ⟨rfl, rfl⟩

end Go.Proofs.Ytboeodcjcbgeaaa
