/-
  What is proved here: how a trace lies in memory; its own part, its since; New.
-/
import Derived.Test.YtlamcgeboclkjaaTrA
import Derived.Lib.SlKeysI
namespace Go.Proofs.Ytlamcgeboclkjaa
open Go.RowKit Go.Maps
set_option linter.unusedVariables false
set_option linter.unusedSimpArgs false

/-- How a reader's frontier stands in the map: as it is. -/
def heldR : Value → Option (DataW Value × List MemPlace) := fun v => some (.held v, [])

theorem keyed3 : Keyed Try.prog 3 := int_keyed Try.underlying3

/-- A trace in memory: block G the trace, S its spine, M its readers (ks: which; f: the one time of each one's frontier; cnt: how many), nx the next number, sx the one time of since. -/
structure St (w : World) (G S M nn : Nat) (ks : Int → Prop) (cnt : Nat) (f : Int → T) (nx : Nat) (sx : T) : Prop where
  tr : w.heap[G]? = some (.cells #[.pointer (some ⟨S, 0, none⟩), .map (some M), .int .i64 (nx : Int)] 44 (0, 0))
  sp : ∃ sv, w.heap[S]? = some (.cells #[.int .i64 0, .int .i64 0, sv, .slice none 0 0, .int .i64 0] 56 (0, 0)) ∧ One sx sv w
  mp : ∃ D, w.ownsMap Try.prog 3 heldR M nn D ∧ Maps.size D = cnt ∧ (∀ z, has D (.int .i64 z) = true ↔ ks z) ∧ ∀ z, ks z → ∃ v, (∀ zd, D.atKey (.int .i64 z) zd = .held v) ∧ One (f z) v w

theorem St.on {w w' : World} {G S M nn : Nat} {ks : Int → Prop} {cnt : Nat} {f : Int → T} {nx : Nat} {sx : T} (h : St w G S M nn ks cnt f nx sx) (hb : Below w.heap.size w w') : St w' G S M nn ks cnt f nx sx := by
  have hG := (Array.getElem?_eq_some_iff.1 h.tr).1
  obtain ⟨sv, hS, hone⟩ := h.sp
  obtain ⟨D, hown, hc, hk, hv⟩ := h.mp
  have hM := hown.lt
  refine ⟨(hb.block G hG).trans h.tr, ⟨sv, (hb.block S (Array.getElem?_eq_some_iff.1 hS).1).trans hS, hone.on hb⟩, D, ?_, hc, hk, fun z hz => ?_⟩
  · obtain ⟨es, clock, hb1, Ft, hs, hD⟩ := hown
    exact ⟨es, clock, (hb.block M hM).trans hb1, Ft, hs, hD⟩
  · obtain ⟨v, h1, h2⟩ := hv z hz
    exact ⟨v, h1, h2.on hb⟩

theorem own_any (G : Nat) (w : World) : Calls Try.prog 14 #[.pointer (some ⟨G, 0, none⟩)] w fun e w' => e = .returned (.pointer (some ⟨G, 0, none⟩)) ∧ w' = w := by
  go_enter Try.func14, Try.ntmps14
  go_wp2
  go_ret
  exact ⟨rfl, rfl⟩

set_option maxHeartbeats 1000000 in
theorem sSince_any (S : Nat) (sx : T) (sv a b c d : Value) (w : World) (hS : w.heap[S]? = some (.cells #[a, b, sv, c, d] 56 (0, 0))) (h : One sx sv w) :
    Calls Try.prog 17 #[.pointer (some ⟨S, 0, none⟩)] w fun e w' => ∃ u, e = .returned u ∧ One sx u w' ∧ Below w.heap.size w w' := by
  have H := hid' (clone_one sx sv w h)
  have hc : w.cell? ⟨S, 2, none⟩ = some sv := by rw [cell_of_row _ _ _ _ _ _ hS]; rfl
  clear hS
  go_enter Try.func17, Try.ntmps17
  go_wp2_with fail
  refine H.out.mono ?_
  rintro e w1 ⟨u, rfl, hu, hb⟩
  clear H
  go_wp2
  go_ret
  exact ⟨u, rfl, hu, hb⟩

theorem St.cellsG {w : World} {G S M nn : Nat} {ks : Int → Prop} {cnt : Nat} {f : Int → T} {nx : Nat} {sx : T} (h : St w G S M nn ks cnt f nx sx) : w.cell? ⟨G, 0, none⟩ = some (.pointer (some ⟨S, 0, none⟩)) ∧ w.cell? ⟨G, 1, none⟩ = some (.map (some M)) ∧ w.cell? ⟨G, 2, none⟩ = some (.int .i64 (nx : Int)) := by
  refine ⟨?_, ?_, ?_⟩ <;> (rw [cell_of_row _ _ _ _ _ _ h.tr]; rfl)

theorem St.since {w : World} {G S M nn : Nat} {ks : Int → Prop} {cnt : Nat} {f : Int → T} {nx : Nat} {sx : T} (h : St w G S M nn ks cnt f nx sx) :
    Calls Try.prog 17 #[.pointer (some ⟨S, 0, none⟩)] w fun e w' => ∃ u, e = .returned u ∧ One sx u w' ∧ Below w.heap.size w w' := by
  obtain ⟨sv, hS, hone⟩ := h.sp
  exact sSince_any S sx sv _ _ _ _ w hS hone

set_option maxHeartbeats 1000000 in
theorem tSince_any {w : World} {G S M nn : Nat} {ks : Int → Prop} {cnt : Nat} {f : Int → T} {nx : Nat} {sx : T} (h : St w G S M nn ks cnt f nx sx) :
    Calls Try.prog 12 #[.pointer (some ⟨G, 0, none⟩)] w fun e w' => ∃ u, e = .returned u ∧ One sx u w' ∧ Below w.heap.size w w' := by
  have H := hid' h.since
  have hc := h.cellsG.1
  clear h
  go_enter Try.func12, Try.ntmps12
  go_wp2_with fail
  refine (own_any G w).mono ?_
  rintro e w' ⟨rfl, rfl⟩
  go_wp2_with fail
  refine H.out.mono ?_
  rintro e w1 ⟨u, rfl, hu, hb⟩
  clear H
  go_wp2
  go_ret
  exact ⟨u, rfl, hu, hb⟩

theorem One.new (w : World) (x : T) (hr : RT x) : One x (.slice (some ⟨w.heap.size, 0, none⟩) 1 1) (w.alloc (.cells #[.int .i64 x.1, .int .i64 x.2] 31)) :=
  ⟨hr, w.heap.size, 1, _, rfl, Nat.le_refl _, World.alloc_heap_new w _, rfl⟩

theorem One.alloc {x : T} {v : Value} {w : World} (h : One x v w) (o : Obj) : One x v (w.alloc o) := h.on ((Below.refl _ w).alloc (Nat.le_refl _) _)

theorem RT.zero : RT (0, 0) := by unfold RT R64; omega

set_option maxHeartbeats 1000000 in
theorem sNew_any (w : World) : Calls Try.prog 10 #[.int .i64 0] w fun e w' => ∃ S sv, e = .returned (.tuple #[.pointer (some ⟨S, 0, none⟩), .int .i64 0]) ∧ w.heap.size ≤ S ∧ w'.heap[S]? = some (.cells #[.int .i64 0, .int .i64 0, sv, .slice none 0 0, .int .i64 0] 56 (0, 0)) ∧ One (0, 0) sv w' ∧ Below w.heap.size w w' := by
  go_enter Try.func10, Try.ntmps10
  go_wp2
  go_ret2
  refine ⟨w.heap.size + 1, _, rfl, by omega, ?_, (One.new w (0, 0) RT.zero).alloc _, ((Below.refl _ w).alloc (Nat.le_refl _) _).alloc (by simp) _⟩
  have := World.alloc_heap_new (w.alloc (.cells #[.int .i64 0, .int .i64 0] 31)) (.cells #[.int .i64 0, .int .i64 0, .slice (some ⟨w.heap.size, 0, none⟩) 1 1, .slice none 0 0, .int .i64 0] 56)
  rwa [World.size_alloc] at this

set_option maxHeartbeats 1000000 in
theorem tNew_any (f : Int → T) (w : World) : Calls Try.prog 4 #[.int .i64 0] w fun e w' => ∃ G S M, e = .returned (.tuple #[.pointer (some ⟨G, 0, none⟩), .int .i64 0]) ∧ w.heap.size ≤ G ∧ w.heap.size ≤ S ∧ w.heap.size ≤ M ∧ St w' G S M 0 (fun _ => False) 0 f 0 (0, 0) ∧ Below w.heap.size w w' := by
  go_enter Try.func4, Try.ntmps4
  go_wp2_with fail
  refine (sNew_any w).mono ?_
  rintro e w1 ⟨S, sv, rfl, hSw, hS, hone, hb⟩
  have qm := fun w => run_makeMap (P := Try.prog) 40 w
  go_wp2
  go_ret2
  have hb1 : Below w1.heap.size w1 (w1.alloc (.map #[] 0)) := (Below.refl _ w1).alloc (Nat.le_refl _) _
  have hb2 : Below w1.heap.size w1 ((w1.alloc (.map #[] 0)).alloc (.cells #[.pointer (some ⟨S, 0, none⟩), .map (some w1.heap.size), .int .i64 0] 44)) := hb1.alloc hb1.size _
  have hsz := hb.size
  refine ⟨w1.heap.size + 1, S, w1.heap.size, rfl, by omega, hSw, hsz, ⟨?_, ⟨sv, (hb2.block S (Array.getElem?_eq_some_iff.1 hS).1).trans hS, hone.on hb2⟩, .map [], ?_, rfl, fun z => ?_, fun z hz => hz.elim⟩, hb.trans (hb2.mono hsz)⟩
  · have := World.alloc_heap_new (w1.alloc (.map #[] 0)) (.cells #[.pointer (some ⟨S, 0, none⟩), .map (some w1.heap.size), .int .i64 0] 44)
    rwa [World.size_alloc] at this
  · exact (World.ownsMap_made w1 Try.prog 3 heldR).alloc _
  · simp [has]

/-- What the map's key of a number reads as. -/
theorem key3 {z : Int} (h : R64 z) : keyOf Try.prog 3 (.int .i64 z) = some (.int .i64 z) := keyOf_int_mk Try.underlying3 (by
  unfold R64 at h
  have e : IntKind.i64.min = -9223372036854775808 := by decide
  simp [Lit.wf, e]
  exact h)

theorem zeroTimes (w : World) : (zeroValue 32).run Try.prog w = .ok (.slice none 0 0) w := by kernel_rfl

set_option maxHeartbeats 1000000 in
/-- frontier: of a reader that is there. -/
theorem frontier_any {w : World} {G S M nn : Nat} {ks : Int → Prop} {cnt : Nat} {f : Int → T} {nx : Nat} {sx : T} (h : St w G S M nn ks cnt f nx sx) (z : Int) (hz : R64 z) (hk : ks z) :
    Calls Try.prog 19 #[.pointer (some ⟨G, 0, none⟩), .int .i64 z] w fun e w' => ∃ v, e = .returned (.tuple #[v, .int .i64 0]) ∧ One (f z) v w ∧ w' = w := by
  obtain ⟨D, hown, hc, hkk, hv⟩ := h.mp
  obtain ⟨h0, h1, h2⟩ := h.cellsG
  obtain ⟨v, hat, hone⟩ := hv z hk
  have hhas : has D (.int .i64 z) = true := (hkk z).2 hk
  have hkey := key3 hz
  clear h hkk hv hc h2
  go_enter Try.func19, Try.ntmps19
  go_wp2_with (at_lookup; refine wpList_lookup_own_ok _ rfl _ _ 40 rfl 3 32 keyed3 Try.underlying40 heldR (zeroTimes _) (.held (.slice none 0 0)) [] rfl M nn D rfl hown _ _ rfl hkey ?_; intro v' ps hv'; have hv2 : v' = v := (by rw [hat] at hv'; simp [heldR] at hv'; exact hv'.1); subst hv2; rw [hhas])
  go_ret2
  exact ⟨_, rfl, hone, rfl⟩

end Go.Proofs.Ytlamcgeboclkjaa
