/-
  What is proved here: calls as data; how a list of calls lies in memory; are they more than is asked?
-/
import Derived.Test.YtboeodcjcbgeaaaQI
namespace Go.Proofs.Ytboeodcjcbgeaaa
open Go.RowKit Go.Proofs
set_option linter.unusedVariables false
set_option linter.unusedSimpArgs false

/-- A call: Pop, or Push of changes. -/
structure Ac where
  pop : Bool
  l : List U

def ac0 : Ac := ⟨false, []⟩

/-- Changes that were handed in: below block number B. -/
structure IsUps (B : Nat) (w : World) (a : Option Addr) (n c : Nat) (l : List U) : Prop where
  len : l.length = n
  cells : l ≠ [] → ∃ b off, a = some ⟨b, off, none⟩ ∧ b < B ∧ Us (fun k => k < B) w b off l
  shape : (a = none ∧ n = 0 ∧ c = 0) ∨ ∃ ad, a = some ad
  range : ∀ u ∈ l, RT u.time

/-- A call's two cells. -/
def AcC (B : Nat) (w : World) (b o : Nat) (x : Ac) : Prop := ∃ a n c, w.cell? ⟨b, o, none⟩ = some (.bool x.pop) ∧ w.cell? ⟨b, o + 1, none⟩ = some (.slice a n c) ∧ IsUps B w a n c x.l

/-- Calls that were handed in. -/
structure IsActs (B : Nat) (w : World) (a : Option Addr) (n : Nat) (A : List Ac) : Prop where
  len : A.length = n
  cells : A ≠ [] → ∃ b off, a = some ⟨b, off, none⟩ ∧ b < B ∧ ∀ i, i < A.length → AcC B w b (off + i * 2) (A.getD i ac0)

theorem IsUps.keep {B : Nat} {w w' : World} {a : Option Addr} {n c : Nat} {l : List U} (h : IsUps B w a n c l) (hb : Below B w w') : IsUps B w' a n c l := by
  refine ⟨h.len, fun hl => ?_, h.shape, h.range⟩
  obtain ⟨b, off, e, hB, hu⟩ := h.cells hl
  exact ⟨b, off, e, hB, hu.keep (hb.block b hB) (fun k hP hk => ⟨hb.block k hP, hP⟩) hb.size⟩

theorem AcC.keep {B : Nat} {w w' : World} {b o : Nat} {x : Ac} (h : AcC B w b o x) (hb : Below B w w') (hB : b < B) : AcC B w' b o x := by
  obtain ⟨a, n, c, h1, h2, h3⟩ := h
  exact ⟨a, n, c, (hb.cell (p := ⟨b, o, none⟩) hB).trans h1, (hb.cell (p := ⟨b, o + 1, none⟩) hB).trans h2, h3.keep hb⟩

theorem IsActs.keep {B : Nat} {w w' : World} {a : Option Addr} {n : Nat} {A : List Ac} (h : IsActs B w a n A) (hb : Below B w w') : IsActs B w' a n A := by
  refine ⟨h.len, fun hl => ?_⟩
  obtain ⟨b, off, e, hB, hc⟩ := h.cells hl
  exact ⟨b, off, e, hB, fun i hi => (hc i hi).keep hb hB⟩

/-- No more than is asked. -/
def Few (l : List U) : Prop := l.length ≤ 60 ∧ ∀ u ∈ l, u.row.length ≤ 30

theorem mem_getDQ {α : Type} {l : List α} {d x : α} (h : x ∈ l) : ∃ i, i < l.length ∧ l.getD i d = x := by
  obtain ⟨i, hi, e⟩ := List.mem_iff_getElem.1 h
  exact ⟨i, hi, by rw [List.getD, List.getElem?_eq_getElem hi]; exact e⟩

set_option maxRecDepth 10000 in
set_option maxHeartbeats 2000000 in
theorem much07_any (w : World) (B : Nat) (a : Option Addr) (n c : Nat) (l : List U) (h : IsUps B w a n c l) (hB : B ≤ w.heap.size) :
    Calls Try.prog 20 #[.slice a n c] w fun e w' => ∃ b, e = .returned (.bool b) ∧ (b = false → Few l) ∧ w' = w := by
  by_cases h60 : 60 < n
  · clear h
    have h60' : (n : Int) > 60 := by omega
    go_enter Try.func20, Try.ntmps20
    go_wp2
    go_ret
    exact ⟨true, rfl, fun h => by simp at h, rfl⟩
  · have H := hid' h
    have h60' : ¬ (n : Int) > 60 := by omega
    clear h
    go_enter Try.func20, Try.ntmps20
    go_wp2
    go_loopg [3] n (fun k i wr => ∃ j : Nat, j + k = n ∧ i = .int .i64 (j : Int) ∧ Hid (∀ i, i < j → (l.getD i u0).row.length ≤ 30) ∧ wr = w)
    case atStart => exact ⟨0, by omega, rfl, hid' (fun i hi => by omega), rfl⟩
    case round =>
      obtain ⟨j, hj, rfl, hI, rfl⟩ := hrel
      cases gk with
      | zero =>
        obtain rfl : j = n := by omega
        have HF : Hid (Few l) := by
          refine ⟨by rw [H.out.len]; omega, fun u hu => ?_⟩
          obtain ⟨i, hi, rfl⟩ := mem_getDQ (d := u0) hu
          exact hI.out i (by rw [H.out.len] at hi; exact hi)
        go_wp2
        go_ret
        exact ⟨false, rfl, fun _ => HF.out, rfl⟩
      | succ k =>
        have hjl : j < l.length := by rw [H.out.len]; omega
        obtain ⟨b, off, rfl, hb, hus⟩ := H.out.cells (by rintro rfl; simp at hjl)
        obtain ⟨s, hc, hrd⟩ := hus j hjl
        have k0 := hc.k0
        have HLG := hid' (Long_any wr s.a s.c s.n (l.getD j u0).row hrd.n.symm hrd.row.vs)
        have hsn := hrd.n
        have HN := hid' hsn
        clear hc hrd hus hjl hsn
        go_wp2_with fail
        refine HLG.out.mono ?_
        rintro e w1 ⟨b1, rfl, hlt, rfl⟩
        clear HLG
        cases b1 with
        | true =>
          go_wp2
          go_ret
          exact ⟨true, rfl, fun h => by simp at h, rfl⟩
        | false =>
          have HI2 : Hid (∀ i, i < j + 1 → (l.getD i u0).row.length ≤ 30) := by
            intro i hi
            by_cases e : i = j
            · subst e; rw [← HN.out]; exact hlt rfl
            · exact hI.out i (by omega)
          go_wp2
          go_roundg k
          case measure => omega
          case rel => exact ⟨j + 1, by omega, by simp, HI2, rfl⟩

/-- No more calls than are asked, and no longer ones. -/
def FewA (A : List Ac) : Prop := A.length ≤ 100 ∧ ∀ x ∈ A, Few x.l

set_option maxRecDepth 10000 in
set_option maxHeartbeats 2000000 in
theorem much19_any (w : World) (B : Nat) (a : Option Addr) (n c : Nat) (A : List Ac) (h : IsActs B w a n A) (hB : B ≤ w.heap.size) :
    Calls Try.prog 6 #[.slice a n c] w fun e w' => ∃ b, e = .returned (.bool b) ∧ (b = false → FewA A) ∧ w' = w := by
  by_cases h100 : 100 < n
  · clear h
    have h100' : (n : Int) > 100 := by omega
    go_enter Try.func6, Try.ntmps6
    go_wp2
    go_ret
    exact ⟨true, rfl, fun h => by simp at h, rfl⟩
  · have H := hid' h
    have h100' : ¬ (n : Int) > 100 := by omega
    clear h
    go_enter Try.func6, Try.ntmps6
    go_wp2
    go_loopg [3] n (fun k i wr => ∃ j : Nat, j + k = n ∧ i = .int .i64 (j : Int) ∧ Hid (∀ i, i < j → Few (A.getD i ac0).l) ∧ wr = w)
    case atStart => exact ⟨0, by omega, rfl, hid' (fun i hi => by omega), rfl⟩
    case round =>
      obtain ⟨j, hj, rfl, hI, rfl⟩ := hrel
      cases gk with
      | zero =>
        obtain rfl : j = n := by omega
        have HF : Hid (FewA A) := by
          refine ⟨by rw [H.out.len]; omega, fun u hu => ?_⟩
          obtain ⟨i, hi, rfl⟩ := mem_getDQ (d := ac0) hu
          exact hI.out i (by rw [H.out.len] at hi; exact hi)
        go_wp2
        go_ret
        exact ⟨false, rfl, fun _ => HF.out, rfl⟩
      | succ k =>
        have hjl : j < A.length := by rw [H.out.len]; omega
        obtain ⟨b, off, rfl, hb, hc⟩ := H.out.cells (by rintro rfl; simp at hjl)
        obtain ⟨la, ln, lc, c0, c1, hups⟩ := hc j hjl
        have HM := hid' (much07_any wr B la ln lc _ hups hB)
        clear hc hjl hups c0
        go_wp2_with fail
        refine HM.out.mono ?_
        rintro e w1 ⟨b1, rfl, hlt, rfl⟩
        clear HM
        cases b1 with
        | true =>
          go_wp2
          go_ret
          exact ⟨true, rfl, fun h => by simp at h, rfl⟩
        | false =>
          have HI2 : Hid (∀ i, i < j + 1 → Few (A.getD i ac0).l) := by
            intro i hi
            by_cases e : i = j
            · subst e; exact hlt rfl
            · exact hI.out i (by omega)
          clear hlt
          go_wp2
          go_roundg k
          case measure => omega
          case rel => exact ⟨j + 1, by omega, by simp, HI2, rfl⟩

end Go.Proofs.Ytboeodcjcbgeaaa
