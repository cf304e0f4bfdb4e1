/-
  What is proved here: the document's own Some, First and Has on any numbers.
-/
import Derived.Test.YtnpnbhgkcaefnaaDoorAllJoin
namespace Go.Proofs.YtnpnbhgkcaefnaaDoor
open Go.RowKit Go.Extern.Stop Go.Stop Go.Extern
set_option linter.unusedVariables false

theorem Tryd.info3 : (Tryd.prog.info? 3).map (fun i => (i.zero, i.size, i.bytes)) = some (some (.int .i64 0), 1, 8) := by kernel_rfl

/-- A slice of numbers at a reads as l. -/
def Its (w : World) (a : Option Addr) (l : List Int) : Prop :=
  l ≠ [] → ∃ b off, a = some ⟨b, off, none⟩ ∧ ∀ i, i < l.length → w.cell? ⟨b, off + i, none⟩ = some (.int .i64 (l.getD i 0))

theorem Its.keep {w w' : World} {a : Option Addr} {l : List Int} (h : Its w a l) (hb : Below w.heap.size w w') : Its w' a l := by
  intro hl
  obtain ⟨b, off, e, hc⟩ := h hl
  exact ⟨b, off, e, fun i hi => (hb.cell (lt_of_cell (hc i hi))).trans (hc i hi)⟩

/-- What a call owns: numbers as int. -/
def Owns3 (B : Nat) (w : World) (v : Value) (xs : List Int) : Prop := w.ownsRow B 3 1 v xs.length (N27 xs)

set_option maxRecDepth 10000 in
set_option maxHeartbeats 1000000 in
theorem some_any (w : World) (a : Option Addr) (cap : Nat) (l : List Int) (hs : Its w a l) (hc : l.length ≤ cap) (hl : l.length ≤ 200) :
    Calls Tryd.prog 15 #[.slice a l.length cap] w fun e w' => ∃ v, e = .returned v ∧ Owns3 w.heap.size w' v (nz l) ∧ Below w.heap.size w w' := by
  obtain ⟨i0, hi, hz0, hz1, hz2⟩ := info_parts Tryd.info3
  have HS := hid' hs
  clear hs
  go_enter Tryd.func15, Tryd.ntmps15
  go_wp2
  go_loopg [3, 4] l.length (fun k v i wr => ∃ j : Nat, j + k = l.length ∧ i = .int .i64 (j : Int) ∧ Owns3 w.heap.size wr v (nz (l.take j)) ∧ Below w.heap.size w wr)
  case atStart => exact ⟨0, by omega, rfl, World.ownsRow_nil _ _ _ _, Below.refl _ _⟩
  case round =>
    obtain ⟨j, hj, rfl, ho, hb⟩ := hrel
    have HO := hid' (And.intro ho hb)
    cases gk with
    | zero =>
      have e : j = l.length := by omega
      subst e
      rw [List.take_length] at HO
      clear ho hb hj
      go_wp2
      go_ret
      exact ⟨_, rfl, HO.out⟩
    | succ k =>
      have hjl : j < l.length := by omega
      have hjc : j < cap := by omega
      obtain ⟨b, off, rfl, hcell⟩ := HS.out.keep hb (by intro e; rw [e] at hjl; simp at hjl)
      have hcx := hcell j hjl
      have HSU := hid' (nz_succ l j hjl)
      have HJ := hid' hj
      have hnj : (nz (l.take j)).length ≤ 200 := by have h1 := nz_le (l.take j); rw [List.length_take] at h1; omega
      have hsz := hb.size
      clear hcell hj ho hb
      by_cases hz : l.getD j 0 = 0
      · rw [hz] at hcx
        rw [if_pos hz, List.append_nil] at HSU
        clear hz
        go_wp2
        go_roundg k
        case measure => omega
        case rel => exact ⟨j + 1, by have := HJ.out; omega, by go_num, by rw [HSU.out]; exact HO.out.1, HO.out.2⟩
      · rw [if_neg hz] at HSU
        generalize l.getD j 0 = z at hcx HSU hz
        go_wp2_with (at_builtin; refine wpList_append_own _ rfl (.tmp 16) (.tmp 21) 35 rfl w.heap.size 3 i0 (.int .i64 0) 1 8 Tryd.underlying35 hi hz0 hz1 hz2 rfl (by decide) _ _ _ rfl (World.ownsRow.alloc HO.out.1 _) ⟨wr.heap.size, 0, none⟩ 1 1 [.int .i64 z] rfl rfl (one_cell _ _ _) (one_int _) (by unfold maxLen; omega) (by omega) (by simp; omega) ?_; intro v' w4 hown4 hgrow4 hnil4)
        have ho4 : Owns3 w.heap.size w4 v' (nz (l.take (j + 1))) := by rw [HSU.out]; unfold Owns3 N27; unfold N27 at hown4; simpa using hown4
        have HO4 := hid' (And.intro ho4 (grown_below HO.out.2 (Nat.le_refl _) HO.out.1 hgrow4))
        clear ho4 hown4 hgrow4 hnil4
        go_roundg k
        case measure => omega
        case rel => exact ⟨j + 1, by have := HJ.out; omega, by go_num, HO4.out.1, HO4.out.2⟩

set_option maxRecDepth 10000 in
theorem first_any (w : World) (a : Option Addr) (cap : Nat) (l : List Int) (hs : Its w a l) (hc : l.length ≤ cap) (hl : l.length ≤ 200) :
    Calls Tryd.prog 16 #[.slice a l.length cap] w fun e w' => e = .returned (.int .i64 ((nz l).headD 0)) ∧ w' = w := by
  have HS := hid' hs
  clear hs
  go_enter Tryd.func16, Tryd.ntmps16
  go_wp2
  go_loopg [3] l.length (fun k i wr => ∃ j : Nat, j + k = l.length ∧ i = .int .i64 (j : Int) ∧ nz l = nz (l.drop j) ∧ w = wr)
  case atStart => exact ⟨0, by omega, rfl, rfl, rfl⟩
  case round =>
    obtain ⟨j, hj, rfl, hn, rfl⟩ := hrel
    have HN := hid' hn
    have HJ := hid' hj
    cases gk with
    | zero =>
      have e : j = l.length := by omega
      subst e
      clear hn hj
      go_wp2
      go_ret
      refine ⟨?_, rfl⟩
      rw [HN.out, List.drop_length]
      rfl
    | succ k =>
      have hjl : j < l.length := by omega
      have hjc : j < cap := by omega
      obtain ⟨b, off, rfl, hcell⟩ := HS.out (by intro e; rw [e] at hjl; simp at hjl)
      have hcx := hcell j hjl
      have HD : Hid (l.drop j = l.getD j 0 :: l.drop (j + 1)) := by
        show l.drop j = l.getD j 0 :: l.drop (j + 1)
        rw [List.drop_eq_getElem_cons hjl]; simp [List.getD, List.getElem?_eq_getElem hjl]
      clear hcell hj hn
      by_cases hz : l.getD j 0 = 0
      · rw [hz] at hcx HD
        clear hz
        go_wp2
        go_roundg k
        case measure => omega
        case rel => exact ⟨j + 1, by have := HJ.out; omega, by go_num, by rw [HN.out, HD.out]; simp [nz], rfl⟩
      · generalize l.getD j 0 = z at hcx HD hz
        go_wp2
        go_ret
        refine ⟨?_, rfl⟩
        rw [HN.out, HD.out]
        simp [nz, hz]

theorem mem_nz {l : List Int} {y : Int} : y ∈ nz l ↔ y ∈ l ∧ y ≠ 0 := by simp [nz]

theorem nz_any_hit {l : List Int} {y : Int} {j : Nat} (hj : j < l.length) (h : l.getD j 0 = y) (hy : ¬ y = 0) : (nz l).any (· == y) = true := by
  rw [List.any_eq_true]
  refine ⟨y, mem_nz.2 ⟨?_, hy⟩, by simp⟩
  rw [List.getD, List.getElem?_eq_getElem hj] at h
  simp at h
  rw [← h]
  exact List.getElem_mem hj

theorem nz_any_none {l : List Int} {y : Int} (h : ∀ i, i < l.length → l.getD i 0 ≠ y ∨ y = 0) : (nz l).any (· == y) = false := by
  rw [List.any_eq_false]
  intro x hx
  obtain ⟨hx1, hx2⟩ := mem_nz.1 hx
  obtain ⟨i, hi, rfl⟩ := List.getElem_of_mem hx1
  rcases h i hi with h | h
  · rw [List.getD, List.getElem?_eq_getElem hi] at h
    simpa using h
  · subst h
    simpa using hx2

set_option maxRecDepth 10000 in
theorem has_any (w : World) (a : Option Addr) (cap : Nat) (l : List Int) (y : Int) (hs : Its w a l) (hc : l.length ≤ cap) (hl : l.length ≤ 200) :
    Calls Tryd.prog 17 #[.slice a l.length cap, .int .i64 y] w fun e w' => e = .returned (.bool ((nz l).any (· == y))) ∧ w' = w := by
  have HS := hid' hs
  clear hs
  go_enter Tryd.func17, Tryd.ntmps17
  go_wp2
  go_loopg [5] l.length (fun k i wr => ∃ j : Nat, j + k = l.length ∧ i = .int .i64 (j : Int) ∧ (∀ i, i < j → l.getD i 0 ≠ y ∨ y = 0) ∧ w = wr)
  case atStart => exact ⟨0, by omega, rfl, fun i hi => by omega, rfl⟩
  case round =>
    obtain ⟨j, hj, rfl, hn, rfl⟩ := hrel
    have HN := hid' hn
    have HJ := hid' hj
    cases gk with
    | zero =>
      have e : j = l.length := by omega
      subst e
      clear hn hj
      go_wp2
      go_ret
      refine ⟨?_, rfl⟩
      rw [nz_any_none HN.out]
      rfl
    | succ k =>
      have hjl : j < l.length := by omega
      have hjc : j < cap := by omega
      obtain ⟨b, off, rfl, hcell⟩ := HS.out (by intro e; rw [e] at hjl; simp at hjl)
      have hcx := hcell j hjl
      clear hcell hj hn
      have step : (l.getD j 0 ≠ y ∨ y = 0) → ∀ i, i < j + 1 → l.getD i 0 ≠ y ∨ y = 0 := by
        intro h i hi
        rcases Nat.lt_or_ge i j with k | k
        · exact HN.out i k
        · have e : i = j := by omega
          subst e
          exact h
      have HT := hid' step
      clear step
      by_cases hz : l.getD j 0 = y
      · by_cases hy : y = 0
        · have HT2 := hid' (HT.out (.inr hy))
          subst hy
          rw [hz] at hcx
          clear hz HT
          go_wp2
          go_roundg k
          case measure => omega
          case rel => exact ⟨j + 1, by have := HJ.out; omega, by go_num, HT2.out, rfl⟩
        · have HA := hid' (nz_any_hit hjl hz hy)
          rw [hz] at hcx
          clear hz HT
          go_wp2
          go_ret
          refine ⟨?_, rfl⟩
          rw [HA.out]
          rfl
      · have HT2 := hid' (HT.out (.inl hz))
        generalize l.getD j 0 = z at hcx hz
        clear HT
        go_wp2
        go_roundg k
        case measure => omega
        case rel => exact ⟨j + 1, by have := HJ.out; omega, by go_num, HT2.out, rfl⟩
end Go.Proofs.YtnpnbhgkcaefnaaDoor
