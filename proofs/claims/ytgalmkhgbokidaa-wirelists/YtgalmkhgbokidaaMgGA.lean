/-
  What is proved here: what is not too much is small.
-/
import Derived.Test.YtgalmkhgbokidaaMgP

namespace Go.Proofs.Ytgalmkhgbokidaa
open Go.RowKit Go.Proofs
set_option maxRecDepth 20000
set_option linter.unusedVariables false
set_option linter.unusedSimpArgs false

set_option maxHeartbeats 4000000 in
theorem long_any (P : Nat → Prop) (w : World) (ra : Option Addr) (rc : Nat) (xs : List V) (hx : VP P w ra xs) :
    Calls Try.prog 29 #[.slice ra xs.length rc] w fun e w' => (∃ b, e = .returned (.bool b) ∧ (b = false → xs.length ≤ 30)) ∧ Below w.heap.size w w' := by
  have HX := hid' hx
  obtain ⟨n, hn⟩ : ∃ n, xs.length = n := ⟨_, rfl⟩
  have HN := hid' hn
  rw [hn]
  clear hx hn
  by_cases hbig : 30 < n
  · have h' : (30 : Int) < (n : Int) := by omega
    go_enter Try.func29, Try.ntmps29
    go_wp2
    go_ret
    exact ⟨⟨true, rfl, fun h => by cases h⟩, Below.refl _ _⟩
  · have h' : ¬ (30 : Int) < (n : Int) := by omega
    go_enter Try.func29, Try.ntmps29
    go_wp2
    go_loopg [3] n (fun k i wr => ∃ j : Nat, j + k = n ∧ i = .int .i64 (j : Int) ∧ Hid (Below w.heap.size w wr))
    case atStart => exact ⟨0, by omega, rfl, Below.refl _ _⟩
    case round =>
      obtain ⟨j, hj, rfl, HB⟩ := hrel
      cases gk with
      | zero =>
        obtain rfl : j = n := by omega
        go_wp2
        go_ret
        exact ⟨⟨false, rfl, fun _ => by omega⟩, HB.out⟩
      | succ k =>
        have hjl : j < xs.length := by rw [HN.out]; omega
        obtain ⟨b1, o1, rfl⟩ := SP.lt HX.out (by rintro rfl; simp at hjl)
        obtain ⟨c1, c2, c3⟩ := VP.at (SP.on HX.out HB.out) hjl
        have hjn : j < n := by omega
        clear hjl
        generalize xs.getD j d0 = v at *
        obtain ⟨kd, z, st⟩ := v
        simp only at c1 c2 c3
        by_cases hs : 5000 < st.size
        · have hs' : (5000 : Int) < (st.size : Int) := by omega
          go_wp2
          go_ret
          exact ⟨⟨true, rfl, fun h => by cases h⟩, HB.out⟩
        · have hs' : ¬ (5000 : Int) < (st.size : Int) := by omega
          go_wp2
          go_roundg k
          case measure => omega
          case rel => exact ⟨j + 1, by omega, by simp, HB⟩

set_option maxHeartbeats 8000000 in
theorem much_any (P : Nat → Prop) (w : World) (a : Option Addr) (cap : Nat) (X : List (Cm × CmS)) (hX : Cms P w a X) :
    Calls Try.prog 8 #[.slice a X.length cap] w fun e w' => (∃ b, e = .returned (.bool b) ∧ (b = false → X.length ≤ 100 ∧ ∀ q ∈ X, Sm q.1)) ∧ Below w.heap.size w w' := by
  have HX := hid' hX
  obtain ⟨n, hn⟩ : ∃ n, X.length = n := ⟨_, rfl⟩
  have HN := hid' hn
  rw [hn]
  clear hX hn
  by_cases hbig : 100 < n
  · have h' : (100 : Int) < (n : Int) := by omega
    go_enter Try.func8, Try.ntmps8
    go_wp2
    go_ret
    exact ⟨⟨true, rfl, fun h => by cases h⟩, Below.refl _ _⟩
  · have h' : ¬ (100 : Int) < (n : Int) := by omega
    go_enter Try.func8, Try.ntmps8
    go_wp2
    go_loopg [3] n (fun k i wr => ∃ j : Nat, j + k = n ∧ i = .int .i64 (j : Int) ∧ Hid (∀ q ∈ X.take j, Sm q.1) ∧ Hid (Below w.heap.size w wr))
    case atStart => exact ⟨0, by omega, rfl, (fun q hq => by simp at hq), Below.refl _ _⟩
    case round =>
      obtain ⟨j, hj, rfl, HA, HB⟩ := hrel
      cases gk with
      | zero =>
        obtain rfl : j = n := by omega
        have HZ : Hid (∀ q ∈ X, Sm q.1) := fun q hq => HA.out q (by rw [← HN.out, List.take_length]; exact hq)
        clear HA
        go_wp2
        go_ret
        exact ⟨⟨false, rfl, fun _ => ⟨by omega, HZ.out⟩⟩, HB.out⟩
      | succ k =>
        have hjl : j < X.length := by rw [HN.out]; omega
        obtain ⟨b1, o1, rfl⟩ := SP.lt HX.out.cells (by rintro rfl; simp at hjl)
        have hcells := (Cms.at (HX.out.on HB.out) hjl).2
        have hb1 := (Cms.at (HX.out.on HB.out) hjl).1
        have HCR := hid' ((HX.out.each _ (getD_mem (d := (c0, s0)) hjl)).on HB.out)
        have HTK : Hid (Sm (X.getD j (c0, s0)).1 → ∀ q ∈ X.take (j + 1), Sm q.1) := fun hs q hq => by
          rw [List.take_add_one, List.getElem?_eq_getElem hjl] at hq
          rcases List.mem_append.1 hq with hq | hq
          · exact HA.out q hq
          · simp at hq
            subst hq
            rw [List.getD_eq_getElem?_getD, List.getElem?_eq_getElem hjl] at hs
            exact hs
        have hjn : j < n := by omega
        clear hjl HA
        generalize X.getD j (c0, s0) = q at *
        obtain ⟨c, s⟩ := q
        simp only at hcells HCR HTK
        have HLG := hid' (long_any P wr s.ra s.rc c.row HCR.out.row)
        have d2 := hcells 2 (by decide)
        have HCE := hid' hcells
        unfold cmA at d2
        clear hcells
        go_wp2_with fail
        refine HLG.out.mono ?_
        rintro e w3 ⟨⟨b, rfl, hlg⟩, hb3⟩
        have HB3 := hid' (bel_trans' HB.out hb3)
        cases b with
        | true =>
          go_wp2
          go_ret
          exact ⟨⟨true, rfl, fun h => by cases h⟩, HB3.out⟩
        | false =>
          have hrl := hlg rfl
          have m6 : w3.cell? ⟨b1, o1 + j * 9 + 6, none⟩ = some (.slice s.fa c.front.length s.fc) := (hb3.cell (p := ⟨b1, o1 + j * 9 + 6, none⟩) hb1).trans (HCE.out 6 (by decide))
          have m8 : w3.cell? ⟨b1, o1 + j * 9 + 8, none⟩ = some (.slice s.sa c.sheet.length s.sc) := (hb3.cell (p := ⟨b1, o1 + j * 9 + 8, none⟩) hb1).trans (HCE.out 8 (by decide))
          have HSM : Hid (c.front.length ≤ 30 → c.sheet.length ≤ 70000 → ∀ q ∈ X.take (j + 1), Sm q.1) := fun h1 h2 => HTK.out ⟨by omega, by omega, by omega⟩
          clear hlg HCE HLG HTK hb3 d2 HB
          generalize c.front.length = fl at *
          generalize c.sheet.length = sl at *
          by_cases h1 : 30 < fl
          · have h1' : (30 : Int) < (fl : Int) := by omega
            go_wp2
            go_ret
            exact ⟨⟨true, rfl, fun h => by cases h⟩, HB3.out⟩
          · have h1' : ¬ (30 : Int) < (fl : Int) := by omega
            by_cases h2 : 70000 < sl
            · have h2' : (70000 : Int) < (sl : Int) := by omega
              go_wp2
              go_ret
              exact ⟨⟨true, rfl, fun h => by cases h⟩, HB3.out⟩
            · have h2' : ¬ (70000 : Int) < (sl : Int) := by omega
              have HA2 := hid' (HSM.out (by omega) (by omega))
              clear HSM
              go_wp2
              go_roundg k
              case measure => omega
              case rel => exact ⟨j + 1, by omega, by simp, HA2, HB3⟩

end Go.Proofs.Ytgalmkhgbokidaa
