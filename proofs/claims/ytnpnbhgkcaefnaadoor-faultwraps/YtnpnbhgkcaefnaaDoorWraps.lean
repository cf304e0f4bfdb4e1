/-
  What is proved here: the law FaultWraps answers true for all ops and every two numbers, and writes nothing that was there.
-/
import Derived.Test.YtnpnbhgkcaefnaaDoorAll
import Derived.Test.YtnpnbhgkcaefnaaDoorIs
namespace Go.Proofs.YtnpnbhgkcaefnaaDoor
open Go.RowKit Go.Extern.Stop Go.Stop Go.Extern
set_option linter.unusedVariables false

theorem owns_one {B : Nat} {w : World} {v : Value} {z : Int} (h : Owns B w v [z]) : ∃ g c, v = .slice (some ⟨g, 0, none⟩) 1 c ∧ 1 ≤ c ∧ w.cell? ⟨g, 0, none⟩ = some (.int .i64 z) ∧ g < w.heap.size := by
  have hh : w.ownsRow B 27 1 v 1 [.int .i64 z] := h
  obtain ⟨h1, ⟨_, h0⟩ | ⟨g, cap, cur, rfl, hg, hcur, hle, hm, hs, ht⟩⟩ := (show w.ownsRow B 27 1 v 1 [.int .i64 z] from h)
  · cases h0
  · exact ⟨g, cap, rfl, hle, by rw [hh.cellAt 0 (by omega)]; rfl, (hh.lt g rfl).2⟩

set_option maxHeartbeats 4000000 in
theorem wraps_zero (w : World) (a : Option Addr) (cap : Nat) (l : List ByteArray) (y : Int) (hs : Sts w.heap.size w a l) (hc : l.length ≤ cap) (hl : l.length ≤ 200) (hg : Laid w) :
    Calls Tryd.prog 3 #[.slice a l.length cap, .int .i64 0, .int .i64 y] w fun e w' => e = .returned (.bool true) ∧ Below w.heap.size w w' := by
  have HC := hid' (chain_any w a cap l 0 hs hc (by omega))
  clear hs
  go_enter Tryd.func3, Tryd.ntmps3
  go_wp2_with fail
  refine HC.out.mono ?_
  rintro e w1 ⟨rfl, rfl⟩
  rw [show chainV l 0 = .nilIface from rfl]
  have HK := hid' (code_nil w1 hg)
  clear HC
  go_wp2_with fail
  refine HK.out.mono ?_
  rintro e w2 ⟨rfl, hb2⟩
  have HB2 := hid' hb2
  have hg2 := hg.keep hb2 hg.pos
  have HO := hid' (ops_nil w2)
  clear hb2 HK
  go_wp2_with fail
  refine HO.out.mono ?_
  rintro e w3 ⟨rfl, rfl⟩
  have HA := hid' (all_nil w3 hg2)
  clear HO
  go_wp2_with fail
  refine HA.out.mono ?_
  rintro e w4 ⟨rfl, hb4⟩
  have HB4 := hid' (below_all HB2.out (Nat.le_refl _) hb4)
  have hg4 := hg2.keep hb4 hg2.pos
  have HI := hid' (is_of .nilIface (.inl rfl) y false (isNum_nil y) w4)
  clear hb4 HA
  go_wp2_with fail
  refine HI.out.mono ?_
  rintro e w5 ⟨rfl, hb5⟩
  have HB5 := hid' (below_all HB4.out (Nat.le_refl _) hb5)
  have HL := hid' (live_any w5 (hg4.keep hb5 hg4.pos))
  clear hb5 HI
  go_wp2_with fail
  refine HL.out.mono ?_
  rintro e w6 ⟨rfl, hb6⟩
  have HB6 := hid' (below_all HB5.out (Nat.le_refl _) hb6)
  clear hb6
  go_wp2
  go_ret
  exact ⟨rfl, HB6.out⟩

set_option maxHeartbeats 4000000 in
theorem wraps_some (w : World) (a : Option Addr) (cap : Nat) (l : List ByteArray) (z y : Int) (hz : ¬ z = 0) (hs : Sts w.heap.size w a l) (hc : l.length ≤ cap) (hl : l.length ≤ 200) (hg : Laid w) :
    Calls Tryd.prog 3 #[.slice a l.length cap, .int .i64 z, .int .i64 y] w fun e w' => e = .returned (.bool true) ∧ Below w.heap.size w w' := by
  have HC := hid' (chain_any w a cap l z hs hc (by omega))
  have HA := hid' (all_chain l z w hg)
  have HK := hid' (code_of (wrapV l (numV z)) z (asNum_chain _ _))
  have HO := hid' (ops_chain l z (by omega))
  have HI := hid' (is_of (wrapV l (numV z)) (isErr_wrap ⟨_, _, rfl⟩ l) z (z == z) (isNum_chain l z z))
  have HJ := hid' (is_of (wrapV l (numV z)) (isErr_wrap ⟨_, _, rfl⟩ l) y (z == y) (isNum_chain l z y))
  have HS := hid' hs
  have hcv : chainV l z = wrapV l (numV z) := by unfold chainV; rw [if_neg hz]
  rw [hcv] at HC
  clear hs hcv
  obtain ⟨tx, vx, hx⟩ := wrapV_iface (b := numV z) ⟨_, _, rfl⟩ l
  rw [hx] at HC HA HK HO HI HJ
  clear hx
  rw [show (z == z) = true by simp] at HI
  go_enter Tryd.func3, Tryd.ntmps3
  go_wp2_with fail
  refine HC.out.mono ?_
  rintro e w1 ⟨rfl, rfl⟩
  clear HC
  go_wp2_with fail
  refine HA.out.mono ?_
  rintro e w2 ⟨v2, rfl, ho2, hb2⟩
  obtain ⟨g, c, rfl, hc1, hcell, hgl⟩ := owns_one ho2
  have HB2 := hid' hb2
  have hg2 := hg.keep hb2 hg.pos
  have HK2 := hid' (HK.out w2 hg2)
  clear hb2 HA ho2 HK
  go_wp2_with fail
  refine HK2.out.mono ?_
  rintro e w3 ⟨rfl, hb3⟩
  have HB3 := hid' (below_all HB2.out (Nat.le_refl _) hb3)
  have hcell3 := (hb3.cell (p := ⟨g, 0, none⟩) hgl).trans hcell
  have hgl3 : g < w3.heap.size := by have := hb3.size; omega
  have hg3 := hg2.keep hb3 hg2.pos
  clear hb3 HK2 hcell hgl
  go_wp2_with fail
  refine (HO.out w3).mono ?_
  rintro e w4 ⟨a4, c4, rfl, hc4, hs4, hb4⟩
  have HB4 := hid' (below_all HB3.out (Nat.le_refl _) hb4)
  have hcell4 := (hb4.cell (p := ⟨g, 0, none⟩) hgl3).trans hcell3
  have hgl4 : g < w4.heap.size := by have := hb4.size; omega
  have hg4 := hg3.keep hb4 hg3.pos
  have HM := hid' (same_any w4 a4 a c4 cap l hs4 (HS.out.on HB4.out) hc4 hc (by omega))
  clear hb4 HO hcell3 hgl3 hs4
  go_wp2_with fail
  refine HM.out.mono ?_
  rintro e w5 ⟨rfl, hb5⟩
  have HB5 := hid' (below_all HB4.out (Nat.le_refl _) hb5)
  have hcell5 := (hb5.cell (p := ⟨g, 0, none⟩) hgl4).trans hcell4
  have hg5 := hg4.keep hb5 hg4.pos
  clear hb5 HM hcell4 hgl4
  go_wp2_with fail
  refine (HI.out w5).mono ?_
  rintro e w6 ⟨rfl, hb6⟩
  have HB6 := hid' (below_all HB5.out (Nat.le_refl _) hb6)
  have hg6 := hg5.keep hb6 hg5.pos
  clear hb6 HI hcell5
  go_wp2_with fail
  refine (HJ.out w6).mono ?_
  rintro e w7 ⟨rfl, hb7⟩
  have HB7 := hid' (below_all HB6.out (Nat.le_refl _) hb7)
  have HL := hid' (live_any w7 (hg6.keep hb7 hg6.pos))
  clear hb7 HJ
  have hyz : (z == y) = (y == z) := Bool.eq_iff_iff.2 ⟨fun h => beq_iff_eq.2 (beq_iff_eq.1 h).symm, fun h => beq_iff_eq.2 (beq_iff_eq.1 h).symm⟩
  rw [hyz]
  clear hyz
  by_cases hq : y = z
  · subst hq
    go_wp2_with fail
    refine HL.out.mono ?_
    rintro e w8 ⟨rfl, hb8⟩
    have HB8 := hid' (below_all HB7.out (Nat.le_refl _) hb8)
    clear hb8
    go_wp2
    go_ret
    exact ⟨rfl, HB8.out⟩
  · have hq' : (y == z) = false := by simpa using hq
    go_wp2_with fail
    refine HL.out.mono ?_
    rintro e w8 ⟨rfl, hb8⟩
    have HB8 := hid' (below_all HB7.out (Nat.le_refl _) hb8)
    clear hb8
    go_wp2
    go_ret
    exact ⟨rfl, HB8.out⟩

theorem wraps_walk (w : World) (a : Option Addr) (cap : Nat) (l : List ByteArray) (z y : Int) (hs : Sts w.heap.size w a l) (hc : l.length ≤ cap) (hm : cap ≤ 9223372036854775807) (hg : Laid w) :
    Calls Tryd.prog 3 #[.slice a l.length cap, .int .i64 z, .int .i64 y] w fun e w' => e = .returned (.bool true) ∧ Below w.heap.size w w' := by
  by_cases hl : 200 < l.length
  · have HL := hid' (live_any w hg)
    clear hs
    go_enter Tryd.func3, Tryd.ntmps3
    go_wp2_with fail
    refine HL.out.mono ?_
    rintro e w8 ⟨rfl, hb8⟩
    have HB8 := hid' hb8
    clear hb8
    go_wp2
    go_ret
    exact ⟨rfl, HB8.out⟩
  · by_cases hz : z = 0
    · subst hz
      exact wraps_zero w a cap l y hs hc (by omega) hg
    · exact wraps_some w a cap l z y hz hs hc (by omega) hg
end Go.Proofs.YtnpnbhgkcaefnaaDoor
