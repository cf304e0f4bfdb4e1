/-
  What is proved here: QueueFull, call by call.
-/
import Derived.Test.YtboeodcjcbgeaaaQH
import Derived.OpenShut
namespace Go.Proofs.Ytboeodcjcbgeaaa
open Go.RowKit Go.Proofs
set_option linter.unusedVariables false
set_option linter.unusedSimpArgs false

/-- Push of changes that make has made. -/
theorem push_made (w : World) (G R : Nat) (room : Int) (L : List U) (p k b : Nat) (h : Q w G R room L p) (hm : L.length + k ≤ 65536) (hb : w.heap[b]? = some (.cells (flatS (List.replicate k s0)).toArray 38 (0, 0))) (hG : b ≠ G) (hR : b ≠ R) :
    Calls Try.prog 12 #[.pointer (some ⟨G, 0, none⟩), .slice (some ⟨b, 0, none⟩) k k] w fun e w' => e = .returned (.int .i64 0) ∧ ∃ R', (R' = R ∨ w.heap.size ≤ R') ∧ Q w' G R' room (L ++ List.replicate k u0) p ∧ Kp G R w w' := by
  refine push_ok w G R room L (List.replicate k u0) p k k _ h (by simp) ?_ hm ?_
  · intro u hu
    rw [List.mem_replicate] at hu
    rw [hu.2]
    exact Fit.zero
  · intro _
    refine ⟨b, 0, rfl, (Array.getElem?_eq_some_iff.1 hb).1, hG, hR, fun i hi => ?_⟩
    rw [List.length_replicate] at hi
    refine ⟨s0, ?_, ?_⟩
    · rw [Nat.zero_add]
      have := C4.of_block hb (i := i) (by simpa using hi)
      rwa [show (List.replicate k s0).getD i s0 = s0 by simp [List.getD, List.getElem?_replicate, hi]] at this
    · rw [show (List.replicate k u0).getD i u0 = u0 by simp [List.getD, List.getElem?_replicate, hi]]
      exact Rd.zero _ _

theorem Q.many {w : World} {G R : Nat} {room : Int} {L : List U} {p : Nat} (h : Q w G R room L p) (a : Option Addr) (n c : Nat) (hn : 65536 < L.length + n) (hn' : n ≤ 100000) : Calls Try.prog 12 #[.pointer (some ⟨G, 0, none⟩), .slice a n c] w fun e w' => e = .returned (.int .i64 3) ∧ w' = w := by
  obtain ⟨S, f, ra, h⟩ := h
  exact push_many w G a n c L.length h.cells.2.2.2.1 (by have := h.fits; have := h.most; omega) hn hn'

set_option maxRecDepth 10000 in
set_option maxHeartbeats 4000000 in
theorem full_nat (w : World) (n m : Nat) (hn : n ≤ 65535) (hm : m ≤ 255) : Calls Try.prog 4 #[.int .u16 (n : Int), .int .u8 (m : Int)] w fun e w' => e = .returned (.bool true) ∧ Below w.heap.size w w' := by
  obtain ⟨iU, hiU, hU0, hU1, hU2⟩ := info_parts Try.infoUp
  go_enter Try.func4, Try.ntmps4
  go_wp2_with fail
  refine (qNew_in 1 w (by omega) (by omega)).mono ?_
  rintro e w1 ⟨G, rfl, hG, hq, hb1⟩
  have H1 := hid' hq
  have B1 := hid' hb1
  clear hq hb1
  go_wp2_with fail
  refine (code_any 0 w1).mono ?_
  rintro e w' ⟨rfl, rfl⟩
  obtain ⟨k, hk⟩ : ∃ k, k = n + 1 := ⟨_, rfl⟩
  have hk' : (n : Int) + 1 = (k : Int) := by omega
  have hk1 : k ≤ 65536 := by omega
  have hk2 : 1 ≤ k := by omega
  clear hk
  go_wp2_with (first
    | (refine wpList_make_full _ rfl _ _ 30 rfl w'.heap.size 38 iU s0.val 4 Try.underlying30 hiU hU0 hU1 .i64 .i64 _ _ k rfl rfl (by first | rfl | exact hk') (by first | rfl | exact hk') (by rw [hU2]; omega) (by unfold maxLen; omega) (Nat.le_refl _) ?_; intro w2 hmade hgrow)
    | (refine wpList_make_full _ rfl _ _ 30 rfl w2.heap.size 38 iU s0.val 4 Try.underlying30 hiU hU0 hU1 .i64 .i64 _ _ m rfl rfl rfl rfl (by rw [hU2]; omega) (by unfold maxLen; omega) (Nat.le_refl _) ?_; intro w3 hmade3 hgrow3)
    | fail)
  have hb2 : Below w'.heap.size w' w2 := (Below.refl _ w').grown hgrow (Nat.le_refl _) (fun k hk => by cases hk)
  have hb3 : Below w2.heap.size w2 w3 := (Below.refl _ w2).grown hgrow3 (Nat.le_refl _) (fun k hk => by cases hk)
  have hv2 := made_up hmade
  have hl2 : w'.heap.size < w2.heap.size := (Array.getElem?_eq_some_iff.1 hv2).1
  have hv3 := made_up hmade3
  have hl3 : w2.heap.size < w3.heap.size := (Array.getElem?_eq_some_iff.1 hv3).1
  have H3 := hid' ((H1.out.on hb2).on hb3)
  have B3 := hid' ((B1.out.trans (hb2.mono B1.out.size)).trans (hb3.mono (B1.out.trans (hb2.mono B1.out.size)).size))
  have hGl := H1.out.lt
  have hv2' := (hb3.block _ hl2).trans hv2
  have HP := hid' (push_made w3 G G 1 [] 0 k w'.heap.size H3.out (by simp; omega) hv2' (by omega) (by omega))
  have HV3 := hid' hv3
  clear hmade hmade3 hgrow hgrow3 hv2 hv2' hv3 hb2 hb3 H1 B1
  refine HP.out.mono ?_
  rintro e w4 ⟨rfl, R, hR, hq4, hk4⟩
  rw [List.nil_append] at hq4
  have H4 := hid' hq4
  have B4 := hid' (hk4.below B3.out (Nat.le_refl _) hG hG)
  have V4 := hid' ((hk4.block w2.heap.size hl3 (by omega) (by omega)).trans HV3.out)
  have hRw : w.heap.size ≤ R := by rcases hR with h | h <;> omega
  have hRne : w2.heap.size ≠ R := by rcases hR with h | h <;> omega
  have hGne : w2.heap.size ≠ G := by omega
  clear hq4 hk4 HP H3 B3 HV3
  go_wp2_with fail
  refine (code_any 0 _).mono ?_
  rintro e w' ⟨rfl, rfl⟩
  go_wp2_with fail
  refine H4.out.len.mono ?_
  rintro e w' ⟨rfl, rfl⟩
  rw [List.length_replicate]
  go_wp2_with fail
  by_cases hbig : 65536 < k + m
  · have hbig' : (k : Int) + (m : Int) > 65536 := by omega
    refine (H4.out.many _ m m (by rw [List.length_replicate]; exact hbig) (by omega)).mono ?_
    rintro e w' ⟨rfl, rfl⟩
    go_wp2_with fail
    refine (code_any 3 _).mono ?_
    rintro e w' ⟨rfl, rfl⟩
    go_wp2_with fail
    refine H4.out.len.mono ?_
    rintro e w' ⟨rfl, rfl⟩
    rw [List.length_replicate]
    go_wp2_with fail
    refine (live_any _).mono ?_
    rintro e w6 ⟨rfl, hb6⟩
    have B6 := hid' (B4.out.trans (hb6.mono B4.out.size))
    clear hb6 B4
    go_wp2
    go_ret
    exact ⟨rfl, B6.out⟩
  · have hbig' : ¬ (k : Int) + (m : Int) > 65536 := by omega
    refine (push_made _ G R 1 _ 0 m w2.heap.size H4.out (by rw [List.length_replicate]; omega) V4.out hGne hRne).mono ?_
    rintro e w5 ⟨rfl, R', hR', hq5, hk5⟩
    have H5 := hid' hq5
    have B5 := hid' (hk5.below B4.out (Nat.le_refl _) hG hRw)
    clear hq5 hk5 B4 H4
    go_wp2_with fail
    refine (code_any 0 _).mono ?_
    rintro e w' ⟨rfl, rfl⟩
    go_wp2_with fail
    refine H5.out.len.mono ?_
    rintro e w' ⟨rfl, rfl⟩
    rw [List.length_append, List.length_replicate, List.length_replicate, Int.natCast_add]
    go_wp2_with fail
    refine (live_any _).mono ?_
    rintro e w6 ⟨rfl, hb6⟩
    have B6 := hid' (B5.out.trans (hb6.mono B5.out.size))
    clear hb6 B5
    go_wp2
    go_ret
    exact ⟨rfl, B6.out⟩

theorem full_walk (w : World) (z0 : Int) (h0 : (Lit.int .u16 z0).wf = true) (z1 : Int) (h1 : (Lit.int .u8 z1).wf = true) : Calls Try.prog 4 #[.int .u16 z0, .int .u8 z1] w fun e w' => e = .returned (.bool true) ∧ Below w.heap.size w w' := by
  have b0 := bounds_u16 h0
  have b1 := bounds_u8 h1
  obtain ⟨n, rfl⟩ : ∃ n : Nat, z0 = (n : Int) := ⟨z0.toNat, by omega⟩
  obtain ⟨m, rfl⟩ : ∃ m : Nat, z1 = (m : Int) := ⟨z1.toNat, by omega⟩
  exact full_nat w n m (by omega) (by omega)

end Go.Proofs.Ytboeodcjcbgeaaa
