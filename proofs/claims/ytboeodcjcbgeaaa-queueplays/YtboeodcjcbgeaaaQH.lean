/-
  What is proved here: the page's example.
-/
import Derived.Test.YtboeodcjcbgeaaaQG
namespace Go.Proofs.Ytboeodcjcbgeaaa
open Go.RowKit Go.Proofs
set_option linter.unusedVariables false
set_option linter.unusedSimpArgs false

def v1 : U := ⟨[], (0, 0), 1⟩
def v2 : U := ⟨[], (0, 0), 2⟩

theorem live_push (w : World) (G : Nat) (h : Q w G G 1 [] 0) : Calls Try.prog 12 #[.pointer (some ⟨G, 0, none⟩), .slice (some ⟨w.heap.size, 0, none⟩) 2 2] (w.alloc (.cells #[.slice none 0 0, .int .i64 0, .int .i64 0, .int .i64 1, .slice none 0 0, .int .i64 0, .int .i64 0, .int .i64 2] 38)) fun e w' => e = .returned (.int .i64 0) ∧ ∃ R', G ≤ R' ∧ Q w' G R' 1 [v1, v2] 0 ∧ Kp G G w w' := by
  have hb : Below w.heap.size w (w.alloc (.cells #[.slice none 0 0, .int .i64 0, .int .i64 0, .int .i64 1, .slice none 0 0, .int .i64 0, .int .i64 0, .int .i64 2] 38)) := (Below.refl _ w).alloc (Nat.le_refl _) _
  have hlt : G < w.heap.size := by obtain ⟨S, f, ra, h⟩ := h; exact h.lt
  have hblk : (w.alloc (.cells #[.slice none 0 0, .int .i64 0, .int .i64 0, .int .i64 1, .slice none 0 0, .int .i64 0, .int .i64 0, .int .i64 2] 38)).heap[w.heap.size]? = some (.cells (flatS [⟨none, 0, 0, (0, 0), 1⟩, ⟨none, 0, 0, (0, 0), 2⟩]).toArray 38 (0, 0)) := heap_alloc_new w _
  refine (push_ok _ G G 1 [] [v1, v2] 0 2 2 (some ⟨w.heap.size, 0, none⟩) (h.on hb) rfl ?_ (by simp) ?_).mono ?_
  · intro u hu
    simp at hu
    rcases hu with rfl | rfl <;> exact ⟨by simp [v1, v2], by unfold RT R64; simp [v1, v2]⟩
  · intro _
    refine ⟨w.heap.size, 0, rfl, by simp, by omega, by omega, fun i hi => ?_⟩
    have hi2 : i < 2 := by simpa using hi
    refine ⟨_, by rw [Nat.zero_add]; exact C4.of_block hblk (by simpa using hi2), ?_⟩
    match i, hi2 with
    | 0, _ => exact ⟨Sh.nil, rfl, VP.nil _ _ _, rfl, rfl⟩
    | 1, _ => exact ⟨Sh.nil, rfl, VP.nil _ _ _, rfl, rfl⟩
  · rintro e w' ⟨rfl, R', h1, h2, h3⟩
    refine ⟨rfl, R', ?_, h2, (Kp.of_below hb).trans h3⟩
    rcases h1 with h1 | h1
    · omega
    · simp at h1; omega

theorem Q.len {w : World} {G R : Nat} {room : Int} {L : List U} {p : Nat} (h : Q w G R room L p) : Calls Try.prog 14 #[.pointer (some ⟨G, 0, none⟩)] w fun e w' => e = .returned (.int .i64 (L.length : Int)) ∧ w' = w := by
  obtain ⟨S, f, ra, h⟩ := h
  exact len_at G _ w h.cells.2.2.2.1

theorem Q.open {w : World} {G R : Nat} {room : Int} {L : List U} {p : Nat} (h : Q w G R room L p) : Calls Try.prog 15 #[.pointer (some ⟨G, 0, none⟩)] w fun e w' => e = .returned (.bool (decide ((L.length : Int) < room))) ∧ Below w.heap.size w w' := by
  obtain ⟨S, f, ra, h⟩ := h
  exact open_at G room _ w h.cells.1 h.cells.2.2.2.1

theorem Q.lt {w : World} {G R : Nat} {room : Int} {L : List U} {p : Nat} (h : Q w G R room L p) : G < w.heap.size := by
  obtain ⟨S, f, ra, h⟩ := h
  exact h.lt

theorem Q.ltR {w : World} {G R : Nat} {room : Int} {u : U} {L : List U} {p : Nat} (h : Q w G R room (u :: L) p) : R < w.heap.size ∧ G ≠ R := by
  obtain ⟨S, f, ra, h⟩ := h
  have hS : S ≠ [] := by have := h.fits; rintro rfl; simp at this
  exact ⟨(h.ne hS).2.2.2.2, (h.ne hS).2.2.2.1⟩

set_option maxRecDepth 10000 in
set_option maxHeartbeats 4000000 in
theorem live_any (w : World) : Calls Try.prog 7 #[] w fun e w' => e = .returned (.bool true) ∧ Below w.heap.size w w' := by
  go_enter Try.func7, Try.ntmps7
  go_wp2_with fail
  refine (qNew_in 1 w (by omega) (by omega)).mono ?_
  rintro e w1 ⟨G, rfl, hG, hq, hb1⟩
  have H1 := hid' hq
  have B1 := hid' hb1
  clear hq hb1
  go_wp2_with fail
  refine (code_any 0 w1).mono ?_
  rintro e w' ⟨rfl, rfl⟩
  go_wp2_with fail
  refine H1.out.open.mono ?_
  rintro e w2 ⟨rfl, hb2⟩
  have H2 := hid' (H1.out.on hb2)
  have B2 := hid' (B1.out.trans (hb2.mono B1.out.size))
  clear H1 B1 hb2
  simp only [List.length_nil]
  go_wp2_with fail
  refine (live_push w2 G H2.out).mono ?_
  rintro e w3 ⟨rfl, R, hR, hq3, hk3⟩
  have H3 := hid' hq3
  have B3 := hid' (hk3.below B2.out (Nat.le_refl _) hG hG)
  clear hq3 hk3 B2 H2
  have hRw : w.heap.size ≤ R := by omega
  go_wp2_with fail
  refine H3.out.len.mono ?_
  rintro e w' ⟨rfl, rfl⟩
  go_wp2_with fail
  refine H3.out.open.mono ?_
  rintro e w4 ⟨rfl, hb4⟩
  have H4 := hid' (H3.out.on hb4)
  have B4 := hid' (B3.out.trans (hb4.mono B3.out.size))
  clear H3 B3 hb4
  have hR4 := H4.out.ltR
  go_wp2_with fail
  refine (pop_some w4 G R 1 [v2] v1 0 H4.out (by omega)).mono ?_
  rintro e w5 ⟨s, rfl, hrd, hq5, hk5⟩
  have H5 := hid' hq5
  have B5 := hid' (hk5.below B4.out (Nat.le_refl _) hG hRw)
  have hd := hrd.d
  obtain ⟨sa, sn, sc, ⟨t1, t2⟩, d⟩ := s
  simp only [v1] at hd
  subst hd
  unfold Slot.val
  have hz5 := hk5.size
  have hz5' := H5.out.ltR
  clear hq5 hk5 B4 H4 hrd
  go_wp2_with fail
  have hb6 : Below w5.heap.size w5 (w5.alloc (.cells #[.slice sa sn sc, .int .i64 t1, .int .i64 t2, .int .i64 1] 38)) := (Below.refl _ w5).alloc (Nat.le_refl _) _
  have hv6 : (w5.alloc (.cells #[.slice sa sn sc, .int .i64 t1, .int .i64 t2, .int .i64 1] 38)).heap[w5.heap.size]? = some (.cells #[.slice sa sn sc, .int .i64 t1, .int .i64 t2, .int .i64 1] 38 (0, 0)) := heap_alloc_new w5 _
  have hs6 : (w5.alloc (.cells #[.slice sa sn sc, .int .i64 t1, .int .i64 t2, .int .i64 1] 38)).heap.size = w5.heap.size + 1 := by simp
  refine (pop_some _ G R 1 [] v2 1 (H5.out.on hb6) (by omega)).mono ?_
  rintro e w7 ⟨s, rfl, hrd, hq7, hk7⟩
  have hz7 := hk7.size
  have H7 := hid' hq7
  have B7 := hid' (hk7.below (B5.out.trans (hb6.mono B5.out.size)) (Nat.le_refl _) hG hRw)
  have V7 := hid' ((hk7.block w5.heap.size (by omega) (by omega) (by omega)).trans hv6)
  have hd := hrd.d
  obtain ⟨sa', sn', sc', ⟨t1', t2'⟩, d⟩ := s
  simp only [v2] at hd
  subst hd
  unfold Slot.val
  clear hq7 hk7 B5 H5 hrd hb6 hv6
  go_wp2_with fail
  have hb8 : Below w7.heap.size w7 (w7.alloc (.cells #[.slice sa' sn' sc', .int .i64 t1', .int .i64 t2', .int .i64 2] 38)) := (Below.refl _ w7).alloc (Nat.le_refl _) _
  have hv8 : (w7.alloc (.cells #[.slice sa' sn' sc', .int .i64 t1', .int .i64 t2', .int .i64 2] 38)).heap[w7.heap.size]? = some (.cells #[.slice sa' sn' sc', .int .i64 t1', .int .i64 t2', .int .i64 2] 38 (0, 0)) := heap_alloc_new w7 _
  have hs8 : (w7.alloc (.cells #[.slice sa' sn' sc', .int .i64 t1', .int .i64 t2', .int .i64 2] 38)).heap.size = w7.heap.size + 1 := by simp
  refine (pop_empty _ G R 1 2 (H7.out.on hb8)).mono ?_
  rintro e w9 ⟨rfl, hb9⟩
  have B9 := hid' ((B7.out.trans (hb8.mono B7.out.size)).trans (hb9.mono (B7.out.trans (hb8.mono B7.out.size)).size))
  have V9 := hid' ((hb9.block w5.heap.size (by omega)).trans ((hb8.block w5.heap.size (by omega)).trans V7.out))
  have X9 := hid' ((hb9.block w7.heap.size (by omega)).trans hv8)
  have hz9 := hb9.size
  unfold s0 Slot.val
  clear hb8 hv8 hb9 V7 H7 B7
  simp only
  go_wp2_with fail
  have hb10 : Below w9.heap.size w9 (w9.alloc (.cells #[.slice none 0 0, .int .i64 0, .int .i64 0, .int .i64 0] 38)) := (Below.refl _ w9).alloc (Nat.le_refl _) _
  refine (code_any 0 _).mono ?_
  rintro e w' ⟨rfl, rfl⟩
  obtain ⟨_, _, _, a3, _⟩ := up_cells ((hb10.block w5.heap.size (by omega)).trans V9.out)
  obtain ⟨_, _, _, b3, _⟩ := up_cells ((hb10.block w7.heap.size (by omega)).trans X9.out)
  have B10 := hid' (B9.out.trans (hb10.mono B9.out.size))
  clear hb10 V9 X9 B9
  go_wp2
  go_ret
  exact ⟨rfl, B10.out⟩

end Go.Proofs.Ytboeodcjcbgeaaa
