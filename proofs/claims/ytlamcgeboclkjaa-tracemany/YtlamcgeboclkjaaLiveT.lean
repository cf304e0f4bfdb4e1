/-
  What is proved here: the page's example.
-/
import Derived.Test.YtlamcgeboclkjaaClose
namespace Go.Proofs.Ytlamcgeboclkjaa
open Go.RowKit Go.Maps
set_option linter.unusedVariables false
set_option linter.unusedSimpArgs false

theorem code_any (z : Int) (w : World) : Calls Try.prog 5 #[.int .i64 z] w fun e w' => e = .returned (.int .i64 z) ∧ w' = w := by
  go_enter Try.func5, Try.ntmps5
  go_wp2
  go_ret
  exact ⟨rfl, rfl⟩

theorem same_one (x : T) (u v : Value) (w : World) (hu : One x u w) (hv : One x v w) : Calls Try.prog 13 #[u, v] w fun e w' => e = .returned (.bool true) ∧ Below w.heap.size w w' := by
  obtain ⟨a, ca, rfl, _, _, ta⟩ := hu.isL
  obtain ⟨b, cb, rfl, _, _, tb⟩ := hv.isL
  refine (same_any w a b ca cb [x] [x] ta tb (by simp) (by simp)).mono ?_
  rintro e w' ⟨rfl, hg⟩
  exact ⟨by simp, hg.below⟩

theorem St.iff {w : World} {G S M nn : Nat} {ks ks' : Int → Prop} {cnt : Nat} {f : Int → T} {nx : Nat} {sx : T} (h : St w G S M nn ks cnt f nx sx) (e : ∀ z, ks z ↔ ks' z) : St w G S M nn ks' cnt f nx sx := by
  obtain ⟨h1, h2, D, h3, h4, h5, h6⟩ := h
  exact ⟨h1, h2, D, h3, h4, fun z => (h5 z).trans (e z), fun z hz => h6 z ((e z).2 hz)⟩

def f0 : Int → T := fun _ => (0, 0)
def f5 : Int → T := fun z => if z = 0 then (5, 0) else (0, 0)

theorem RT.five : RT (5, 0) := by unfold RT R64; omega
theorem check00 : checkT (0, 0) = 0 := by decide
theorem check50 : checkT (5, 0) = 0 := by decide

theorem open_new {w : World} {G S M nn : Nat} {ks : Int → Prop} {cnt : Nat} {f : Int → T} {nx : Nat} {sx : T} (h : St w G S M nn ks cnt f nx sx) (x : T) (hr : RT x) (hck : checkT x = 0) (hle : le2 sx x = true) (hcnt : cnt < 64) (hnn : nn ≤ 1000) (hnx : nx ≤ 1000) (hnew : ¬ ks nx) (hfx : f nx = x) :
    Calls Try.prog 7 #[.pointer (some ⟨G, 0, none⟩), .slice (some ⟨w.heap.size, 0, none⟩) 1 1] (w.alloc (.cells #[.int .i64 x.1, .int .i64 x.2] 31)) fun e w' => e = .returned (.tuple #[.int .i64 (nx : Int), .int .i64 0]) ∧ St w' G S M (nn + 1) (fun z => z = (nx : Int) ∨ ks z) (cnt + 1) f (nx + 1) sx ∧ Kp G S M w w' := by
  have hb : Below w.heap.size w (w.alloc (.cells #[.int .i64 x.1, .int .i64 x.2] 31)) := (Below.refl _ w).alloc (Nat.le_refl _) _
  refine (open_any (h.on hb) x _ (One.new w x hr) hck hle hcnt hnn hnx hnew hfx).mono ?_
  rintro e w' ⟨h1, h2, h3⟩
  exact ⟨h1, h2, (Kp.of_below hb).trans h3⟩

theorem open_new_many {w : World} {G S M nn : Nat} {ks : Int → Prop} {cnt : Nat} {f : Int → T} {nx : Nat} {sx : T} (h : St w G S M nn ks cnt f nx sx) (x : T) (hr : RT x) (hck : checkT x = 0) (hle : le2 sx x = true) (hcnt : 64 ≤ cnt) :
    Calls Try.prog 7 #[.pointer (some ⟨G, 0, none⟩), .slice (some ⟨w.heap.size, 0, none⟩) 1 1] (w.alloc (.cells #[.int .i64 x.1, .int .i64 x.2] 31)) fun e w' => e = .returned (.tuple #[.int .i64 0, .int .i64 3]) ∧ Below w.heap.size w w' := by
  have hb : Below w.heap.size w (w.alloc (.cells #[.int .i64 x.1, .int .i64 x.2] 31)) := (Below.refl _ w).alloc (Nat.le_refl _) _
  refine (open_many (h.on hb) x _ (One.new w x hr) hck hle hcnt).mono ?_
  rintro e w' ⟨h1, h2⟩
  exact ⟨h1, hb.trans (h2.mono hb.size)⟩

theorem same_new (x : T) (u : Value) (w : World) (hu : One x u w) : Calls Try.prog 13 #[u, .slice (some ⟨w.heap.size, 0, none⟩) 1 1] (w.alloc (.cells #[.int .i64 x.1, .int .i64 x.2] 31)) fun e w' => e = .returned (.bool true) ∧ Below w.heap.size w w' := by
  have hb : Below w.heap.size w (w.alloc (.cells #[.int .i64 x.1, .int .i64 x.2] 31)) := (Below.refl _ w).alloc (Nat.le_refl _) _
  refine (same_one x u _ _ (hu.on hb) (One.new w x hu.1)).mono ?_
  rintro e w' ⟨h1, h2⟩
  exact ⟨h1, hb.trans (h2.mono hb.size)⟩

theorem allow_five {w : World} {G S M : Nat} (h : St w G S M 2 (fun z => z = 0 ∨ z = 1) 2 f0 2 (0, 0)) :
    Calls Try.prog 11 #[.pointer (some ⟨G, 0, none⟩), .int .i64 0, .slice (some ⟨w.heap.size, 0, none⟩) 1 1] (w.alloc (.cells #[.int .i64 5, .int .i64 0] 31)) fun e w' => e = .returned (.int .i64 0) ∧ St w' G S M 3 (fun z => z = 0 ∨ z = 1) 2 f5 2 (0, 0) ∧ Kp G S M w w' := by
  have hb : Below w.heap.size w (w.alloc (.cells #[.int .i64 5, .int .i64 0] 31)) := (Below.refl _ w).alloc (Nat.le_refl _) _
  refine (allow_any (h.on hb) 0 (by unfold R64; omega) (.inl rfl) (by omega) (by omega) (by omega) (5, 0) _ (One.new w (5, 0) RT.five) check50 (by decide) f5 (by decide) (fun q _ hq => by simp [f5, f0, hq]) (0, 0) ⟨1, .inr (.inr rfl), by decide⟩ (fun q hq => ?_) check00 (by decide)).mono ?_
  · by_cases e : q = 0
    · subst e; decide
    · simp [f5, e, le2]
  · rintro e w' ⟨h1, h2, h3⟩
    exact ⟨h1, h2.iff (fun z => by omega), (Kp.of_below hb).trans h3⟩

theorem close_five {w : World} {G S M : Nat} (h : St w G S M 3 (fun z => z = 0 ∨ z = 1) 2 f5 2 (0, 0)) :
    Calls Try.prog 8 #[.pointer (some ⟨G, 0, none⟩), .int .i64 1] w fun e w' => e = .returned (.int .i64 0) ∧ St w' G S M 3 (fun z => z = 0) 1 f5 2 (5, 0) ∧ Kp G S M w w' := by
  refine (close_any h 1 (by unfold R64; omega) (.inr rfl) (by omega) (5, 0) (fun _ => ⟨⟨0, ⟨.inl rfl, by omega⟩, by decide⟩, fun q hq => ?_, check50, by decide⟩) (fun e => absurd (by omega) e)).mono ?_
  · have : q = 0 := by omega
    subst this; decide
  · rintro e w' ⟨h1, h2, h3⟩
    exact ⟨h1, h2.iff (fun z => by omega), h3⟩

set_option maxRecDepth 10000 in
set_option maxHeartbeats 4000000 in
theorem live_many (w : World) : Calls Try.prog 6 #[] w fun e w' => e = .returned (.bool true) ∧ Below w.heap.size w w' := by
  go_enter Try.func6, Try.ntmps6
  go_wp2_with fail
  refine (tNew_any f0 w).mono ?_
  rintro e w1 ⟨G, S, M, rfl, hG, hS, hM, hst, hb1⟩
  have H1 := hid' hst
  have B1 := hid' hb1
  clear hst hb1
  go_wp2_with fail
  refine (code_any 0 w1).mono ?_
  rintro e w' ⟨rfl, rfl⟩
  go_wp2_with fail
  refine (open_new H1.out (0, 0) RT.zero check00 (by decide) (by omega) (by omega) (by omega) (fun h => h) rfl).mono ?_
  rintro e w2 ⟨rfl, hst, hkp⟩
  have H2 := hid' hst
  have B2 := hid' (hkp.below B1.out (Nat.le_refl _) hG hS hM)
  clear hst hkp B1
  go_wp2_with fail
  refine (open_new H2.out (0, 0) RT.zero check00 (by decide) (by omega) (by omega) (by omega) (by simp) rfl).mono ?_
  rintro e w3 ⟨rfl, hst, hkp⟩
  have H3 : Hid (St w3 G S M 2 (fun z => z = 0 ∨ z = 1) 2 f0 2 (0, 0)) := hst.iff (fun z => by simp; omega)
  have B3 := hid' (hkp.below B2.out (Nat.le_refl _) hG hS hM)
  clear hst hkp B2
  go_wp2_with fail
  refine (allow_five H3.out).mono ?_
  rintro e w4 ⟨rfl, hst, hkp⟩
  have H4 := hid' hst
  have B4 := hid' (hkp.below B3.out (Nat.le_refl _) hG hS hM)
  clear hst hkp B3
  go_wp2_with fail
  refine (tSince_any H4.out).mono ?_
  rintro e w5 ⟨s, rfl, hs, hb5⟩
  have H5 := hid' (H4.out.on hb5)
  have S5 := hid' hs
  have B5 := hid' (B4.out.trans (hb5.mono B4.out.size))
  clear hs hb5 B4
  go_wp2_with fail
  refine (close_five H5.out).mono ?_
  rintro e w6 ⟨rfl, hst, hkp⟩
  have H6 := hid' hst
  have S6 := hid' (H5.out.one hkp S5.out)
  have B6 := hid' (hkp.below B5.out (Nat.le_refl _) hG hS hM)
  clear hst hkp B5
  go_wp2_with fail
  refine (code_any 0 w6).mono ?_
  rintro e w' ⟨rfl, rfl⟩
  go_wp2_with fail
  refine (code_any 0 w').mono ?_
  rintro e w' ⟨rfl, rfl⟩
  go_wp2_with fail
  refine (code_any 0 w').mono ?_
  rintro e w' ⟨rfl, rfl⟩
  go_wp2_with fail
  refine (code_any 0 w').mono ?_
  rintro e w' ⟨rfl, rfl⟩
  go_wp2_with fail
  refine (same_new (0, 0) s w' S6.out).mono ?_
  rintro e w7 ⟨rfl, hb7⟩
  have H7 := hid' (H6.out.on hb7)
  have B7 := hid' (B6.out.trans (hb7.mono B6.out.size))
  clear hb7 B6
  go_wp2_with fail
  refine (tSince_any H7.out).mono ?_
  rintro e w8 ⟨s8, rfl, hs8, hb8⟩
  have S8 := hid' hs8
  have B8 := hid' (B7.out.trans (hb8.mono B7.out.size))
  clear hs8 hb8 B7
  go_wp2_with fail
  refine (same_new (5, 0) s8 w8 S8.out).mono ?_
  rintro e w9 ⟨rfl, hb9⟩
  have B9 := hid' (B8.out.trans (hb9.mono B8.out.size))
  clear hb9 B8
  go_wp2
  go_ret
  exact ⟨rfl, B9.out⟩

end Go.Proofs.Ytlamcgeboclkjaa
