/-
  What is proved here: live answers true and writes nothing that was there.
-/
import Derived.Test.YtmclojhnacpkkaaSign
import Derived.Test.YtmclojhnacpkkaaGet
namespace Go.Proofs.Ytmclojhnacpkkaa
open Go.RowKit
set_option linter.unusedVariables false

theorem get_80_1 {n next e : Int} (h : GetRel [128, 1] 0 n next e) : e = 6 := by
  have k : GetRel [128, 1] 0 0 0 6 := Or.inr (Or.inr ⟨by omega, by simp, fun m hm => hm.head (by simp), rfl, rfl, rfl⟩)
  exact (h.uniq k).2.2

theorem sz_300 : sz 300 = 2 := by decide +kernel
theorem bytes_300 : bytesOf 300 = [130, 44] := by decide +kernel
theorem sz_3 : sz 3 = 1 := by decide +kernel
theorem bytes_3 : bytesOf 3 = [3] := by decide +kernel
theorem zig_2 : zig (-2) = 3 := by decide

theorem bts_two (w : World) : Bts (w.alloc (.cells #[.int .u8 128, .int .u8 1] 5)).heap.size (w.alloc (.cells #[.int .u8 128, .int .u8 1] 5)) (some ⟨w.heap.size, 0, none⟩) [128, 1] := by
  refine ⟨fun z hz => ?_, fun _ => ⟨w.heap.size, 0, rfl, by simp, fun i hi => ?_⟩⟩
  · simp at hz; omega
  · match i, hi with
    | 0, _ => simp
    | 1, _ => simp
    | i + 2, hi => exact absurd hi (by simp)

/-- Bytes that a call owns, of known length, as a string. -/
theorem owns_string {base : Nat} {w : World} {g n cap : Nat} {l : List Int} (h : w.ownsRow base 5 1 (.slice (some ⟨g, 0, none⟩) n cap) n (B8 l)) (hr : ∀ z ∈ l, 0 ≤ z ∧ z < 256) :
    (convert 22 9 (.slice (some ⟨g, 0, none⟩) n cap)).run Try.prog w = .ok (.string (strOfNums l)) w := by
  have e := owns_len h
  rw [← e]
  exact (Bts.of_owns h hr).string cap

theorem put_300 (w : World) : Calls Try.prog 10 #[.slice none 0 0, .int .u64 300] w fun e w' => ∃ g c, e = .returned (.slice (some ⟨g, 0, none⟩) 2 c) ∧
    (convert 22 9 (.slice (some ⟨g, 0, none⟩) 2 c)).run Try.prog w' = .ok (.string ⟨#[130, 44]⟩) w' ∧ Below w.heap.size w w' := by
  refine (put_any w none 0 [] 300 (Bts.nil _ _ _) (by simp) (by omega) (by omega)).mono ?_
  rintro e w2 ⟨g, c, rfl, hown, hbel⟩
  have hs := owns_string hown (by intro z hz; rw [List.nil_append] at hz; exact enc_range _ _ z hz)
  rw [show (300 : Int).toNat = 300 from rfl, sz_300, List.nil_append, bytes_300] at hs
  refine ⟨g, c, ?_, hs, hbel⟩
  rw [show (300 : Int).toNat = 300 from rfl, sz_300]
  rfl

theorem putInt_2 (w : World) : Calls Try.prog 16 #[.slice none 0 0, .int .i64 (-2)] w fun e w' => ∃ g c, e = .returned (.slice (some ⟨g, 0, none⟩) 1 c) ∧
    (convert 22 9 (.slice (some ⟨g, 0, none⟩) 1 c)).run Try.prog w' = .ok (.string ⟨#[3]⟩) w' ∧ Below w.heap.size w w' := by
  refine (putInt_any w none 0 [] (-2) (Bts.nil _ _ _) (by simp) (by omega) (by omega)).mono ?_
  rintro e w2 ⟨g, c, rfl, hown, hbel⟩
  have hs := owns_string hown (by intro z hz; rw [List.nil_append] at hz; exact enc_range _ _ z hz)
  rw [zig_2, show (3 : Int).toNat = 3 from rfl, sz_3, List.nil_append, bytes_3] at hs
  refine ⟨g, c, ?_, hs, hbel⟩
  rw [zig_2, show (3 : Int).toNat = 3 from rfl, sz_3]
  rfl

set_option maxHeartbeats 1000000 in
theorem live_any (w : World) : Calls Try.prog 9 #[] w fun e w' => e = .returned (.bool true) ∧ Below w.heap.size w w' := by
  have hbt := bts_two w
  have hb1 := (Below.refl w.heap.size w).alloc (Nat.le_refl _) (.cells #[.int .u8 128, .int .u8 1] 5)
  generalize hW : w.alloc (.cells #[.int .u8 128, .int .u8 1] 5) = W at hbt hb1
  have HW : Hid (w.alloc (.cells #[.int .u8 128, .int .u8 1] 5) = W) := hW
  clear hW
  go_enter Try.func9, Try.ntmps9
  go_wp2_with fail
  rw [HW.out]
  refine (get_any W (some ⟨w.heap.size, 0, none⟩) 2 [128, 1] 0 hbt (by simp) (by simp)).mono ?_
  rintro e w' ⟨⟨n, next, er, rfl, hrel⟩, rfl⟩
  have her := get_80_1 hrel
  subst her
  clear hrel hbt HW
  go_wp2_with fail
  refine (put_300 w').mono ?_
  rintro e w2 ⟨g, c, rfl, hs, hbel⟩
  have hz2 := hbel.size
  have hz1 := hb1.size
  have hb2 := hb1.trans (hbel.mono hz1)
  clear hbel hb1
  go_wp2_with fail
  clear hs
  refine (putInt_2 w2).mono ?_
  rintro e w3 ⟨g3, c3, rfl, hs3, hbel3⟩
  have hz3 := hbel3.size
  have hb3 := hb2.trans (hbel3.mono (by omega))
  clear hbel3 hb2
  go_wp2_with fail
  clear hs3
  refine (code_any 6 w3).mono ?_
  rintro e w4 ⟨rfl, rfl⟩
  go_wp2
  go_ret
  exact ⟨rfl, hb3⟩
end Go.Proofs.Ytmclojhnacpkkaa
