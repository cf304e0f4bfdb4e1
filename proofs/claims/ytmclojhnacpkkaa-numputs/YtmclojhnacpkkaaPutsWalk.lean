/-
  What is proved here: the law NumPuts answers true for all bytes and every number and writes nothing that was there.
-/
import Derived.Test.YtmclojhnacpkkaaAid
import Derived.Laws.AppendOwnNone
namespace Go.Proofs.Ytmclojhnacpkkaa
open Go.RowKit
set_option linter.unusedVariables false

theorem owns_empty (w : World) : (w.alloc (.cells #[] 5)).ownsRow w.heap.size 5 1 (.slice (some ⟨w.heap.size, 0, none⟩) 0 0) 0 (B8 []) := by
  have h := World.ownsRow_lit (base := w.heap.size) (e := 5) (size := 1) w #[] 0 (Nat.le_refl _) (by decide) rfl
  simpa [B8] using h

/-- Behind append([]byte{}, b...). -/
theorem appended {w w2 : World} {v : Value} {n : Nat} {l : List Int} {o : Obj} (hl : l.length = n) (hr : ∀ z ∈ l, 0 ≤ z ∧ z < 256) (hown : w2.ownsRow w.heap.size 5 1 v (0 + n) (B8 [] ++ B8 l)) (hgrow : (w.alloc o).grownBy w2 (some w.heap.size)) (hnil : v ≠ .slice none 0 0) :
    ∃ g c, v = .slice (some ⟨g, 0, none⟩) n c ∧ Bts w2.heap.size w2 (some ⟨g, 0, none⟩) l ∧ Below w.heap.size w w2 := by
  rw [Nat.zero_add, ← B8_append, List.nil_append] at hown
  have hbel : Below w.heap.size w w2 := ((Below.refl _ _).alloc (Nat.le_refl _) o).grown hgrow (by simp) (fun k hk => by cases hk; exact Nat.le_refl _)
  rcases hown.2 with ⟨h, _⟩ | ⟨g, cap, cur, hv, _⟩
  · exact absurd h hnil
  · subst hv
    exact ⟨g, cap, rfl, Bts.of_owns hown hr, hbel⟩

theorem Bts.srcOf {B : Nat} {w : World} {ad : Addr} {l : List Int} (h : Bts B w (some ad) l) : ∀ j u, (B8 l)[j]? = some u → w.cell? (ad.add j) = some u := by
  intro j u hj
  obtain ⟨hlt, _⟩ := B8_get l j u hj
  obtain ⟨ad', e, hc⟩ := h.src (by rw [length_B8]; omega)
  cases e
  exact hc j u hj

set_option maxHeartbeats 1000000 in
theorem puts_walk (w : World) (a : Option Addr) (cap : Nat) (l : List Int) (n : Nat) (hb : Bts w.heap.size w a l) (hc : l.length ≤ cap) (hnone : a = none → l = [] ∧ cap = 0) (hn : n < 18446744073709551616) :
    Calls Try.prog 3 #[.slice a l.length cap, .int .u64 (n : Int)] w fun e w' => e = .returned (.bool true) ∧ Below w.heap.size w w' := by
  obtain ⟨i0, hi, hz0, hz1, hz2⟩ := info_parts Try.info5
  obtain ⟨len, hle⟩ : ∃ len, len = l.length := ⟨_, rfl⟩
  have HL : Hid (len = l.length) := hle
  rw [← hle] at hc ⊢
  by_cases hlen : 5000 < len
  · clear hle
    go_enter Try.func3, Try.ntmps3
    go_wp2_with fail
    refine (live_any w).mono ?_
    rintro e w3 ⟨rfl, hb3⟩
    go_wp2
    go_ret
    exact ⟨rfl, hb3⟩
  · rcases a with _ | ad
    · obtain ⟨rfl, rfl⟩ := hnone rfl
      have hl0 : len = 0 := hle
      subst hl0
      clear hle hnone
      go_enter Try.func3, Try.ntmps3
      go_wp2_with (refine wpList_append_own_none rfl (.tmp 11) (.tmp 12) 22 rfl w.heap.size 5 i0 1 Try.underlying22 hi _ 0 (B8 []) rfl (owns_empty w) rfl ?_)
      have hbc : Bts (w.alloc (.cells #[] 5)).heap.size (w.alloc (.cells #[] 5)) (some ⟨w.heap.size, 0, none⟩) [] := Bts.nil _ _ _
      have hbel2 := (Below.refl w.heap.size w).alloc (Nat.le_refl _) (.cells #[] 5)
      generalize w.alloc (.cells #[] 5) = w2 at *
      have hput := put_any w2 (some ⟨w.heap.size, 0, none⟩) 0 [] (n : Int) hbc (by have := HL.out; omega) (by omega) (by omega)
      rw [← HL.out, Int.toNat_natCast] at hput
      refine hput.mono ?_
      clear hput
      rintro e w3 ⟨gx, cx, rfl, hownx, hbelx⟩
      have hbx := Bts.of_owns hownx (by intro z hz; rcases List.mem_append.1 hz with h | h; exact hb.range z h; exact bytesOf_range n z h)
      have hb3 := ((hb.keep hbel2).mono hbel2.size).keep hbelx
      have hb3' := hb3.mono hbelx.size
      have hc3 := (hbc.keep hbelx).mono hbelx.size
      have hbel3 := hbel2.trans (hbelx.mono hbel2.size)
      have cX : ∀ W : World, Below w3.heap.size w3 W → (convert 22 9 (.slice (some ⟨gx, 0, none⟩) (sz n) cx)).run Try.prog W = .ok (.string (strOfNums ([] ++ bytesOf n))) W := fun W hW => (hbx.keep hW).conv _ _ (by simp [length_bytesOf])
      have cB : ∀ W : World, Below w3.heap.size w3 W → (convert 22 9 (.slice none 0 0)).run Try.prog W = .ok (.string (strOfNums [])) W := fun W hW => (hb3'.keep hW).conv _ _ HL.out.symm
      have cC : ∀ W : World, Below w3.heap.size w3 W → (convert 22 9 (.slice (some ⟨w.heap.size, 0, none⟩) 0 0)).run Try.prog W = .ok (.string (strOfNums [])) W := fun W hW => (hc3.keep hW).conv _ _ HL.out.symm
      have HCX := hid cX
      have HCB := hid cB
      have HCC := hid cC
      have hs10 := sz_le_ten n hn
      clear hownx hb hbc hbx hb3 hb3' hc3 hbel2 hbelx cX cB cC
      go_wp2_with fail
      refine wp_region_plan (phi [E (.slice (some ⟨gx, 0, none⟩) (sz n) cx), E (.string (strOfNums ([] ++ bytesOf n))), E (.slice none 0 0), E (.string (strOfNums [])), E (.int .u64 (n : Int)), NewIs (bytesOf n), E (.string (strOfNums (bytesOf n))),
          E (.string (strOfNums ([] ++ bytesOf n))), E (.bool true), E (.bool true), E (.int .u64 (n : Int)), E (.int .i64 (sz n : Int)), E (.int .u64 (n : Int)), NewIs (bytesOf n), E (.int .i64 (sz n : Int)), E (.bool true), E (.bool true), E (.bool true),
          E (.slice (some ⟨w.heap.size, 0, none⟩) 0 0), E (.string (strOfNums [])), E (.slice none 0 0), E (.string (strOfNums [])), E (.bool true), E (.bool true), E (.bool true), E (.bool true), E (.bool true), E (.bool true)]) (by kernel_rfl) (by kernel_rfl)
        (phi_lasts _ ⟨E_lasts _, E_lasts _, E_lasts _, E_lasts _, E_lasts _, newIs_lasts _, E_lasts _, E_lasts _, E_lasts _, E_lasts _, E_lasts _, E_lasts _, E_lasts _, newIs_lasts _, E_lasts _, E_lasts _, E_lasts _, E_lasts _, E_lasts _, E_lasts _, E_lasts _, E_lasts _, E_lasts _, E_lasts _, E_lasts _, E_lasts _, E_lasts _, E_lasts _, trivial⟩) ?_ ?_
      · refine ⟨?_, ?_, ?_, ?_, ?_, ?_, ?_, ?_, ?_, ?_, ?_, ?_, ?_, ?_, ?_, ?_, ?_, ?_, ?_, ?_, ?_, ?_, ?_, ?_, ?_, ?_, ?_, ?_, trivial⟩ <;> intro A W hB hS hA
        · exact does_move (wanted_free rfl) rfl (hS.slots 6 rfl)
        · exact does_convertOf (wanted_free rfl) rfl (hA 0 rfl) (HCX.out W hB) rfl
        · exact does_move (wanted_free rfl) rfl (hS.slots 0 rfl)
        · exact does_convertOf (wanted_free rfl) rfl (hA 2 rfl) (HCB.out W hB) rfl
        · exact does_move (wanted_free rfl) rfl (hS.slots 1 rfl)
        · exact does_call #[.int .u64 (n : Int)] (wanted_free rfl) rfl Try.func11 rfl rfl (congrArg (fun x => [x]) (hA 4 rfl)) (bytes_new W n hn)
        · exact does_convert (wanted_free rfl) rfl (newIs_conv (hA 5 rfl)) rfl
        · exact does_bin (wanted_free rfl) rfl (hA 3 rfl) (hA 6 rfl) (run_add_bytes W [] (bytesOf n) _ _ (by rw [length_bytesOf]; have := HL.out; omega)) rfl
        · exact does_bin (wanted_free rfl) rfl (hA 1 rfl) (hA 7 rfl) (run_eq_same W _ _ _) rfl
        · exact does_move (wanted_free rfl) rfl (hA 8 rfl)
        · exact does_move (wanted_by rfl rfl (hA 9 rfl)) rfl (hS.slots 1 rfl)
        · exact does_call #[.int .u64 (n : Int)] (wanted_by rfl rfl (hA 9 rfl)) rfl Try.func12 rfl rfl (congrArg (fun x => [x]) (hA 10 rfl)) (size_new W n hn)
        · exact does_move (wanted_by rfl rfl (hA 9 rfl)) rfl (hS.slots 1 rfl)
        · exact does_call #[.int .u64 (n : Int)] (wanted_by rfl rfl (hA 9 rfl)) rfl Try.func11 rfl rfl (congrArg (fun x => [x]) (hA 12 rfl)) (bytes_new W n hn)
        · exact does_run (wanted_by rfl rfl (hA 9 rfl)) (newIs_len W (hA 13 rfl)) (congrArg (fun k : Nat => Value.int IntKind.i64 (k : Int)) (length_bytesOf n))
        · exact does_bin (wanted_by rfl rfl (hA 9 rfl)) rfl (hA 11 rfl) (hA 14 rfl) (run_eq_int_same W _ _ _) rfl
        · exact does_pick (wanted_free rfl) rfl (hA 9 rfl) (hA 15 rfl)
        · exact does_move (wanted_free rfl) rfl (hA 16 rfl)
        · exact does_move (wanted_by rfl rfl (hA 17 rfl)) rfl (hS.slots 5 rfl)
        · exact does_convertOf (wanted_by rfl rfl (hA 17 rfl)) rfl (hA 18 rfl) (HCC.out W hB) rfl
        · exact does_move (wanted_by rfl rfl (hA 17 rfl)) rfl (hS.slots 0 rfl)
        · exact does_convertOf (wanted_by rfl rfl (hA 17 rfl)) rfl (hA 20 rfl) (HCB.out W hB) rfl
        · exact does_bin (wanted_by rfl rfl (hA 17 rfl)) rfl (hA 19 rfl) (hA 21 rfl) (run_eq_same W _ _ _) rfl
        · exact does_pick (wanted_free rfl) rfl (hA 17 rfl) (hA 22 rfl)
        · exact does_move (wanted_free rfl) rfl (hA 23 rfl)
        · exact does_call #[] (wanted_by rfl rfl (hA 24 rfl)) rfl Try.func9 rfl rfl rfl (live_new W)
        · exact does_pick (wanted_free rfl) rfl (hA 24 rfl) (hA 25 rfl)
        · exact does_assign (wanted_free rfl) rfl (hA 26 rfl)
      · intro A W hB hS hL
        have h27 : slot A 4 = .bool true := hL 27 (by decide)
        obtain ⟨tmps, defers⟩ := A
        have hd : defers = [] := hS.defers
        subst hd
        go_wp2
        go_ret
        exact ⟨congrArg Ending.returned h27, hbel3.trans (hB.mono hbel3.size)⟩
    · clear hle hnone
      go_enter Try.func3, Try.ntmps3
      go_wp2_with (first
        | (at_builtin; refine wpList_append_own _ rfl (.tmp 11) (.tmp 12) 22 rfl w.heap.size 5 i0 (.int .u8 0) 1 1 Try.underlying22 hi hz0 hz1 hz2 rfl (by decide) (.slice (some ⟨w.heap.size, 0, none⟩) 0 0) 0 (B8 []) rfl (owns_empty w) ad len cap (B8 l) rfl (by rw [length_B8, ← HL.out]; omega) (hb.alloc (Nat.le_refl _) _).srcOf (B8_one _) (by unfold maxLen; omega) (by omega) (by simp) ?_; intro v1 w2 hown2 hgrow2 hnil2))
      obtain ⟨g, c, rfl, hbc, hbel2⟩ := appended HL.out.symm hb.range hown2 hgrow2 (by intro e; simpa using hnil2.1 e)
      clear hown2 hgrow2 hnil2
      go_wp2_with fail
      have hput := put_any w2 (some ⟨g, 0, none⟩) c l (n : Int) hbc (by have := HL.out; omega) (by omega) (by omega)
      rw [← HL.out, Int.toNat_natCast] at hput
      refine hput.mono ?_
      clear hput
      rintro e w3 ⟨gx, cx, rfl, hownx, hbelx⟩
      have hbx := Bts.of_owns hownx (by intro z hz; rcases List.mem_append.1 hz with h | h; exact hb.range z h; exact bytesOf_range n z h)
      have hb3 := ((hb.keep hbel2).mono hbel2.size).keep hbelx
      have hb3' := hb3.mono hbelx.size
      have hc3 := (hbc.keep hbelx).mono hbelx.size
      have hbel3 := hbel2.trans (hbelx.mono hbel2.size)
      have cX : ∀ W : World, Below w3.heap.size w3 W → (convert 22 9 (.slice (some ⟨gx, 0, none⟩) (len + sz n) cx)).run Try.prog W = .ok (.string (strOfNums (l ++ bytesOf n))) W := fun W hW => (hbx.keep hW).conv _ _ (by rw [List.length_append, length_bytesOf, ← HL.out])
      have cB : ∀ W : World, Below w3.heap.size w3 W → (convert 22 9 (.slice (some ad) len cap)).run Try.prog W = .ok (.string (strOfNums l)) W := fun W hW => (hb3'.keep hW).conv _ _ HL.out.symm
      have cC : ∀ W : World, Below w3.heap.size w3 W → (convert 22 9 (.slice (some ⟨g, 0, none⟩) len c)).run Try.prog W = .ok (.string (strOfNums l)) W := fun W hW => (hc3.keep hW).conv _ _ HL.out.symm
      have HCX := hid cX
      have HCB := hid cB
      have HCC := hid cC
      have hs10 := sz_le_ten n hn
      clear hownx hb hbc hbx hb3 hb3' hc3 hbel2 hbelx cX cB cC
      go_wp2_with fail
      refine wp_region_plan (phi [E (.slice (some ⟨gx, 0, none⟩) (len + sz n) cx), E (.string (strOfNums (l ++ bytesOf n))), E (.slice (some ad) len cap), E (.string (strOfNums l)), E (.int .u64 (n : Int)), NewIs (bytesOf n), E (.string (strOfNums (bytesOf n))),
          E (.string (strOfNums (l ++ bytesOf n))), E (.bool true), E (.bool true), E (.int .u64 (n : Int)), E (.int .i64 (sz n : Int)), E (.int .u64 (n : Int)), NewIs (bytesOf n), E (.int .i64 (sz n : Int)), E (.bool true), E (.bool true), E (.bool true),
          E (.slice (some ⟨g, 0, none⟩) len c), E (.string (strOfNums l)), E (.slice (some ad) len cap), E (.string (strOfNums l)), E (.bool true), E (.bool true), E (.bool true), E (.bool true), E (.bool true), E (.bool true)]) (by kernel_rfl) (by kernel_rfl)
        (phi_lasts _ ⟨E_lasts _, E_lasts _, E_lasts _, E_lasts _, E_lasts _, newIs_lasts _, E_lasts _, E_lasts _, E_lasts _, E_lasts _, E_lasts _, E_lasts _, E_lasts _, newIs_lasts _, E_lasts _, E_lasts _, E_lasts _, E_lasts _, E_lasts _, E_lasts _, E_lasts _, E_lasts _, E_lasts _, E_lasts _, E_lasts _, E_lasts _, E_lasts _, E_lasts _, trivial⟩) ?_ ?_
      · refine ⟨?_, ?_, ?_, ?_, ?_, ?_, ?_, ?_, ?_, ?_, ?_, ?_, ?_, ?_, ?_, ?_, ?_, ?_, ?_, ?_, ?_, ?_, ?_, ?_, ?_, ?_, ?_, ?_, trivial⟩ <;> intro A W hB hS hA
        · exact does_move (wanted_free rfl) rfl (hS.slots 6 rfl)
        · exact does_convertOf (wanted_free rfl) rfl (hA 0 rfl) (HCX.out W hB) rfl
        · exact does_move (wanted_free rfl) rfl (hS.slots 0 rfl)
        · exact does_convertOf (wanted_free rfl) rfl (hA 2 rfl) (HCB.out W hB) rfl
        · exact does_move (wanted_free rfl) rfl (hS.slots 1 rfl)
        · exact does_call #[.int .u64 (n : Int)] (wanted_free rfl) rfl Try.func11 rfl rfl (congrArg (fun x => [x]) (hA 4 rfl)) (bytes_new W n hn)
        · exact does_convert (wanted_free rfl) rfl (newIs_conv (hA 5 rfl)) rfl
        · exact does_bin (wanted_free rfl) rfl (hA 3 rfl) (hA 6 rfl) (run_add_bytes W l (bytesOf n) _ _ (by rw [length_bytesOf]; have := HL.out; omega)) rfl
        · exact does_bin (wanted_free rfl) rfl (hA 1 rfl) (hA 7 rfl) (run_eq_same W _ _ _) rfl
        · exact does_move (wanted_free rfl) rfl (hA 8 rfl)
        · exact does_move (wanted_by rfl rfl (hA 9 rfl)) rfl (hS.slots 1 rfl)
        · exact does_call #[.int .u64 (n : Int)] (wanted_by rfl rfl (hA 9 rfl)) rfl Try.func12 rfl rfl (congrArg (fun x => [x]) (hA 10 rfl)) (size_new W n hn)
        · exact does_move (wanted_by rfl rfl (hA 9 rfl)) rfl (hS.slots 1 rfl)
        · exact does_call #[.int .u64 (n : Int)] (wanted_by rfl rfl (hA 9 rfl)) rfl Try.func11 rfl rfl (congrArg (fun x => [x]) (hA 12 rfl)) (bytes_new W n hn)
        · exact does_run (wanted_by rfl rfl (hA 9 rfl)) (newIs_len W (hA 13 rfl)) (congrArg (fun k : Nat => Value.int IntKind.i64 (k : Int)) (length_bytesOf n))
        · exact does_bin (wanted_by rfl rfl (hA 9 rfl)) rfl (hA 11 rfl) (hA 14 rfl) (run_eq_int_same W _ _ _) rfl
        · exact does_pick (wanted_free rfl) rfl (hA 9 rfl) (hA 15 rfl)
        · exact does_move (wanted_free rfl) rfl (hA 16 rfl)
        · exact does_move (wanted_by rfl rfl (hA 17 rfl)) rfl (hS.slots 5 rfl)
        · exact does_convertOf (wanted_by rfl rfl (hA 17 rfl)) rfl (hA 18 rfl) (HCC.out W hB) rfl
        · exact does_move (wanted_by rfl rfl (hA 17 rfl)) rfl (hS.slots 0 rfl)
        · exact does_convertOf (wanted_by rfl rfl (hA 17 rfl)) rfl (hA 20 rfl) (HCB.out W hB) rfl
        · exact does_bin (wanted_by rfl rfl (hA 17 rfl)) rfl (hA 19 rfl) (hA 21 rfl) (run_eq_same W _ _ _) rfl
        · exact does_pick (wanted_free rfl) rfl (hA 17 rfl) (hA 22 rfl)
        · exact does_move (wanted_free rfl) rfl (hA 23 rfl)
        · exact does_call #[] (wanted_by rfl rfl (hA 24 rfl)) rfl Try.func9 rfl rfl rfl (live_new W)
        · exact does_pick (wanted_free rfl) rfl (hA 24 rfl) (hA 25 rfl)
        · exact does_assign (wanted_free rfl) rfl (hA 26 rfl)
      · intro A W hB hS hL
        have h27 : slot A 4 = .bool true := hL 27 (by decide)
        obtain ⟨tmps, defers⟩ := A
        have hd : defers = [] := hS.defers
        subst hd
        go_wp2
        go_ret
        exact ⟨congrArg Ending.returned h27, hbel3.trans (hB.mono hbel3.size)⟩
end Go.Proofs.Ytmclojhnacpkkaa
