/-
  What is proved here: the law NumTexts answers true for all bytes and every text and writes nothing that was there.
-/
import Derived.Test.YtmclojhnacpkkaaAid
import Derived.Test.YtmclojhnacpkkaaIntsWalk
import Derived.Test.YtmclojhnacpkkaaToldWalk
import Derived.Lib.AppendStr
namespace Go.Proofs.Ytmclojhnacpkkaa
open Go.RowKit
set_option linter.unusedVariables false

/-- A text's bytes as numbers. -/
def nums (s : ByteArray) : List Int := s.data.toList.map fun b => (b.toNat : Int)

theorem nums_length (s : ByteArray) : (nums s).length = s.size := by
  rw [nums, List.length_map, Array.length_toList]; rfl

theorem nums_range (s : ByteArray) : ∀ z ∈ nums s, 0 ≤ z ∧ z < 256 := by
  intro z hz
  simp only [nums, List.mem_map] at hz
  obtain ⟨b, _, rfl⟩ := hz
  have := b.toNat_lt
  omega

theorem strCells_nums (s : ByteArray) : Lib.strCells s = B8 (nums s) := by
  simp [Lib.strCells, B8, nums]

theorem str_nums (s : ByteArray) : strOfNums (nums s) = s := by
  apply ByteArray.ext
  apply Array.ext'
  rw [strOfNums_data, nums, List.map_map]
  conv => rhs; rw [← List.map_id s.data.toList]
  apply List.map_congr_left
  intro b _
  simp

set_option maxHeartbeats 1000000 in
theorem putText_any (w : World) (a : Option Addr) (cap : Nat) (l : List Int) (s : ByteArray) (hb : Bts w.heap.size w a l) (hl : l.length ≤ 5000) (hs : s.size ≤ 5000) :
    Calls Try.prog 20 #[.slice a l.length cap, .string s] w fun e w' => ∃ g c, e = .returned (.slice (some ⟨g, 0, none⟩) (l.length + sz s.size + s.size) c) ∧ l.length + sz s.size + s.size ≤ c ∧
      Bts w'.heap.size w' (some ⟨g, 0, none⟩) (l ++ (bytesOf s.size ++ nums s)) ∧ Below w.heap.size w w' := by
  obtain ⟨i0, hi, hz0, hz1, hz2⟩ := info_parts Try.info5
  have hs10 := sz_le_ten s.size (by omega)
  have hput := put_any w a cap l (s.size : Int) hb (by omega) (by omega) (by omega)
  rw [Int.toNat_natCast] at hput
  have HP := hid hput
  clear hput
  go_enter Try.func20, Try.ntmps20
  go_wp2_with fail
  refine HP.out.mono ?_
  clear HP
  rintro e w2 ⟨g, c, rfl, hown, hbel⟩
  have hz := hbel.size
  go_wp2_with (first
    | (at_builtin; refine Lib.wpList_append_own_string _ rfl (.tmp 9) (.tmp 10) 22 9 rfl w.heap.size 5 i0 Try.underlying22 Try.underlying9 hi hz0 hz1 hz2 (.slice (some ⟨g, 0, none⟩) (l.length + sz s.size) c) _ _ rfl hown s rfl (by unfold maxLen; omega) (by omega) hz ?_; intro v3 w3 hown3 hgrow3 hnil3))
  rw [strCells_nums, ← B8_append, List.append_assoc] at hown3
  have hg : Value.ownBlock (.slice (some ⟨g, 0, none⟩) (l.length + sz s.size) c) = some g := rfl
  rw [hg] at hgrow3
  have hlt := hown.lt g rfl
  have hbel3 := hbel.grown hgrow3 hz (fun k hk => by cases hk; exact hlt.1)
  have hr : ∀ z ∈ l ++ (bytesOf s.size ++ nums s), 0 ≤ z ∧ z < 256 := by
    intro z hzz
    rcases List.mem_append.1 hzz with h | h
    · exact hb.range z h
    · rcases List.mem_append.1 h with h | h
      · exact bytesOf_range _ z h
      · exact nums_range s z h
  rcases hown3.2 with ⟨h, _⟩ | ⟨g', cap', cur, hv, _, _, hcap, _⟩
  · exact absurd (hnil3.1 h).1 (by simp)
  · subst hv
    have hbt := Bts.of_owns hown3 hr
    clear hown3 hgrow3 hnil3 hown hbel
    go_wp2
    go_ret
    exact ⟨g', cap', rfl, hcap, hbt, hbel3⟩

set_option maxHeartbeats 1000000 in
theorem text_new (w : World) (s : ByteArray) (hs : s.size ≤ 5000) :
    Calls Try.prog 22 #[.string s] w fun e w' => ∃ v, e = .returned v ∧ Below w.heap.size w w' ∧ NewIs (bytesOf s.size ++ nums s) v w' := by
  obtain ⟨i0, hi, hz0, hz1, hz2⟩ := info_parts Try.info5
  have hs10 := sz_le_ten s.size (by omega)
  go_enter Try.func22, Try.ntmps22
  go_wp2_with fail
  refine (bytes_any w s.size (by omega)).mono ?_
  rintro e w2 ⟨g, c, rfl, hown, hbel⟩
  have hz := hbel.size
  go_wp2_with (first
    | (at_builtin; refine Lib.wpList_append_own_string _ rfl (.tmp 6) (.tmp 7) 22 9 rfl w.heap.size 5 i0 Try.underlying22 Try.underlying9 hi hz0 hz1 hz2 (.slice (some ⟨g, 0, none⟩) (sz s.size) c) _ _ rfl hown s rfl (by unfold maxLen; omega) (by omega) hz ?_; intro v3 w3 hown3 hgrow3 hnil3))
  rw [strCells_nums, ← B8_append] at hown3
  have hg : Value.ownBlock (.slice (some ⟨g, 0, none⟩) (sz s.size) c) = some g := rfl
  rw [hg] at hgrow3
  have hlt := hown.lt g rfl
  have hbel3 := hbel.grown hgrow3 hz (fun k hk => by cases hk; exact hlt.1)
  have hr : ∀ z ∈ bytesOf s.size ++ nums s, 0 ≤ z ∧ z < 256 := by
    intro z hzz
    rcases List.mem_append.1 hzz with h | h
    · exact bytesOf_range _ z h
    · exact nums_range s z h
  rcases hown3.2 with ⟨h, _⟩ | ⟨g', cap', cur, hv, _, _, hcap, _⟩
  · exact absurd (hnil3.1 h).1 (by simp)
  · subst hv
    have hbt := Bts.of_owns hown3 hr
    clear hown3 hgrow3 hnil3 hown hbel
    go_wp2
    go_ret
    exact ⟨_, rfl, hbel3, g', cap', by rw [List.length_append, length_bytesOf, nums_length]; rfl, hbt⟩

/-- What was put is told. -/
theorem textRel_put (l : List Int) (s : ByteArray) (hs : s.size < 18446744073709551616) {t : List Int} {next e : Int} (h : TextRel (l ++ (bytesOf s.size ++ nums s)) (l.length : Int) (s.size : Int) t next e) :
    t = nums s ∧ next = (l.length : Int) + sz s.size + s.size ∧ e = 0 := by
  have g : GetRel (l ++ (bytesOf s.size ++ nums s)) (l.length : Int) (s.size : Int) ((l.length : Int) + sz s.size) 0 := by
    refine Or.inr (Or.inl ⟨by omega, by simp; omega, by omega, ⟨by omega, ?_⟩, by simp, rfl⟩)
    rw [Int.toNat_natCast, Int.toNat_natCast, List.drop_append_of_le_length (Nat.le_refl _), List.drop_length, List.nil_append]
    rw [List.take_append_of_le_length (by rw [length_bytesOf]; exact Nat.le_refl _), List.take_of_length_le (by rw [length_bytesOf]; exact Nat.le_refl _)]
  have k : TextRel (l ++ (bytesOf s.size ++ nums s)) (l.length : Int) (s.size : Int) (nums s) ((l.length : Int) + sz s.size + s.size) 0 := by
    refine Or.inr ⟨by omega, s.size, _, 0, g, Or.inr (Or.inr (Or.inr ⟨rfl, by omega, ?_, ?_, rfl, rfl⟩))⟩
    · rw [List.length_append, List.length_append, length_bytesOf, nums_length]; omega
    · rw [Int.toNat_natCast, show ((l.length : Int) + (sz s.size : Int)).toNat = l.length + sz s.size by omega, ← List.append_assoc]
      have e : (l ++ bytesOf s.size).length = l.length + sz s.size := by rw [List.length_append, length_bytesOf]
      rw [← e, List.drop_append_of_le_length (Nat.le_refl _), List.drop_length, List.nil_append, List.take_of_length_le (by rw [nums_length]; exact Nat.le_refl _)]
  exact h.uniq k

set_option maxHeartbeats 1000000 in
theorem texts_walk (w : World) (a : Option Addr) (cap : Nat) (l : List Int) (s : ByteArray) (hb : Bts w.heap.size w a l) (hc : l.length ≤ cap) (hm : s.size ≤ 9223372036854775807) :
    Calls Try.prog 7 #[.slice a l.length cap, .string s] w fun e w' => e = .returned (.bool true) ∧ Below w.heap.size w w' := by
  by_cases hlen : 5000 < l.length
  · go_enter Try.func7, Try.ntmps7
    go_wp2_with fail
    refine (live_any w).mono ?_
    rintro e w3 ⟨rfl, hb3⟩
    go_wp2
    go_ret
    exact ⟨rfl, hb3⟩
  · by_cases hlen2 : 5000 < s.size
    · go_enter Try.func7, Try.ntmps7
      go_wp2_with fail
      refine (live_any w).mono ?_
      rintro e w3 ⟨rfl, hb3⟩
      go_wp2
      go_ret
      exact ⟨rfl, hb3⟩
    · have hs10 := sz_le_ten s.size (by omega)
      go_enter Try.func7, Try.ntmps7
      go_wp2_with fail
      refine (putText_any w a cap l s hb (by omega) (by omega)).mono ?_
      rintro e w3 ⟨gx, cx, rfl, hcx, hbx, hbelx⟩
      have hb3 := (hb.keep hbelx).mono hbelx.size
      have hlx : (l ++ (bytesOf s.size ++ nums s)).length = l.length + sz s.size + s.size := by rw [List.length_append, List.length_append, length_bytesOf, nums_length]; omega
      have hget := getText_any w3 (some ⟨gx, 0, none⟩) cx (l ++ (bytesOf s.size ++ nums s)) (l.length : Int) (s.size : Int) hbx (by omega) (by omega) (by omega)
      rw [hlx] at hget
      go_wp2_with fail
      refine hget.mono ?_
      clear hget
      rintro e w4 ⟨⟨t, next, er, rfl, hrel⟩, rfl⟩
      obtain ⟨rfl, rfl, rfl⟩ := textRel_put l s (by omega) hrel
      rw [str_nums]
      have HCX : Hid (∀ W : World, Below w4.heap.size w4 W → (convert 22 9 (.slice (some ⟨gx, 0, none⟩) (l.length + sz s.size + s.size) cx)).run Try.prog W = .ok (.string (strOfNums (l ++ (bytesOf s.size ++ nums s)))) W) := fun W hW => (hbx.keep hW).conv _ _ hlx
      have HCB : Hid (∀ W : World, Below w4.heap.size w4 W → (convert 22 9 (.slice a l.length cap)).run Try.prog W = .ok (.string (strOfNums l)) W) := fun W hW => (hb3.keep hW).conv _ _ rfl
      clear hrel hb hbx hb3
      go_wp2_with fail
      refine wp_region_plan (phi [E (.slice (some ⟨gx, 0, none⟩) (l.length + sz s.size + s.size) cx), E (.string (strOfNums (l ++ (bytesOf s.size ++ nums s)))), E (.slice a l.length cap), E (.string (strOfNums l)), E (.string s), NewIs (bytesOf s.size ++ nums s), E (.string (strOfNums (bytesOf s.size ++ nums s))),
          E (.string (strOfNums (l ++ (bytesOf s.size ++ nums s)))), E (.bool true), E (.bool true), E (.string s), E (.string s), E (.bool true), E (.bool true), E (.bool true), E (.int .i64 ((l.length : Int) + (sz s.size : Int) + (s.size : Int))), E (.slice (some ⟨gx, 0, none⟩) (l.length + sz s.size + s.size) cx),
          E (.int .i64 ((l.length : Int) + (sz s.size : Int) + (s.size : Int))), E (.bool true), E (.bool true), E (.bool true), E (.int .i64 0), E (.int .i64 0), E (.bool true), E (.bool true), E (.bool true), E (.bool true), E (.bool true), E (.bool true)]) (by kernel_rfl) (by kernel_rfl)
        (phi_lasts _ ⟨E_lasts _, E_lasts _, E_lasts _, E_lasts _, E_lasts _, newIs_lasts _, E_lasts _, E_lasts _, E_lasts _, E_lasts _, E_lasts _, E_lasts _, E_lasts _, E_lasts _, E_lasts _, E_lasts _, E_lasts _, E_lasts _, E_lasts _, E_lasts _, E_lasts _, E_lasts _, E_lasts _, E_lasts _, E_lasts _, E_lasts _, E_lasts _, E_lasts _, E_lasts _, trivial⟩) ?_ ?_
      · refine ⟨?_, ?_, ?_, ?_, ?_, ?_, ?_, ?_, ?_, ?_, ?_, ?_, ?_, ?_, ?_, ?_, ?_, ?_, ?_, ?_, ?_, ?_, ?_, ?_, ?_, ?_, ?_, ?_, ?_, trivial⟩ <;> intro A W hB hS hA
        · exact does_move (wanted_free rfl) rfl (hS.slots 5 rfl)
        · exact does_convertOf (wanted_free rfl) rfl (hA 0 rfl) (HCX.out W hB) rfl
        · exact does_move (wanted_free rfl) rfl (hS.slots 0 rfl)
        · exact does_convertOf (wanted_free rfl) rfl (hA 2 rfl) (HCB.out W hB) rfl
        · exact does_move (wanted_free rfl) rfl (hS.slots 1 rfl)
        · exact does_call #[.string s] (wanted_free rfl) rfl Try.func22 rfl rfl (congrArg (fun x => [x]) (hA 4 rfl)) (text_new W s (by omega))
        · exact does_convert (wanted_free rfl) rfl (newIs_conv (hA 5 rfl)) rfl
        · exact does_bin (wanted_free rfl) rfl (hA 3 rfl) (hA 6 rfl) (run_add_bytes W l (bytesOf s.size ++ nums s) _ _ (by rw [List.length_append, length_bytesOf, nums_length]; omega)) rfl
        · exact does_bin (wanted_free rfl) rfl (hA 1 rfl) (hA 7 rfl) (run_eq_same W _ _ _) rfl
        · exact does_move (wanted_free rfl) rfl (hA 8 rfl)
        · exact does_move (wanted_by rfl rfl (hA 9 rfl)) rfl (hS.slots 6 rfl)
        · exact does_move (wanted_by rfl rfl (hA 9 rfl)) rfl (hS.slots 1 rfl)
        · exact does_bin (wanted_by rfl rfl (hA 9 rfl)) rfl (hA 10 rfl) (hA 11 rfl) (run_eq_same W _ _ _) rfl
        · exact does_pick (wanted_free rfl) rfl (hA 9 rfl) (hA 12 rfl)
        · exact does_move (wanted_free rfl) rfl (hA 13 rfl)
        · exact does_move (wanted_by rfl rfl (hA 14 rfl)) rfl (hS.slots 7 rfl)
        · exact does_move (wanted_by rfl rfl (hA 14 rfl)) rfl (hS.slots 5 rfl)
        · exact does_run (wanted_by rfl rfl (hA 14 rfl)) (run_len W (hA 16 rfl)) (congrArg (Value.int IntKind.i64) (by omega : ((l.length + sz s.size + s.size : Nat) : Int) = (l.length : Int) + (sz s.size : Int) + (s.size : Int)))
        · exact does_bin (wanted_by rfl rfl (hA 14 rfl)) rfl (hA 15 rfl) (hA 17 rfl) (run_eq_int_same W _ _ _) rfl
        · exact does_pick (wanted_free rfl) rfl (hA 14 rfl) (hA 18 rfl)
        · exact does_move (wanted_free rfl) rfl (hA 19 rfl)
        · exact does_move (wanted_by rfl rfl (hA 20 rfl)) rfl (hS.slots 8 rfl)
        · exact does_call #[.int .i64 0] (wanted_by rfl rfl (hA 20 rfl)) rfl Try.func15 rfl rfl (congrArg (fun x => [x]) (hA 21 rfl)) (code_new W 0)
        · exact does_bin2 (wanted_by rfl rfl (hA 20 rfl)) rfl (hA 22 rfl) rfl (run_eq_int_same W _ _ _) rfl
        · exact does_pick (wanted_free rfl) rfl (hA 20 rfl) (hA 23 rfl)
        · exact does_move (wanted_free rfl) rfl (hA 24 rfl)
        · exact does_call #[] (wanted_by rfl rfl (hA 25 rfl)) rfl Try.func9 rfl rfl rfl (live_new W)
        · exact does_pick (wanted_free rfl) rfl (hA 25 rfl) (hA 26 rfl)
        · exact does_assign (wanted_free rfl) rfl (hA 27 rfl)
      · intro A W hB hS hL
        have h28 : slot A 4 = .bool true := hL 28 (by decide)
        obtain ⟨tmps, defers⟩ := A
        have hd : defers = [] := hS.defers
        subst hd
        go_wp2
        go_ret
        exact ⟨congrArg Ending.returned h28, hbelx.trans (hB.mono hbelx.size)⟩
end Go.Proofs.Ytmclojhnacpkkaa
