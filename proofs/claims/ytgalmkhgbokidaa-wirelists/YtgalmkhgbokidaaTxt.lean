/-
  What is proved here: num.PutText and the document's Text of every text that is not too long.
-/
import Derived.Test.YtgalmkhgbokidaaGetT
import Derived.Lib.AppendStr
namespace Go.Proofs.Ytgalmkhgbokidaa
open Go.RowKit
set_option maxRecDepth 20000
set_option linter.unusedVariables false

/-- A text's bytes as numbers. -/
def nums (s : ByteArray) : List Int := s.data.toList.map fun b => (b.toNat : Int)

theorem nums_length (s : ByteArray) : (nums s).length = s.size := by
  rw [nums, List.length_map, Array.length_toList]; rfl

theorem nums_range (s : ByteArray) : ∀ z ∈ nums s, 0 ≤ z ∧ z < 256 := by
  intro z hz
  simp only [nums, List.mem_map] at hz
  obtain ⟨b, _, rfl⟩ := hz
  have := b.toNat_lt
  omega

theorem strCells_nums (s : ByteArray) : Lib.strCells s = B8 (nums s) := by
  simp [Lib.strCells, B8, nums]

theorem str_nums (s : ByteArray) : strOfNums (nums s) = s := by
  apply ByteArray.ext
  apply Array.ext'
  rw [strOfNums_data, nums, List.map_map]
  conv => rhs; rw [← List.map_id s.data.toList]
  apply List.map_congr_left
  intro b _
  simp

set_option maxHeartbeats 1000000 in
theorem putText_any (w : World) (a : Option Addr) (cap : Nat) (l : List Int) (s : ByteArray) (hb : Bts w.heap.size w a l) (hl : l.length ≤ 1000000) (hs : s.size ≤ 1000000) :
    Calls Try.prog 57 #[.slice a l.length cap, .string s] w fun e w' => ∃ g c, e = .returned (.slice (some ⟨g, 0, none⟩) (l.length + sz s.size + s.size) c) ∧ l.length + sz s.size + s.size ≤ c ∧
      Bts w'.heap.size w' (some ⟨g, 0, none⟩) (l ++ (bytesOf s.size ++ nums s)) ∧ Below w.heap.size w w' := by
  obtain ⟨i0, hi, hz0, hz1, hz2⟩ := info_parts Try.info5
  have hs10 := sz_le_ten s.size (by omega)
  have hput := put_any w a cap l (s.size : Int) hb (by omega) (by omega) (by omega)
  rw [Int.toNat_natCast] at hput
  have HP := hid hput
  clear hput
  go_enter Try.func57, Try.ntmps57
  go_wp2_with fail
  refine HP.out.mono ?_
  clear HP
  rintro e w2 ⟨g, c, rfl, hown, hbel⟩
  have hz := hbel.size
  go_wp2_with (first
    | (at_builtin; refine Lib.wpList_append_own_string _ rfl (.tmp 9) (.tmp 10) 22 9 rfl w.heap.size 5 i0 Try.underlying22 Try.underlying9 hi hz0 hz1 hz2 (.slice (some ⟨g, 0, none⟩) (l.length + sz s.size) c) _ _ rfl hown s rfl (by unfold maxLen; omega) (by omega) hz ?_; intro v3 w3 hown3 hgrow3 hnil3))
  rw [strCells_nums, ← B8_append, List.append_assoc] at hown3
  have hg : Value.ownBlock (.slice (some ⟨g, 0, none⟩) (l.length + sz s.size) c) = some g := rfl
  rw [hg] at hgrow3
  have hlt := hown.lt g rfl
  have hbel3 := hbel.grown hgrow3 hz (fun k hk => by cases hk; exact hlt.1)
  have hr : ∀ z ∈ l ++ (bytesOf s.size ++ nums s), 0 ≤ z ∧ z < 256 := by
    intro z hzz
    rcases List.mem_append.1 hzz with h | h
    · exact hb.range z h
    · rcases List.mem_append.1 h with h | h
      · exact bytesOf_range _ z h
      · exact nums_range s z h
  rcases hown3.2 with ⟨h, _⟩ | ⟨g', cap', cur, hv, _, _, hcap, _⟩
  · exact absurd (hnil3.1 h).1 (by simp)
  · subst hv
    have hbt := Bts.of_owns hown3 hr
    clear hown3 hgrow3 hnil3 hown hbel
    go_wp2
    go_ret
    exact ⟨g', cap', rfl, hcap, hbt, hbel3⟩

/-- A slice in new memory that reads as l. -/
def NewIs (l : List Int) : Value → World → Prop := fun v w => ∃ g c, v = .slice (some ⟨g, 0, none⟩) l.length c ∧ Bts w.heap.size w (some ⟨g, 0, none⟩) l

set_option maxHeartbeats 1000000 in
theorem text_new (w : World) (s : ByteArray) (hs : s.size ≤ 1000000) :
    Calls Try.prog 41 #[.string s] w fun e w' => ∃ v, e = .returned v ∧ Below w.heap.size w w' ∧ NewIs (bytesOf s.size ++ nums s) v w' := by
  obtain ⟨i0, hi, hz0, hz1, hz2⟩ := info_parts Try.info5
  have hs10 := sz_le_ten s.size (by omega)
  go_enter Try.func41, Try.ntmps41
  go_wp2_with fail
  refine (bytes_any w s.size (by omega)).mono ?_
  rintro e w2 ⟨g, c, rfl, hown, hbel⟩
  have hz := hbel.size
  go_wp2_with (first
    | (at_builtin; refine Lib.wpList_append_own_string _ rfl (.tmp 6) (.tmp 7) 22 9 rfl w.heap.size 5 i0 Try.underlying22 Try.underlying9 hi hz0 hz1 hz2 (.slice (some ⟨g, 0, none⟩) (sz s.size) c) _ _ rfl hown s rfl (by unfold maxLen; omega) (by omega) hz ?_; intro v3 w3 hown3 hgrow3 hnil3))
  rw [strCells_nums, ← B8_append] at hown3
  have hg : Value.ownBlock (.slice (some ⟨g, 0, none⟩) (sz s.size) c) = some g := rfl
  rw [hg] at hgrow3
  have hlt := hown.lt g rfl
  have hbel3 := hbel.grown hgrow3 hz (fun k hk => by cases hk; exact hlt.1)
  have hr : ∀ z ∈ bytesOf s.size ++ nums s, 0 ≤ z ∧ z < 256 := by
    intro z hzz
    rcases List.mem_append.1 hzz with h | h
    · exact bytesOf_range _ z h
    · exact nums_range s z h
  rcases hown3.2 with ⟨h, _⟩ | ⟨g', cap', cur, hv, _, _, hcap, _⟩
  · exact absurd (hnil3.1 h).1 (by simp)
  · subst hv
    have hbt := Bts.of_owns hown3 hr
    clear hown3 hgrow3 hnil3 hown hbel
    go_wp2
    go_ret
    exact ⟨_, rfl, hbel3, g', cap', by rw [List.length_append, length_bytesOf, nums_length]; rfl, hbt⟩

end Go.Proofs.Ytgalmkhgbokidaa
