/-
  What is proved here: num.GetText and the document's own GetText answer the same for all bytes, every place and every bound.
-/
import Derived.Test.YtgalmkhgbokidaaGetI
namespace Go.Proofs.Ytgalmkhgbokidaa
open Go.RowKit
set_option maxRecDepth 20000
set_option linter.unusedVariables false

/-- What GetText answers. -/
def TextRel (l : List Int) (at' most : Int) (s : List Int) (next er : Int) : Prop :=
  (most < 0 ∧ s = [] ∧ next = 0 ∧ er = 1) ∨
  (0 ≤ most ∧ ∃ n fr e0, GetRel l at' n fr e0 ∧
    ((e0 ≠ 0 ∧ s = [] ∧ next = 0 ∧ er = e0) ∨ (e0 = 0 ∧ most < n ∧ s = [] ∧ next = 0 ∧ er = 2) ∨ (e0 = 0 ∧ n ≤ most ∧ (l.length : Int) - fr < n ∧ s = [] ∧ next = 0 ∧ er = 6) ∨
     (e0 = 0 ∧ n ≤ most ∧ n ≤ (l.length : Int) - fr ∧ s = (l.drop fr.toNat).take n.toNat ∧ next = fr + n ∧ er = 0)))

theorem TextRel.uniq {l s s' : List Int} {at' most next er next' er' : Int} (h : TextRel l at' most s next er) (k : TextRel l at' most s' next' er') : s = s' ∧ next = next' ∧ er = er' := by
  rcases h with ⟨h0, rfl, rfl, rfl⟩ | ⟨h0, n, fr, e0, hr, h⟩ <;> rcases k with ⟨k0, rfl, rfl, rfl⟩ | ⟨k0, n', fr', e0', kr, k⟩
  · exact ⟨rfl, rfl, rfl⟩
  · omega
  · omega
  · obtain ⟨rfl, rfl, rfl⟩ := hr.uniq kr
    rcases h with ⟨h1, rfl, rfl, rfl⟩ | ⟨h1, h2, rfl, rfl, rfl⟩ | ⟨h1, h2, h3, rfl, rfl, rfl⟩ | ⟨h1, h2, h3, rfl, rfl, rfl⟩ <;>
      rcases k with ⟨k1, rfl, rfl, rfl⟩ | ⟨k1, k2, rfl, rfl, rfl⟩ | ⟨k1, k2, k3, rfl, rfl, rfl⟩ | ⟨k1, k2, k3, rfl, rfl, rfl⟩ <;>
      first | exact ⟨rfl, rfl, rfl⟩ | omega

theorem conv_empty (w : World) (x : Option Addr) (c : Nat) : (convert 22 9 (.slice x 0 c)).run Try.prog w = .ok (.string (strOfNums [])) w := (Bts.nil 0 w x).conv 0 c rfl

set_option maxHeartbeats 1000000 in
theorem getText_any (w : World) (a : Option Addr) (cap : Nat) (l : List Int) (at' most : Int) (hb : Bts w.heap.size w a l) (hc : l.length ≤ cap) (hl : l.length ≤ 1000000000) (hm : most ≤ 9223372036854775807) :
    Calls Try.prog 77 #[.slice a l.length cap, .int .i64 at', .int .i64 most] w fun e w' => (∃ s next er, e = .returned (.tuple #[.string (strOfNums s), .int .i64 next, .int .i64 er]) ∧ TextRel l at' most s next er) ∧ w' = w := by
  by_cases hneg : most < 0
  · go_enter Try.func77, Try.ntmps77
    go_wp2
    go_ret3
    exact ⟨⟨[], 0, 1, rfl, Or.inl ⟨hneg, rfl, rfl, rfl⟩⟩, rfl⟩
  · go_enter Try.func77, Try.ntmps77
    go_wp2_with fail
    refine (get_any w a cap l at' hb hc hl).mono ?_
    rintro e w' ⟨⟨n, fr, er, rfl, hrel⟩, rfl⟩
    by_cases her : er = 0
    · subst her
      obtain ⟨g0, g1, g2, _, g4, g5, hne⟩ := hrel.yes
      have hfr : 0 ≤ fr := by omega
      clear g4
      by_cases hlong : most < n
      · go_wp2
        go_ret3
        exact ⟨⟨[], 0, 2, rfl, Or.inr ⟨by omega, n, fr, 0, hrel, Or.inr (Or.inl ⟨rfl, hlong, rfl, rfl, rfl⟩)⟩⟩, rfl⟩
      · by_cases hfew : (l.length : Int) - fr < n
        · go_wp2
          go_ret3
          exact ⟨⟨[], 0, 6, rfl, Or.inr ⟨by omega, n, fr, 0, hrel, Or.inr (Or.inr (Or.inl ⟨rfl, by omega, hfew, rfl, rfl, rfl⟩))⟩⟩, rfl⟩
        · obtain ⟨b, off, rfl, _, _⟩ := hb.cells hne
          obtain ⟨f, rfl⟩ := Int.eq_ofNat_of_zero_le hfr
          obtain ⟨k, rfl⟩ := Int.eq_ofNat_of_zero_le g1
          have hp := hb.part f k
          have hpl : ((l.drop f).take k).length = k := by simp; omega
          have hrl : TextRel l at' most ((l.drop f).take k) ((f : Int) + k) 0 := Or.inr ⟨by omega, k, f, 0, hrel, Or.inr (Or.inr (Or.inr ⟨rfl, by omega, by omega, by simp, rfl, rfl⟩))⟩
          clear hrel
          generalize (l.drop f).take k = y at *
          by_cases hk0 : k = 0
          · subst hk0
            have hy : y = [] := List.eq_nil_of_length_eq_zero hpl
            subst hy
            have hcv := conv_empty w'
            clear hp hpl hb hne
            go_wp2
            all_goals go_ret3
            all_goals exact ⟨⟨[], _, 0, rfl, hrl⟩, rfl⟩
          · have hcv := hp.conv k (cap - f) hpl
            have hfc : ¬ f = cap := by omega
            clear hp hpl hb hne
            go_wp2
            go_ret3
            exact ⟨⟨y, _, 0, rfl, hrl⟩, rfl⟩
    · have hne : (er != 0) = true := by simpa using her
      go_wp2
      go_ret3
      exact ⟨⟨[], 0, er, rfl, Or.inr ⟨by omega, n, fr, er, hrel, Or.inl ⟨her, rfl, rfl, rfl⟩⟩⟩, rfl⟩

set_option maxHeartbeats 1000000 in
theorem rgetText_any (w : World) (a : Option Addr) (cap : Nat) (l : List Int) (at' most : Int) (hb : Bts w.heap.size w a l) (hc : l.length ≤ cap) (hl : l.length ≤ 1000000000) (hm : most ≤ 9223372036854775807) :
    Calls Try.prog 45 #[.slice a l.length cap, .int .i64 at', .int .i64 most] w fun e w' => (∃ s next er, e = .returned (.tuple #[.string (strOfNums s), .int .i64 next, .int .i64 er]) ∧ TextRel l at' most s next er) ∧ Below w.heap.size w w' := by
  by_cases hneg : most < 0
  · go_enter Try.func45, Try.ntmps45
    go_wp2
    go_ret3
    exact ⟨⟨[], 0, 1, rfl, Or.inl ⟨hneg, rfl, rfl, rfl⟩⟩, Below.refl _ _⟩
  · go_enter Try.func45, Try.ntmps45
    go_wp2_with fail
    refine (rget_any w a cap l at' hb hc hl).mono ?_
    rintro e w' ⟨⟨n, fr, er, rfl, hrel⟩, hbel⟩
    have hb := (hb.keep hbel).mono hbel.size
    by_cases her : er = 0
    · subst her
      obtain ⟨g0, g1, g2, _, g4, g5, hne⟩ := hrel.yes
      have hfr : 0 ≤ fr := by omega
      clear g4
      by_cases hlong : most < n
      · go_wp2
        go_ret3
        exact ⟨⟨[], 0, 2, rfl, Or.inr ⟨by omega, n, fr, 0, hrel, Or.inr (Or.inl ⟨rfl, hlong, rfl, rfl, rfl⟩)⟩⟩, hbel⟩
      · by_cases hfew : (l.length : Int) - fr < n
        · go_wp2
          go_ret3
          exact ⟨⟨[], 0, 6, rfl, Or.inr ⟨by omega, n, fr, 0, hrel, Or.inr (Or.inr (Or.inl ⟨rfl, by omega, hfew, rfl, rfl, rfl⟩))⟩⟩, hbel⟩
        · obtain ⟨b, off, rfl, _, _⟩ := hb.cells hne
          obtain ⟨f, rfl⟩ := Int.eq_ofNat_of_zero_le hfr
          obtain ⟨k, rfl⟩ := Int.eq_ofNat_of_zero_le g1
          have hp := hb.part f k
          have hpl : ((l.drop f).take k).length = k := by simp; omega
          have hrl : TextRel l at' most ((l.drop f).take k) ((f : Int) + k) 0 := Or.inr ⟨by omega, k, f, 0, hrel, Or.inr (Or.inr (Or.inr ⟨rfl, by omega, by omega, by simp, rfl, rfl⟩))⟩
          clear hrel
          generalize (l.drop f).take k = y at *
          by_cases hk0 : k = 0
          · subst hk0
            have hy : y = [] := List.eq_nil_of_length_eq_zero hpl
            subst hy
            have hcv := conv_empty w'
            clear hp hpl hb hne
            go_wp2
            all_goals go_ret3
            all_goals exact ⟨⟨[], _, 0, rfl, hrl⟩, hbel⟩
          · have hcv := hp.conv k (cap - f) hpl
            have hfc : ¬ f = cap := by omega
            clear hp hpl hb hne
            go_wp2
            go_ret3
            exact ⟨⟨y, _, 0, rfl, hrl⟩, hbel⟩
    · have hne : (er != 0) = true := by simpa using her
      go_wp2
      go_ret3
      exact ⟨⟨[], 0, er, rfl, Or.inr ⟨by omega, n, fr, er, hrel, Or.inl ⟨her, rfl, rfl, rfl⟩⟩⟩, hbel⟩

end Go.Proofs.Ytgalmkhgbokidaa
