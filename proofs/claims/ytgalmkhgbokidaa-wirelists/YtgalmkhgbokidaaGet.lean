/-
  What is proved here: num.Get answers the number that the bytes tell from a place on, or the error that the document names; it writes nothing.
-/
import Derived.Test.YtgalmkhgbokidaaLen
import Derived.Test.YtgalmkhgbokidaaWorld
namespace Go.Proofs.Ytgalmkhgbokidaa
open Go.RowKit
set_option maxRecDepth 20000
set_option linter.unusedVariables false

/-- The place is outside. -/
theorem get_out (w : World) (a : Option Addr) (len cap : Nat) (at' : Int) (h : at' < 0 ∨ (len : Int) < at') :
    Calls Try.prog 49 #[.slice a len cap, .int .i64 at'] w fun e w' => e = .returned (.tuple #[.int .u64 0, .int .i64 0, .int .i64 9]) ∧ w' = w := by
  rcases h with h | h
  · go_enter Try.func49, Try.ntmps49
    go_wp2
    go_ret3
    exact ⟨rfl, rfl⟩
  · by_cases h0 : at' < 0
    · go_enter Try.func49, Try.ntmps49
      go_wp2
      go_ret3
      exact ⟨rfl, rfl⟩
    · go_enter Try.func49, Try.ntmps49
      go_wp2
      go_ret3
      exact ⟨rfl, rfl⟩

/-- Nothing stands from the place on. -/
theorem get_end (w : World) (a : Option Addr) (len cap : Nat) (hc : len ≤ cap) (hl : len ≤ 1000000000) :
    Calls Try.prog 49 #[.slice a len cap, .int .i64 (len : Int)] w fun e w' => e = .returned (.tuple #[.int .u64 0, .int .i64 0, .int .i64 6]) ∧ w' = w := by
  go_enter Try.func49, Try.ntmps49
  go_wp2
  all_goals
    refine wp_loop_rounds 1 ?_
    rw [rounds_succ]
    go_wp2
    go_ret3
    exact ⟨rfl, rfl⟩

/-- What holds behind k rounds. -/
structure GetInv (t : List Int) (k : Nat) (v : Int) : Prop where
  v0 : 0 ≤ v
  v1 : v ≤ 18446744073709551615
  sum : v.toNat = val (t.take k) 0
  big : ∀ j z, j < k → t[j]? = some z → 128 ≤ z
  head : 0 < k → t.head? ≠ some 128

/-- The same of the loop's two slots. -/
def GetLoop (t : List Int) (T : Nat) (n i : Value) : Prop := ∃ (k : Nat) (v : Int), k ≤ T ∧ i = .int .i64 k ∧ n = .int .u64 v ∧ GetInv t k v

theorem getD_some {t : List Int} {k : Nat} {z : Int} (hk : k < t.length) (hz : z = t.getD k 0) : t[k]? = some z := by
  rw [hz, List.getElem?_eq_getElem hk]; simp [List.getD, List.getElem?_eq_getElem hk]

theorem inv_head {t : List Int} (h : t[0]? = some 128) (m : Nat) : ¬ Hit t m := fun hm => hm.head (by cases t with
  | nil => simp at h
  | cons x t => simpa using h)

theorem inv_big {t : List Int} {k : Nat} {v z : Int} (h : GetInv t k v) (hz : t[k]? = some z) (hv : 144115188075855871 < v) (m : Nat) : ¬ Hit t m := by
  intro hm
  have h1 := hm.len h.big
  have h2 := hm.val
  have h3 := val_take_le t (show k + 1 ≤ sz m from h1)
  rw [take_val_succ t k z hz, ← h.sum] at h3
  have := hm.1
  omega

theorem inv_end {t : List Int} {k : Nat} {v : Int} (h : GetInv t k v) (hk : t.length ≤ k) (m : Nat) : ¬ Hit t m := by
  intro hm
  have h1 := hm.len h.big
  have h2 := congrArg List.length hm.2
  rw [length_bytesOf, List.length_take] at h2
  omega

theorem inv_hit {t : List Int} {k : Nat} {v z : Int} (h : GetInv t k v) (hr : ∀ z ∈ t, 0 ≤ z ∧ z < 256) (hz : t[k]? = some z) (hv : v ≤ 144115188075855871) (h0 : 0 ≤ z) (h1 : z < 128) :
    Hit t (v * 128 + z % 128).toNat ∧ sz (v * 128 + z % 128).toNat = k + 1 := by
  have hv0 := h.v0
  have hk : k < t.length := by
    rcases Nat.lt_or_ge k t.length with hh | hh
    · exact hh
    · rw [List.getElem?_eq_none hh] at hz; cases hz
  have hlen : (t.take (k + 1)).length = k + 1 := by rw [List.length_take]; omega
  have hf : Form (t.take (k + 1)) := by
    refine form_of_get _ (by intro e; rw [e] at hlen; simp at hlen) (fun x hx => hr x (List.mem_of_mem_take hx)) (fun i x hi hx => ?_) (fun x hx => ?_)
    · rw [hlen] at hi
      rw [List.getElem?_take_of_lt (by omega)] at hx
      exact h.big i x (by omega) hx
    · rw [hlen, Nat.add_sub_cancel, List.getElem?_take_of_lt (by omega), hz] at hx
      cases hx
      exact h1
  have hval : (v * 128 + z % 128).toNat = val (t.take (k + 1)) 0 := by
    rw [take_val_succ t k z hz, ← h.sum]; omega
  have hb := bytesOf_of_form (t.take (k + 1)) hf (by
    rcases Nat.eq_zero_or_pos k with rfl | hp
    · left; simpa using hlen
    · right
      have := h.head hp
      intro e
      apply this
      cases t with
      | nil => simp at hk
      | cons x t => simp at e; simp [e])
  have hs : sz (val (t.take (k + 1)) 0) = k + 1 := by
    rw [← length_bytesOf, hb, hlen]
  rw [hval]
  refine ⟨⟨?_, ?_⟩, hs⟩
  · rw [← hval]; omega
  · rw [hs, hb]

theorem inv_step {t : List Int} {k : Nat} {v z : Int} (h : GetInv t k v) (hz : t[k]? = some z) (hv : v ≤ 144115188075855871) (h0 : 128 ≤ z) (h1 : k = 0 → z ≠ 128) :
    GetInv t (k + 1) (v * 128 + z % 128) := by
  have hv0 := h.v0
  refine ⟨by omega, by omega, ?_, fun j x hj hx => ?_, fun _ => ?_⟩
  · rw [take_val_succ t k z hz, ← h.sum]; omega
  · rcases Nat.lt_or_ge j k with hh | hh
    · exact h.big j x hh hx
    · have e : j = k := by omega
      subst e
      rw [hz] at hx; cases hx; exact h0
  · rcases Nat.eq_zero_or_pos k with rfl | hp
    · intro e
      cases t with
      | nil => simp at e
      | cons x t => simp at e hz; exact h1 rfl (by omega)
    · exact h.head hp

theorem next_val (v z : Int) (h0 : 0 ≤ v) (hv : v ≤ 144115188075855871) (hz0 : 0 ≤ z) (hz1 : z < 256) :
    bits .or .u64 (v * 128) (IntKind.u64.wrap (bits .and .u8 z 127)) = v * 128 + z % 128 := by
  obtain ⟨m, rfl⟩ := Int.eq_ofNat_of_zero_le h0
  obtain ⟨y, rfl⟩ := Int.eq_ofNat_of_zero_le hz0
  have e1 : bits .and .u8 (y : Int) 127 = ((y % 128 : Nat) : Int) := by
    rw [u8_and _ _ (by omega) (by omega) (by omega) (by omega), Int.toNat_natCast, show (127 : Int).toNat = 2 ^ 7 - 1 from rfl, Nat.and_two_pow_sub_one_eq_mod]
  have e2 : IntKind.u64.wrap ((y % 128 : Nat) : Int) = ((y % 128 : Nat) : Int) := by
    rw [IntKind.wrap_u64]; omega
  rw [e1, e2, u64_or _ _ (by omega) (by omega) (by omega) (by omega), Int.toNat_natCast]
  have e3 : ((m : Int) * 128).toNat = 2 ^ 7 * m := by omega
  rw [e3, or_low _ _ 7 (by omega)]
  omega

set_option maxHeartbeats 1000000 in
/-- Something stands there. -/
theorem get_some (w : World) (b off len cap at' : Nat) (t : List Int) (hlt : at' < len) (hc : len ≤ cap) (hl : len ≤ 1000000000) (hT : t.length = len - at') (hr : ∀ z ∈ t, 0 ≤ z ∧ z < 256)
    (hcell : ∀ i, i < t.length → w.cell? ⟨b, off + at' + i, none⟩ = some (.int .u8 (t.getD i 0))) :
    Calls Try.prog 49 #[.slice (some ⟨b, off, none⟩) len cap, .int .i64 (at' : Int)] w fun e w' => (∃ n : Int, 0 ≤ n ∧ Hit t n.toNat ∧ e = .returned (.tuple #[.int .u64 n, .int .i64 (at' + sz n.toNat : Nat), .int .i64 0]) ∧ w' = w) ∨
      ((∀ m, ¬ Hit t m) ∧ e = .returned (.tuple #[.int .u64 0, .int .i64 0, .int .i64 6]) ∧ w' = w) := by
  have hT1 : len - at' ≤ 1000000000 := by omega
  go_enter Try.func49, Try.ntmps49
  go_wp2
  go_loop [4, 25] (fun n i => GetLoop t (len - at') n i) (fun _ i => len - at' - (intOf i).toNat)
  case atStart => exact ⟨0, 0, Nat.zero_le _, rfl, rfl, ⟨by omega, by omega, rfl, fun j z h => by omega, fun h => by omega⟩⟩
  case round =>
    obtain ⟨k, v, hk, rfl, rfl, hinv⟩ := hrel
    have hv0 := hinv.v0
    have hv1 := hinv.v1
    by_cases hkt : k < len - at'
    · obtain ⟨z, hz⟩ : ∃ z, z = t.getD k 0 := ⟨_, rfl⟩
      have hzc := hcell k (by omega)
      rw [← hz] at hzc
      have hzr : 0 ≤ z ∧ z < 256 := by
        have hk' : k < t.length := by omega
        have : t.getD k 0 = t[k] := by simp [List.getD, List.getElem?_eq_getElem hk']
        rw [hz, this]; exact hr _ (List.getElem_mem hk')
      have HZ : Hid (z = t.getD k 0) := hz
      clear hz hcell
      obtain ⟨hz0, hz1⟩ := hzr
      have hkk : k < t.length := by omega
      by_cases hB : 144115188075855871 < v
      · rcases (show (k < 1 ∧ 128 ≤ z ∧ z < 129) ∨ (k < 1 ∧ z < 128) ∨ (k < 1 ∧ 128 < z) ∨ 0 < k by omega) with ⟨hk0, hza, hzb⟩ | ⟨hk0, hza⟩ | ⟨hk0, hza⟩ | hpos
        all_goals
          go_wp2
          go_ret3
          exact Or.inr ⟨inv_big hinv (getD_some hkk HZ.out) (by omega), rfl, rfl⟩
      · have hnv := next_val v z hv0 (by omega) hz0 hz1
        have hnv0 : 0 ≤ v * 128 + z % 128 := by omega
        have HN : Hid (bits .or .u64 (v * 128) (IntKind.u64.wrap (bits .and .u8 z 127)) = v * 128 + z % 128) := hnv
        clear hnv
        rcases (show (k < 1 ∧ 128 ≤ z ∧ z < 129) ∨ (k < 1 ∧ z < 128) ∨ (k < 1 ∧ 128 < z) ∨ (0 < k ∧ z < 128) ∨ (0 < k ∧ 128 ≤ z) by omega) with ⟨hk0, hza, hzb⟩ | ⟨hk0, hza⟩ | ⟨hk0, hza⟩ | ⟨hpos, hza⟩ | ⟨hpos, hza⟩
        · have e : Hid (t[k]? = some z) := getD_some hkk HZ.out
          have e2 : Hid (k = 0 ∧ z = 128) := (show k = 0 ∧ z = 128 by omega)
          go_wp2
          go_ret3
          exact Or.inr ⟨by have e3 := e.out; rw [e2.out.1, e2.out.2] at e3; exact inv_head e3, rfl, rfl⟩
        · obtain ⟨g1, g2⟩ := inv_hit hinv hr (getD_some hkk HZ.out) (by omega) hz0 hza
          have G2 : Hid (sz (v * 128 + z % 128).toNat = k + 1) := g2
          have G1 : Hid (Hit t (v * 128 + z % 128).toNat) := g1
          clear g1
          have hk00 : Hid (k = 0) := (by omega : k = 0)
          clear g2
          go_wp2
          go_ret3
          exact Or.inl ⟨v * 128 + z % 128, hnv0, G1.out, by rw [HN.out, G2.out, hk00.out]; rfl, rfl⟩
        · have hst := inv_step hinv (getD_some hkk HZ.out) (by omega) (by omega) (by intro _; omega)
          have hk00 : Hid (k = 0) := (by omega : k = 0)
          go_wp2
          go_round
          case rel => exact ⟨_, _, _, _, _, _, _, _, ⟨1, v * 128 + z % 128, by omega, by go_num, by rw [HN.out], by rw [hk00.out] at hst; exact hst⟩, rfl, rfl, rfl, rfl, rfl, rfl, rfl, rfl⟩
          case measure => simp [intOf]; omega
        · obtain ⟨g1, g2⟩ := inv_hit hinv hr (getD_some hkk HZ.out) (by omega) hz0 hza
          have G2 : Hid (sz (v * 128 + z % 128).toNat = k + 1) := g2
          have G1 : Hid (Hit t (v * 128 + z % 128).toNat) := g1
          clear g1
          clear g2
          go_wp2
          go_ret3
          exact Or.inl ⟨v * 128 + z % 128, hnv0, G1.out, by rw [HN.out, G2.out]; rfl, rfl⟩
        · have hst := inv_step hinv (getD_some hkk HZ.out) (by omega) (by omega) (by intro _; omega)
          go_wp2
          go_round
          case rel => exact ⟨_, _, _, _, _, _, _, _, ⟨k + 1, v * 128 + z % 128, by omega, by go_num, by rw [HN.out], hst⟩, rfl, rfl, rfl, rfl, rfl, rfl, rfl, rfl⟩
          case measure => simp [intOf]; omega
    · go_wp2
      go_ret3
      exact Or.inr ⟨inv_end hinv (by omega), rfl, rfl⟩

theorem get_any (w : World) (a : Option Addr) (cap : Nat) (l : List Int) (at' : Int) (hb : Bts w.heap.size w a l) (hc : l.length ≤ cap) (hl : l.length ≤ 1000000000) :
    Calls Try.prog 49 #[.slice a l.length cap, .int .i64 at'] w fun e w' => (∃ n next er : Int, e = .returned (.tuple #[.int .u64 n, .int .i64 next, .int .i64 er]) ∧ GetRel l at' n next er) ∧ w' = w := by
  by_cases h : at' < 0 ∨ (l.length : Int) < at'
  · exact (get_out w a l.length cap at' h).mono fun e w' ⟨he, hw⟩ => ⟨⟨0, 0, 9, he, Or.inl ⟨h, rfl, rfl, rfl⟩⟩, hw⟩
  · obtain ⟨k, rfl⟩ := Int.eq_ofNat_of_zero_le (show 0 ≤ at' by omega)
    by_cases hk : k < l.length
    · obtain ⟨b, off, rfl, _, hcell⟩ := hb.cells (by intro e; rw [e] at hk; simp at hk)
      refine (get_some w b off l.length cap k (l.drop k) hk hc hl (by simp) (fun z hz => hb.range z (List.mem_of_mem_drop hz)) (fun i hi => ?_)).mono fun e w' h' => ?_
      · rw [List.length_drop] at hi
        rw [Nat.add_assoc, hcell (k + i) (by omega)]
        simp [List.getD]
      · rcases h' with ⟨n, hn, hit, he, hw⟩ | ⟨hno, he, hw⟩
        · exact ⟨⟨n, _, 0, he, Or.inr (Or.inl ⟨by omega, by omega, hn, by simpa using hit, by simp, rfl⟩)⟩, hw⟩
        · exact ⟨⟨0, 0, 6, he, Or.inr (Or.inr ⟨by omega, by omega, by simpa using hno, rfl, rfl, rfl⟩)⟩, hw⟩
    · have hk' : k = l.length := by omega
      subst hk'
      refine (get_end w a l.length cap hc hl).mono fun e w' ⟨he, hw⟩ => ?_
      refine ⟨⟨0, 0, 6, he, Or.inr (Or.inr ⟨by omega, by omega, fun m hm => ?_, rfl, rfl, rfl⟩)⟩, hw⟩
      have h2 := congrArg List.length hm.2
      have := sz_pos m
      rw [length_bytesOf] at h2
      simp at h2
      omega

theorem GetRel.range {l : List Int} {at' n next e : Int} (h : GetRel l at' n next e) : 0 ≤ n ∧ n ≤ 18446744073709551615 ∧ 0 ≤ next ∧ next ≤ at'.toNat + 10 ∧ (e = 0 ∨ e = 6 ∨ e = 9) := by
  rcases h with ⟨a, rfl, rfl, rfl⟩ | ⟨a, b, c, d, rfl, rfl⟩ | ⟨a, b, c, rfl, rfl, rfl⟩
  · omega
  · have h1 := d.1
    have h2 := sz_le_ten n.toNat h1
    omega
  · omega

theorem GetRel.no {l : List Int} {at' n next e : Int} (h : GetRel l at' n next e) (he : e ≠ 0) : n = 0 ∧ next = 0 := by
  rcases h with ⟨a, rfl, rfl, rfl⟩ | ⟨a, b, c, d, rfl, rfl⟩ | ⟨a, b, c, rfl, rfl, rfl⟩ <;> simp_all

theorem GetRel.yes {l : List Int} {at' n next : Int} (h : GetRel l at' n next 0) : 0 ≤ at' ∧ 0 ≤ n ∧ n ≤ 18446744073709551615 ∧ (l.drop at'.toNat).take (sz n.toNat) = bytesOf n.toNat ∧ next = at' + sz n.toNat ∧ next ≤ l.length ∧ l ≠ [] := by
  rcases h with ⟨a, rfl, rfl, e⟩ | ⟨a, b, c, d, rfl, e⟩ | ⟨a, b, c, rfl, rfl, e⟩
  · omega
  · have h1 := d.1
    have h2 := congrArg List.length d.2
    rw [length_bytesOf, List.length_take, List.length_drop] at h2
    have := sz_pos n.toNat
    refine ⟨a, c, by omega, d.2, rfl, by omega, ?_⟩
    rintro rfl
    simp at h2
    omega
  · omega

end Go.Proofs.Ytgalmkhgbokidaa
