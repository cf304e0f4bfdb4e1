/-
  What is proved here: num.Get answers the number that the bytes tell from a place on, or the error that the document names; it writes nothing.
  What is proved here: the document's own Get answers what is asked of num.Get; it writes nothing that was there.
  What is proved here: num.GetInt and the document's own GetInt answer the same for all bytes and every place.
  What is proved here: num.GetText and the document's own GetText answer the same for all bytes, every place and every bound.
  What is proved here: num.PutText and the document's Text of every text that is not too long.
-/
import Derived.Test.YtgalmkhgbokidaaMgA
import Derived.Deep.QuietTactic
import Derived.BigQuiet
import Derived.Lib.AppendStr

namespace Go.Proofs.Ytgalmkhgbokidaa
open Go.RowKit
set_option maxRecDepth 20000
set_option linter.unusedVariables false

/-- The place is outside. -/
theorem get_out (w : World) (a : Option Addr) (len cap : Nat) (at' : Int) (h : at' < 0 ∨ (len : Int) < at') :
    Calls Try.prog 49 #[.slice a len cap, .int .i64 at'] w fun e w' => e = .returned (.tuple #[.int .u64 0, .int .i64 0, .int .i64 9]) ∧ w' = w := by
  rcases h with h | h
  · go_enter Try.func49, Try.ntmps49
    go_wp2
    go_ret3
    exact ⟨rfl, rfl⟩
  · by_cases h0 : at' < 0
    · go_enter Try.func49, Try.ntmps49
      go_wp2
      go_ret3
      exact ⟨rfl, rfl⟩
    · go_enter Try.func49, Try.ntmps49
      go_wp2
      go_ret3
      exact ⟨rfl, rfl⟩

/-- Nothing stands from the place on. -/
theorem get_end (w : World) (a : Option Addr) (len cap : Nat) (hc : len ≤ cap) (hl : len ≤ 1000000000) :
    Calls Try.prog 49 #[.slice a len cap, .int .i64 (len : Int)] w fun e w' => e = .returned (.tuple #[.int .u64 0, .int .i64 0, .int .i64 6]) ∧ w' = w := by
  go_enter Try.func49, Try.ntmps49
  go_wp2
  all_goals
    refine wp_loop_rounds 1 ?_
    rw [rounds_succ]
    go_wp2
    go_ret3
    exact ⟨rfl, rfl⟩

/-- What holds behind k rounds. -/
structure GetInv (t : List Int) (k : Nat) (v : Int) : Prop where
  v0 : 0 ≤ v
  v1 : v ≤ 18446744073709551615
  sum : v.toNat = val (t.take k) 0
  big : ∀ j z, j < k → t[j]? = some z → 128 ≤ z
  head : 0 < k → t.head? ≠ some 128

/-- The same of the loop's two slots. -/
def GetLoop (t : List Int) (T : Nat) (n i : Value) : Prop := ∃ (k : Nat) (v : Int), k ≤ T ∧ i = .int .i64 k ∧ n = .int .u64 v ∧ GetInv t k v

theorem getD_some {t : List Int} {k : Nat} {z : Int} (hk : k < t.length) (hz : z = t.getD k 0) : t[k]? = some z := by
  rw [hz, List.getElem?_eq_getElem hk]; simp [List.getD, List.getElem?_eq_getElem hk]

theorem inv_head {t : List Int} (h : t[0]? = some 128) (m : Nat) : ¬ Hit t m := fun hm => hm.head (by cases t with
  | nil => simp at h
  | cons x t => simpa using h)

theorem inv_big {t : List Int} {k : Nat} {v z : Int} (h : GetInv t k v) (hz : t[k]? = some z) (hv : 144115188075855871 < v) (m : Nat) : ¬ Hit t m := by
  intro hm
  have h1 := hm.len h.big
  have h2 := hm.val
  have h3 := val_take_le t (show k + 1 ≤ sz m from h1)
  rw [take_val_succ t k z hz, ← h.sum] at h3
  have := hm.1
  omega

theorem inv_end {t : List Int} {k : Nat} {v : Int} (h : GetInv t k v) (hk : t.length ≤ k) (m : Nat) : ¬ Hit t m := by
  intro hm
  have h1 := hm.len h.big
  have h2 := congrArg List.length hm.2
  rw [length_bytesOf, List.length_take] at h2
  omega

theorem inv_hit {t : List Int} {k : Nat} {v z : Int} (h : GetInv t k v) (hr : ∀ z ∈ t, 0 ≤ z ∧ z < 256) (hz : t[k]? = some z) (hv : v ≤ 144115188075855871) (h0 : 0 ≤ z) (h1 : z < 128) :
    Hit t (v * 128 + z % 128).toNat ∧ sz (v * 128 + z % 128).toNat = k + 1 := by
  have hv0 := h.v0
  have hk : k < t.length := by
    rcases Nat.lt_or_ge k t.length with hh | hh
    · exact hh
    · rw [List.getElem?_eq_none hh] at hz; cases hz
  have hlen : (t.take (k + 1)).length = k + 1 := by rw [List.length_take]; omega
  have hf : Form (t.take (k + 1)) := by
    refine form_of_get _ (by intro e; rw [e] at hlen; simp at hlen) (fun x hx => hr x (List.mem_of_mem_take hx)) (fun i x hi hx => ?_) (fun x hx => ?_)
    · rw [hlen] at hi
      rw [List.getElem?_take_of_lt (by omega)] at hx
      exact h.big i x (by omega) hx
    · rw [hlen, Nat.add_sub_cancel, List.getElem?_take_of_lt (by omega), hz] at hx
      cases hx
      exact h1
  have hval : (v * 128 + z % 128).toNat = val (t.take (k + 1)) 0 := by
    rw [take_val_succ t k z hz, ← h.sum]; omega
  have hb := bytesOf_of_form (t.take (k + 1)) hf (by
    rcases Nat.eq_zero_or_pos k with rfl | hp
    · left; simpa using hlen
    · right
      have := h.head hp
      intro e
      apply this
      cases t with
      | nil => simp at hk
      | cons x t => simp at e; simp [e])
  have hs : sz (val (t.take (k + 1)) 0) = k + 1 := by
    rw [← length_bytesOf, hb, hlen]
  rw [hval]
  refine ⟨⟨?_, ?_⟩, hs⟩
  · rw [← hval]; omega
  · rw [hs, hb]

theorem inv_step {t : List Int} {k : Nat} {v z : Int} (h : GetInv t k v) (hz : t[k]? = some z) (hv : v ≤ 144115188075855871) (h0 : 128 ≤ z) (h1 : k = 0 → z ≠ 128) :
    GetInv t (k + 1) (v * 128 + z % 128) := by
  have hv0 := h.v0
  refine ⟨by omega, by omega, ?_, fun j x hj hx => ?_, fun _ => ?_⟩
  · rw [take_val_succ t k z hz, ← h.sum]; omega
  · rcases Nat.lt_or_ge j k with hh | hh
    · exact h.big j x hh hx
    · have e : j = k := by omega
      subst e
      rw [hz] at hx; cases hx; exact h0
  · rcases Nat.eq_zero_or_pos k with rfl | hp
    · intro e
      cases t with
      | nil => simp at e
      | cons x t => simp at e hz; exact h1 rfl (by omega)
    · exact h.head hp

theorem next_val (v z : Int) (h0 : 0 ≤ v) (hv : v ≤ 144115188075855871) (hz0 : 0 ≤ z) (hz1 : z < 256) :
    bits .or .u64 (v * 128) (IntKind.u64.wrap (bits .and .u8 z 127)) = v * 128 + z % 128 := by
  obtain ⟨m, rfl⟩ := Int.eq_ofNat_of_zero_le h0
  obtain ⟨y, rfl⟩ := Int.eq_ofNat_of_zero_le hz0
  have e1 : bits .and .u8 (y : Int) 127 = ((y % 128 : Nat) : Int) := by
    rw [u8_and _ _ (by omega) (by omega) (by omega) (by omega), Int.toNat_natCast, show (127 : Int).toNat = 2 ^ 7 - 1 from rfl, Nat.and_two_pow_sub_one_eq_mod]
  have e2 : IntKind.u64.wrap ((y % 128 : Nat) : Int) = ((y % 128 : Nat) : Int) := by
    rw [IntKind.wrap_u64]; omega
  rw [e1, e2, u64_or _ _ (by omega) (by omega) (by omega) (by omega), Int.toNat_natCast]
  have e3 : ((m : Int) * 128).toNat = 2 ^ 7 * m := by omega
  rw [e3, or_low _ _ 7 (by omega)]
  omega

set_option maxHeartbeats 1000000 in
/-- Something stands there. -/
theorem get_some (w : World) (b off len cap at' : Nat) (t : List Int) (hlt : at' < len) (hc : len ≤ cap) (hl : len ≤ 1000000000) (hT : t.length = len - at') (hr : ∀ z ∈ t, 0 ≤ z ∧ z < 256)
    (hcell : ∀ i, i < t.length → w.cell? ⟨b, off + at' + i, none⟩ = some (.int .u8 (t.getD i 0))) :
    Calls Try.prog 49 #[.slice (some ⟨b, off, none⟩) len cap, .int .i64 (at' : Int)] w fun e w' => (∃ n : Int, 0 ≤ n ∧ Hit t n.toNat ∧ e = .returned (.tuple #[.int .u64 n, .int .i64 (at' + sz n.toNat : Nat), .int .i64 0]) ∧ w' = w) ∨
      ((∀ m, ¬ Hit t m) ∧ e = .returned (.tuple #[.int .u64 0, .int .i64 0, .int .i64 6]) ∧ w' = w) := by
  have hT1 : len - at' ≤ 1000000000 := by omega
  go_enter Try.func49, Try.ntmps49
  go_wp2
  go_loop [4, 25] (fun n i => GetLoop t (len - at') n i) (fun _ i => len - at' - (intOf i).toNat)
  case atStart => exact ⟨0, 0, Nat.zero_le _, rfl, rfl, ⟨by omega, by omega, rfl, fun j z h => by omega, fun h => by omega⟩⟩
  case round =>
    obtain ⟨k, v, hk, rfl, rfl, hinv⟩ := hrel
    have hv0 := hinv.v0
    have hv1 := hinv.v1
    by_cases hkt : k < len - at'
    · obtain ⟨z, hz⟩ : ∃ z, z = t.getD k 0 := ⟨_, rfl⟩
      have hzc := hcell k (by omega)
      rw [← hz] at hzc
      have hzr : 0 ≤ z ∧ z < 256 := by
        have hk' : k < t.length := by omega
        have : t.getD k 0 = t[k] := by simp [List.getD, List.getElem?_eq_getElem hk']
        rw [hz, this]; exact hr _ (List.getElem_mem hk')
      have HZ : Hid (z = t.getD k 0) := hz
      clear hz hcell
      obtain ⟨hz0, hz1⟩ := hzr
      have hkk : k < t.length := by omega
      by_cases hB : 144115188075855871 < v
      · rcases (show (k < 1 ∧ 128 ≤ z ∧ z < 129) ∨ (k < 1 ∧ z < 128) ∨ (k < 1 ∧ 128 < z) ∨ 0 < k by omega) with ⟨hk0, hza, hzb⟩ | ⟨hk0, hza⟩ | ⟨hk0, hza⟩ | hpos
        all_goals
          go_wp2
          go_ret3
          exact Or.inr ⟨inv_big hinv (getD_some hkk HZ.out) (by omega), rfl, rfl⟩
      · have hnv := next_val v z hv0 (by omega) hz0 hz1
        have hnv0 : 0 ≤ v * 128 + z % 128 := by omega
        have HN : Hid (bits .or .u64 (v * 128) (IntKind.u64.wrap (bits .and .u8 z 127)) = v * 128 + z % 128) := hnv
        clear hnv
        rcases (show (k < 1 ∧ 128 ≤ z ∧ z < 129) ∨ (k < 1 ∧ z < 128) ∨ (k < 1 ∧ 128 < z) ∨ (0 < k ∧ z < 128) ∨ (0 < k ∧ 128 ≤ z) by omega) with ⟨hk0, hza, hzb⟩ | ⟨hk0, hza⟩ | ⟨hk0, hza⟩ | ⟨hpos, hza⟩ | ⟨hpos, hza⟩
        · have e : Hid (t[k]? = some z) := getD_some hkk HZ.out
          have e2 : Hid (k = 0 ∧ z = 128) := (show k = 0 ∧ z = 128 by omega)
          go_wp2
          go_ret3
          exact Or.inr ⟨by have e3 := e.out; rw [e2.out.1, e2.out.2] at e3; exact inv_head e3, rfl, rfl⟩
        · obtain ⟨g1, g2⟩ := inv_hit hinv hr (getD_some hkk HZ.out) (by omega) hz0 hza
          have G2 : Hid (sz (v * 128 + z % 128).toNat = k + 1) := g2
          have G1 : Hid (Hit t (v * 128 + z % 128).toNat) := g1
          clear g1
          have hk00 : Hid (k = 0) := (by omega : k = 0)
          clear g2
          go_wp2
          go_ret3
          exact Or.inl ⟨v * 128 + z % 128, hnv0, G1.out, by rw [HN.out, G2.out, hk00.out]; rfl, rfl⟩
        · have hst := inv_step hinv (getD_some hkk HZ.out) (by omega) (by omega) (by intro _; omega)
          have hk00 : Hid (k = 0) := (by omega : k = 0)
          go_wp2
          go_round
          case rel => exact ⟨_, _, _, _, _, _, _, _, ⟨1, v * 128 + z % 128, by omega, by go_num, by rw [HN.out], by rw [hk00.out] at hst; exact hst⟩, rfl, rfl, rfl, rfl, rfl, rfl, rfl, rfl⟩
          case measure => simp [intOf]; omega
        · obtain ⟨g1, g2⟩ := inv_hit hinv hr (getD_some hkk HZ.out) (by omega) hz0 hza
          have G2 : Hid (sz (v * 128 + z % 128).toNat = k + 1) := g2
          have G1 : Hid (Hit t (v * 128 + z % 128).toNat) := g1
          clear g1
          clear g2
          go_wp2
          go_ret3
          exact Or.inl ⟨v * 128 + z % 128, hnv0, G1.out, by rw [HN.out, G2.out]; rfl, rfl⟩
        · have hst := inv_step hinv (getD_some hkk HZ.out) (by omega) (by omega) (by intro _; omega)
          go_wp2
          go_round
          case rel => exact ⟨_, _, _, _, _, _, _, _, ⟨k + 1, v * 128 + z % 128, by omega, by go_num, by rw [HN.out], hst⟩, rfl, rfl, rfl, rfl, rfl, rfl, rfl, rfl⟩
          case measure => simp [intOf]; omega
    · go_wp2
      go_ret3
      exact Or.inr ⟨inv_end hinv (by omega), rfl, rfl⟩

theorem get_any (w : World) (a : Option Addr) (cap : Nat) (l : List Int) (at' : Int) (hb : Bts w.heap.size w a l) (hc : l.length ≤ cap) (hl : l.length ≤ 1000000000) :
    Calls Try.prog 49 #[.slice a l.length cap, .int .i64 at'] w fun e w' => (∃ n next er : Int, e = .returned (.tuple #[.int .u64 n, .int .i64 next, .int .i64 er]) ∧ GetRel l at' n next er) ∧ w' = w := by
  by_cases h : at' < 0 ∨ (l.length : Int) < at'
  · exact (get_out w a l.length cap at' h).mono fun e w' ⟨he, hw⟩ => ⟨⟨0, 0, 9, he, Or.inl ⟨h, rfl, rfl, rfl⟩⟩, hw⟩
  · obtain ⟨k, rfl⟩ := Int.eq_ofNat_of_zero_le (show 0 ≤ at' by omega)
    by_cases hk : k < l.length
    · obtain ⟨b, off, rfl, _, hcell⟩ := hb.cells (by intro e; rw [e] at hk; simp at hk)
      refine (get_some w b off l.length cap k (l.drop k) hk hc hl (by simp) (fun z hz => hb.range z (List.mem_of_mem_drop hz)) (fun i hi => ?_)).mono fun e w' h' => ?_
      · rw [List.length_drop] at hi
        rw [Nat.add_assoc, hcell (k + i) (by omega)]
        simp [List.getD]
      · rcases h' with ⟨n, hn, hit, he, hw⟩ | ⟨hno, he, hw⟩
        · exact ⟨⟨n, _, 0, he, Or.inr (Or.inl ⟨by omega, by omega, hn, by simpa using hit, by simp, rfl⟩)⟩, hw⟩
        · exact ⟨⟨0, 0, 6, he, Or.inr (Or.inr ⟨by omega, by omega, by simpa using hno, rfl, rfl, rfl⟩)⟩, hw⟩
    · have hk' : k = l.length := by omega
      subst hk'
      refine (get_end w a l.length cap hc hl).mono fun e w' ⟨he, hw⟩ => ?_
      refine ⟨⟨0, 0, 6, he, Or.inr (Or.inr ⟨by omega, by omega, fun m hm => ?_, rfl, rfl, rfl⟩)⟩, hw⟩
      have h2 := congrArg List.length hm.2
      have := sz_pos m
      rw [length_bytesOf] at h2
      simp at h2
      omega

theorem GetRel.range {l : List Int} {at' n next e : Int} (h : GetRel l at' n next e) : 0 ≤ n ∧ n ≤ 18446744073709551615 ∧ 0 ≤ next ∧ next ≤ at'.toNat + 10 ∧ (e = 0 ∨ e = 6 ∨ e = 9) := by
  rcases h with ⟨a, rfl, rfl, rfl⟩ | ⟨a, b, c, d, rfl, rfl⟩ | ⟨a, b, c, rfl, rfl, rfl⟩
  · omega
  · have h1 := d.1
    have h2 := sz_le_ten n.toNat h1
    omega
  · omega

theorem GetRel.no {l : List Int} {at' n next e : Int} (h : GetRel l at' n next e) (he : e ≠ 0) : n = 0 ∧ next = 0 := by
  rcases h with ⟨a, rfl, rfl, rfl⟩ | ⟨a, b, c, d, rfl, rfl⟩ | ⟨a, b, c, rfl, rfl, rfl⟩ <;> simp_all

theorem GetRel.yes {l : List Int} {at' n next : Int} (h : GetRel l at' n next 0) : 0 ≤ at' ∧ 0 ≤ n ∧ n ≤ 18446744073709551615 ∧ (l.drop at'.toNat).take (sz n.toNat) = bytesOf n.toNat ∧ next = at' + sz n.toNat ∧ next ≤ l.length ∧ l ≠ [] := by
  rcases h with ⟨a, rfl, rfl, e⟩ | ⟨a, b, c, d, rfl, e⟩ | ⟨a, b, c, rfl, rfl, e⟩
  · omega
  · have h1 := d.1
    have h2 := congrArg List.length d.2
    rw [length_bytesOf, List.length_take, List.length_drop] at h2
    have := sz_pos n.toNat
    refine ⟨a, c, by omega, d.2, rfl, by omega, ?_⟩
    rintro rfl
    simp at h2
    omega
  · omega

end Go.Proofs.Ytgalmkhgbokidaa

namespace Go.Proofs.Ytgalmkhgbokidaa
open Go.RowKit
set_option maxRecDepth 20000
set_option linter.unusedVariables false

theorem below_drewN' (w : World) (n B : Nat) : Below B w (w.drewN n) := ⟨rfl, rfl, rfl, Nat.le_refl _, fun _ _ => rfl⟩

/-- Too few bytes are left. -/
theorem same_few (w : World) (a a2 : Option Addr) (len cap n cap2 k : Nat) (hl : len ≤ 1000000000) (hk : k ≤ len) (hn : len - k < n) (hn2 : n ≤ 1000000000) :
    Calls Try.prog 71 #[.slice a len cap, .int .i64 (k : Int), .slice a2 n cap2] w fun e w' => e = .returned (.bool false) ∧ ∃ nq, w' = w.drewN nq := by
  have hd : decide ((n : Int) ≤ (len : Int) - (k : Int)) = false := by simp; omega
  go_enter Try.func71, Try.ntmps71
  go_wp2
  go_quiet (fail)
  go_wp2
  go_ret
  exact ⟨rfl, _, rfl⟩

/-- Enough are left. -/
theorem same_any (w : World) (b off cap cap2 k : Nat) (a2 : Option Addr) (l x : List Int) (hb : Bts w.heap.size w (some ⟨b, off, none⟩) l) (hx : Bts w.heap.size w a2 x) (hl : l.length ≤ 1000000000) (hc : l.length ≤ cap) (hk : k + x.length ≤ l.length) (h0 : 0 < x.length) :
    Calls Try.prog 71 #[.slice (some ⟨b, off, none⟩) l.length cap, .int .i64 (k : Int), .slice a2 x.length cap2] w fun e w' => e = .returned (.bool (decide ((l.drop k).take x.length = x))) ∧ ∃ nq, w' = w.drewN nq := by
  have hp := hb.part k x.length
  have hpl : ((l.drop k).take x.length).length = x.length := by simp; omega
  have c1 : ∀ nq, (convert 22 9 (.slice (some ⟨b, off + k, none⟩) x.length (cap - k))).run Try.prog (w.drewN nq) = .ok (.string (strOfNums ((l.drop k).take x.length))) (w.drewN nq) :=
    fun nq => (hp.keep (below_drewN' w nq _)).conv x.length (cap - k) hpl
  have c2 : ∀ nq, (convert 22 9 (.slice a2 x.length cap2)).run Try.prog (w.drewN nq) = .ok (.string (strOfNums x)) (w.drewN nq) :=
    fun nq => (hx.keep (below_drewN' w nq _)).conv x.length cap2 rfl
  have he := str_eq_of ((l.drop k).take x.length) x hp.range hx.range
  have hd : (x.length : Int) ≤ (l.length : Int) - (k : Int) := by omega
  generalize (l.drop k).take x.length = y at *
  generalize x.length = n at *
  generalize l.length = len at *
  have hk0 : (0 : Int) ≤ (k : Int) := by omega
  have hkc : (k : Int) + (n : Int) ≤ (cap : Int) := by omega
  have hkl : (k : Int) ≤ (k : Int) + (n : Int) := by omega
  have hkn : ¬ k = cap := by omega
  clear hb hx hp hpl
  go_enter Try.func71, Try.ntmps71
  go_wp2
  go_quiet (fail)
  go_wp2
  go_ret
  exact ⟨rfl, _, rfl⟩

theorem rget_out (w : World) (a : Option Addr) (len cap : Nat) (at' : Int) (h : at' < 0 ∨ (len : Int) < at') :
    Calls Try.prog 51 #[.slice a len cap, .int .i64 at'] w fun e w' => e = .returned (.tuple #[.int .u64 0, .int .i64 0, .int .i64 9]) ∧ w' = w := by
  rcases h with h | h
  · go_enter Try.func51, Try.ntmps51
    go_wp2
    go_ret3
    exact ⟨rfl, rfl⟩
  · by_cases h0 : at' < 0
    · go_enter Try.func51, Try.ntmps51
      go_wp2
      go_ret3
      exact ⟨rfl, rfl⟩
    · go_enter Try.func51, Try.ntmps51
      go_wp2
      go_ret3
      exact ⟨rfl, rfl⟩

/-- What holds behind k rounds. -/
structure RInv (t : List Int) (k : Nat) (v : Int) : Prop where
  v0 : 0 ≤ v
  v1 : v ≤ 18446744073709551615
  sum : v = ((val (t.take k) 0 : Nat) : Int) % 18446744073709551616
  big : ∀ j z, j < k → t[j]? = some z → 128 ≤ z

theorem r_step {t : List Int} {k : Nat} {v z : Int} (h : RInv t k v) (hz : t[k]? = some z) (h0 : 128 ≤ z) : RInv t (k + 1) (IntKind.u64.wrap (IntKind.u64.wrap (v * 128) + z % 128)) := by
  have hs := h.sum
  refine ⟨?_, ?_, ?_, fun j x hj hx => ?_⟩
  · rw [IntKind.wrap_u64]; omega
  · rw [IntKind.wrap_u64]; omega
  · rw [IntKind.wrap_u64, IntKind.wrap_u64, take_val_succ t k z hz]; omega
  · rcases Nat.lt_or_ge j k with hh | hh
    · exact h.big j x hh hx
    · have e : j = k := by omega
      subst e
      rw [hz] at hx; cases hx; exact h0

/-- Only what was reckoned can be told. -/
theorem r_hit {t : List Int} {k u m : Nat} {v z : Int} (h : RInv t k v) (hz : t[k]? = some z) (h0 : 0 ≤ z) (h1 : z < 128) (hu : IntKind.u64.wrap (IntKind.u64.wrap (v * 128) + z % 128) = (u : Int)) (hm : Hit t m) : m = u ∧ sz m = k + 1 := by
  have hs := h.sum
  have e1 := hm.len_eq h.big hz h1
  have e2 := hm.val
  rw [e1, take_val_succ t k z hz] at e2
  have e3 := hm.1
  refine ⟨?_, e1⟩
  rw [IntKind.wrap_u64, IntKind.wrap_u64] at hu
  omega

theorem r_end {t : List Int} {k : Nat} {v : Int} (h : RInv t k v) (hk : t.length ≤ k ∨ 10 ≤ k) (m : Nat) : ¬ Hit t m := by
  intro hm
  have h1 := hm.len h.big
  have h2 := congrArg List.length hm.2
  have h3 := sz_le_ten m hm.1
  rw [length_bytesOf, List.length_take] at h2
  omega

theorem getRel_no (l t : List Int) (at' : Nat) (ht : t = l.drop at') (h : at' ≤ l.length) (hn : ∀ m, ¬ Hit t m) : GetRel l at' 0 0 6 :=
  Or.inr (Or.inr ⟨by omega, by omega, by rw [Int.toNat_natCast, ← ht]; exact hn, rfl, rfl, rfl⟩)

theorem getRel_yes (l t : List Int) (at' u : Nat) (ht : t = l.drop at') (h : at' ≤ l.length) (hn : Hit t u) : GetRel l at' u ((at' : Int) + sz u) 0 :=
  Or.inr (Or.inl ⟨by omega, by omega, by omega, by rw [Int.toNat_natCast, Int.toNat_natCast, ← ht]; exact hn, by simp, rfl⟩)

def RLoop (t : List Int) (at' : Nat) (n i : Value) : Prop := ∃ (k : Nat) (v : Int), k ≤ t.length ∧ k ≤ 10 ∧ i = .int .i64 (((at' + k : Nat) : Int)) ∧ n = .int .u64 v ∧ RInv t k v

set_option maxHeartbeats 2000000 in
theorem rget_some (w : World) (b off cap at' : Nat) (l : List Int) (hb : Bts w.heap.size w (some ⟨b, off, none⟩) l) (hlt : at' ≤ l.length) (hc : l.length ≤ cap) (hl : l.length ≤ 1000000000) :
    Calls Try.prog 51 #[.slice (some ⟨b, off, none⟩) l.length cap, .int .i64 (at' : Int)] w fun e w' => (∃ n next er : Int, e = .returned (.tuple #[.int .u64 n, .int .i64 next, .int .i64 er]) ∧ GetRel l at' n next er) ∧ Below w.heap.size w w' := by
  obtain ⟨t, ht⟩ : ∃ t, t = l.drop at' := ⟨_, rfl⟩
  have HT : Hid (t = l.drop at') := ht
  have htl : t.length = l.length - at' := by rw [ht]; simp
  clear ht
  go_enter Try.func51, Try.ntmps51
  go_wp2
  go_loop [7, 8] (fun n i => RLoop t at' n i) (fun _ i => l.length - (intOf i).toNat)
  case atStart => exact ⟨0, 0, Nat.zero_le _, by omega, rfl, rfl, ⟨by omega, by omega, rfl, fun j z h => by omega⟩⟩
  case round =>
    obtain ⟨k, v, hk, hk10, rfl, rfl, hinv⟩ := hrel
    have hv0 := hinv.v0
    have hv1 := hinv.v1
    by_cases hkt : k < t.length ∧ k < 10
    · obtain ⟨hkt, hkt10⟩ := hkt
      obtain ⟨z, hz⟩ : ∃ z, z = t.getD k 0 := ⟨_, rfl⟩
      have hzr : 0 ≤ z ∧ z < 256 := by
        have : t.getD k 0 = t[k] := by simp [List.getD, List.getElem?_eq_getElem hkt]
        rw [hz, this]
        have hm : t[k] ∈ t := List.getElem_mem hkt
        have ht2 : ∀ z ∈ t, 0 ≤ z ∧ z < 256 := by rw [HT.out]; exact fun z hz => hb.range z (List.mem_of_mem_drop hz)
        exact ht2 _ hm
      have hzc : w.cell? ⟨b, off + (at' + k), none⟩ = some (.int .u8 z) := by
        obtain ⟨b', off', e, _, hcell⟩ := hb.cells (by intro e; have hh := htl; rw [e, List.length_nil] at hh; omega)
        cases e
        rw [hcell (at' + k) (by omega), hz, HT.out]
        simp [List.getD]
      have HZ : Hid (t[k]? = some z) := getD_some hkt hz
      clear hz
      obtain ⟨hz0, hz1⟩ := hzr
      by_cases hC : z < 128
      · obtain ⟨u, hu⟩ : ∃ u : Nat, IntKind.u64.wrap (IntKind.u64.wrap (v * 128) + z % 128) = (u : Int) := by
          rw [IntKind.wrap_u64]; exact ⟨_, (Int.toNat_of_nonneg (by omega)).symm⟩
        have hu1 : u < 18446744073709551616 := by rw [IntKind.wrap_u64] at hu; omega
        have HU : Hid (IntKind.u64.wrap (IntKind.u64.wrap (v * 128) + z % 128) = (u : Int)) := hu
        have hsu := sz_le_ten u hu1
        have hsp := sz_pos u
        clear hu
        go_wp2_with fail
        rw [HU.out]
        refine (bytes_any w u hu1).mono ?_
        rintro e w1 ⟨gx, cx, rfl, hownx, hbelx⟩
        have hb1 := (hb.keep hbelx).mono hbelx.size
        have hx1 := Bts.of_owns hownx (bytesOf_range u)
        clear hownx
        by_cases hfew : l.length - at' < sz u
        · have hno : Hid (∀ m, ¬ Hit t m) := by
            intro m hm
            obtain ⟨rfl, e⟩ := r_hit hinv HZ.out hz0 hC HU.out hm
            have h2 := congrArg List.length hm.2
            rw [length_bytesOf, List.length_take] at h2
            omega
          go_wp2_with fail
          refine (same_few w1 _ _ l.length cap (sz u) cx at' hl hlt hfew (by omega)).mono ?_
          rintro e w2 ⟨rfl, nq, rfl⟩
          go_wp2
          go_ret3
          exact ⟨⟨_, _, _, rfl, getRel_no l t at' HT.out hlt hno.out⟩, hbelx.trans (below_drewN' _ _ _)⟩
        · have hsm := same_any w1 b off cap cx at' (some ⟨gx, 0, none⟩) l (bytesOf u) hb1 hx1 hl hc (by rw [length_bytesOf]; omega) (by rw [length_bytesOf]; omega)
          rw [length_bytesOf, ← HT.out] at hsm
          by_cases heq : t.take (sz u) = bytesOf u
          · rw [decide_eq_true heq] at hsm
            have hhit : Hid (Hit t u) := (⟨hu1, heq⟩ : Hit t u)
            have hsz : Hid (sz u = k + 1) := (r_hit hinv HZ.out hz0 hC HU.out hhit.out).2
            have hsz1 : (sz u : Int) ≤ (k : Int) + 1 := by have := hsz.out; omega
            have hsz2 : (k : Int) + 1 ≤ (sz u : Int) := by have := hsz.out; omega
            clear heq
            have HSM := hsm
            clear hsm
            go_wp2_with fail
            refine HSM.mono ?_
            rintro e w2 ⟨rfl, nq, rfl⟩
            clear HSM
            go_wp2
            go_ret3
            exact ⟨⟨_, _, _, rfl, by have := getRel_yes l t at' u HT.out hlt hhit.out; rw [hsz.out] at this; rw [show ((at' : Int) + (k : Int) + 1) = (at' : Int) + ((k + 1 : Nat) : Int) by omega]; exact this⟩, hbelx.trans (below_drewN' _ _ _)⟩
          · rw [decide_eq_false heq] at hsm
            have hno : Hid (∀ m, ¬ Hit t m) := by
              intro m hm
              obtain ⟨rfl, e⟩ := r_hit hinv HZ.out hz0 hC HU.out hm
              exact heq hm.2
            clear heq
            have HSM := hsm
            clear hsm
            go_wp2_with fail
            refine HSM.mono ?_
            rintro e w2 ⟨rfl, nq, rfl⟩
            clear HSM
            go_wp2
            go_ret3
            exact ⟨⟨_, _, _, rfl, getRel_no l t at' HT.out hlt hno.out⟩, hbelx.trans (below_drewN' _ _ _)⟩
      · have hst := r_step hinv HZ.out (by omega)
        go_wp2
        go_round
        case rel => exact ⟨_, _, _, _, _, ⟨k + 1, _, by omega, by omega, by go_num, rfl, hst⟩, rfl, rfl, rfl, rfl, rfl⟩
        case measure => simp [intOf]; omega
    · have hno : Hid (∀ m, ¬ Hit t m) := r_end hinv (by omega)
      rcases (show (10 ≤ k ∧ k < t.length) ∨ (t.length ≤ k) by omega) with ⟨hk1, hk2⟩ | hk1
      · go_wp2
        go_ret3
        exact ⟨⟨_, _, _, rfl, getRel_no l t at' HT.out hlt hno.out⟩, Below.refl _ _⟩
      · go_wp2
        go_ret3
        exact ⟨⟨_, _, _, rfl, getRel_no l t at' HT.out hlt hno.out⟩, Below.refl _ _⟩

theorem rget_nil (w : World) (a : Option Addr) (cap : Nat) :
    Calls Try.prog 51 #[.slice a 0 cap, .int .i64 0] w fun e w' => e = .returned (.tuple #[.int .u64 0, .int .i64 0, .int .i64 6]) ∧ w' = w := by
  go_enter Try.func51, Try.ntmps51
  go_wp2
  refine wp_loop_rounds 1 ?_
  rw [rounds_succ]
  go_wp2
  go_ret3
  exact ⟨rfl, rfl⟩

theorem rget_any (w : World) (a : Option Addr) (cap : Nat) (l : List Int) (at' : Int) (hb : Bts w.heap.size w a l) (hc : l.length ≤ cap) (hl : l.length ≤ 1000000000) :
    Calls Try.prog 51 #[.slice a l.length cap, .int .i64 at'] w fun e w' => (∃ n next er : Int, e = .returned (.tuple #[.int .u64 n, .int .i64 next, .int .i64 er]) ∧ GetRel l at' n next er) ∧ Below w.heap.size w w' := by
  by_cases h : at' < 0 ∨ (l.length : Int) < at'
  · exact (rget_out w a l.length cap at' h).mono fun e w' ⟨he, hw⟩ => ⟨⟨0, 0, 9, he, Or.inl ⟨h, rfl, rfl, rfl⟩⟩, by rw [hw]; exact Below.refl _ _⟩
  · obtain ⟨k, rfl⟩ := Int.eq_ofNat_of_zero_le (show 0 ≤ at' by omega)
    by_cases hn : l = []
    · subst hn
      have hk : k = 0 := by simp at h; omega
      subst hk
      refine (rget_nil w a cap).mono fun e w' ⟨he, hw⟩ => ⟨⟨0, 0, 6, he, getRel_no [] [] 0 rfl (by simp) fun m hm => ?_⟩, by rw [hw]; exact Below.refl _ _⟩
      have h2 := congrArg List.length hm.2
      have := sz_pos m
      rw [length_bytesOf] at h2
      simp at h2
      omega
    · obtain ⟨b, off, rfl, _, _⟩ := hb.cells hn
      exact rget_some w b off cap k l hb (by omega) hc hl
end Go.Proofs.Ytgalmkhgbokidaa

namespace Go.Proofs.Ytgalmkhgbokidaa
open Go.RowKit
set_option maxRecDepth 20000
set_option linter.unusedVariables false

/-- The number with a sign that is told as n. -/
def unzig (n : Int) : Int := if n % 2 = 1 then -(n / 2) - 1 else n / 2

theorem and_one (n : Int) (h0 : 0 ≤ n) (h1 : n ≤ 18446744073709551615) : bits .and .u64 n 1 = n % 2 := by
  obtain ⟨m, rfl⟩ := Int.eq_ofNat_of_zero_le h0
  rw [u64_and _ _ (by omega) (by omega) (by omega) (by omega), Int.toNat_natCast, show (1 : Int).toNat = 2 ^ 1 - 1 from rfl, Nat.and_two_pow_sub_one_eq_mod]
  omega

theorem unfold_any (n : Int) (w : World) (h0 : 0 ≤ n) (h1 : n ≤ 18446744073709551615) :
    Calls Try.prog 76 #[.int .u64 n] w fun e w' => e = .returned (.int .i64 (unzig n)) ∧ w' = w := by
  have ha := and_one n h0 h1
  by_cases hodd : n % 2 = 1
  · have e1 : bits .xor .i64 (-1) (n / 2) = unzig n := by rw [not_any _ (by omega) (by omega)]; unfold unzig; rw [if_pos hodd]; omega
    have hb : (n % 2 == 1) = true := by simpa using hodd
    have E1 : Hid (bits .xor .i64 (-1) (n / 2) = unzig n) := e1
    clear e1 hodd
    go_enter Try.func76, Try.ntmps76
    go_wp2
    go_ret
    exact ⟨congrArg Ending.returned (congrArg (Value.int IntKind.i64) E1.out), rfl⟩
  · have e1 : n / 2 = unzig n := by unfold unzig; rw [if_neg hodd]
    have hb : (n % 2 == 1) = false := by simpa using hodd
    have E1 : Hid (n / 2 = unzig n) := e1
    clear e1 hodd
    go_enter Try.func76, Try.ntmps76
    go_wp2
    go_ret
    exact ⟨congrArg Ending.returned (congrArg (Value.int IntKind.i64) E1.out), rfl⟩

theorem getInt_any (w : World) (a : Option Addr) (cap : Nat) (l : List Int) (at' : Int) (hb : Bts w.heap.size w a l) (hc : l.length ≤ cap) (hl : l.length ≤ 1000000000) :
    Calls Try.prog 63 #[.slice a l.length cap, .int .i64 at'] w fun e w' => (∃ n next er : Int, e = .returned (.tuple #[.int .i64 (unzig n), .int .i64 next, .int .i64 er]) ∧ GetRel l at' n next er) ∧ w' = w := by
  go_enter Try.func63, Try.ntmps63
  go_wp2_with fail
  refine (get_any w a cap l at' hb hc hl).mono ?_
  rintro e w' ⟨⟨n, next, er, rfl, hrel⟩, rfl⟩
  have hr := hrel.range
  by_cases her : er = 0
  · subst her
    go_wp2_with fail
    refine (unfold_any n w' hr.1 hr.2.1).mono ?_
    rintro e w1 ⟨rfl, rfl⟩
    go_wp2
    go_ret3
    exact ⟨⟨n, next, 0, rfl, hrel⟩, rfl⟩
  · have hne : (er != 0) = true := by simpa using her
    have H : Hid (n = 0 ∧ next = 0) := hrel.no her
    go_wp2
    go_ret3
    have hH := H.out
    obtain ⟨rfl, rfl⟩ := hH
    exact ⟨⟨0, 0, er, rfl, hrel⟩, rfl⟩

theorem rgetInt_any (w : World) (a : Option Addr) (cap : Nat) (l : List Int) (at' : Int) (hb : Bts w.heap.size w a l) (hc : l.length ≤ cap) (hl : l.length ≤ 1000000000) :
    Calls Try.prog 70 #[.slice a l.length cap, .int .i64 at'] w fun e w' => (∃ n next er : Int, e = .returned (.tuple #[.int .i64 (unzig n), .int .i64 next, .int .i64 er]) ∧ GetRel l at' n next er) ∧ Below w.heap.size w w' := by
  go_enter Try.func70, Try.ntmps70
  go_wp2_with fail
  refine (rget_any w a cap l at' hb hc hl).mono ?_
  rintro e w' ⟨⟨n, next, er, rfl, hrel⟩, hbel⟩
  obtain ⟨r0, r1, r2⟩ := hrel.range
  by_cases hodd : n % 2 = 1
  · have e1 : -(n / 2) - 1 = unzig n := by unfold unzig; rw [if_pos hodd]
    have hb1 : (n % 2 == 1) = true := by simpa using hodd
    have E1 : Hid (-(n / 2) - 1 = unzig n) := e1
    clear e1 hodd
    go_wp2
    go_ret3
    exact ⟨⟨n, next, er, by rw [← E1.out]; rfl, hrel⟩, hbel⟩
  · have e1 : n / 2 = unzig n := by unfold unzig; rw [if_neg hodd]
    have hb1 : (n % 2 == 1) = false := by simpa using hodd
    have E1 : Hid (n / 2 = unzig n) := e1
    clear e1 hodd
    go_wp2
    go_ret3
    exact ⟨⟨n, next, er, by rw [← E1.out]; rfl, hrel⟩, hbel⟩

theorem unzig_zig (n : Int) : unzig (zig n) = n := by
  unfold unzig zig
  by_cases h : n < 0
  · rw [if_pos h, if_pos (by omega)]; omega
  · rw [if_neg h, if_neg (by omega)]; omega

theorem signed_any (n : Int) (w : World) (h0 : -9223372036854775808 ≤ n) (h1 : n ≤ 9223372036854775807) :
    Calls Try.prog 69 #[.int .i64 n] w fun e w' => e = .returned (.int .u64 (zig n)) ∧ w' = w := by
  by_cases hneg : n < 0
  · have e : 2 * (-(n + 1)) + 1 = zig n := by unfold zig; rw [if_pos hneg]; omega
    have E1 : Hid (2 * (-(n + 1)) + 1 = zig n) := e
    clear e
    go_enter Try.func69, Try.ntmps69
    go_wp2
    go_ret
    exact ⟨congrArg Ending.returned (congrArg (Value.int IntKind.u64) E1.out), rfl⟩
  · have e : 2 * n = zig n := by unfold zig; rw [if_neg hneg]
    have E1 : Hid (2 * n = zig n) := e
    clear e
    go_enter Try.func69, Try.ntmps69
    go_wp2
    go_ret
    exact ⟨congrArg Ending.returned (congrArg (Value.int IntKind.u64) E1.out), rfl⟩

end Go.Proofs.Ytgalmkhgbokidaa

namespace Go.Proofs.Ytgalmkhgbokidaa
open Go.RowKit
set_option maxRecDepth 20000
set_option linter.unusedVariables false

/-- What GetText answers. -/
def TextRel (l : List Int) (at' most : Int) (s : List Int) (next er : Int) : Prop :=
  (most < 0 ∧ s = [] ∧ next = 0 ∧ er = 1) ∨
  (0 ≤ most ∧ ∃ n fr e0, GetRel l at' n fr e0 ∧
    ((e0 ≠ 0 ∧ s = [] ∧ next = 0 ∧ er = e0) ∨ (e0 = 0 ∧ most < n ∧ s = [] ∧ next = 0 ∧ er = 2) ∨ (e0 = 0 ∧ n ≤ most ∧ (l.length : Int) - fr < n ∧ s = [] ∧ next = 0 ∧ er = 6) ∨
     (e0 = 0 ∧ n ≤ most ∧ n ≤ (l.length : Int) - fr ∧ s = (l.drop fr.toNat).take n.toNat ∧ next = fr + n ∧ er = 0)))

theorem TextRel.uniq {l s s' : List Int} {at' most next er next' er' : Int} (h : TextRel l at' most s next er) (k : TextRel l at' most s' next' er') : s = s' ∧ next = next' ∧ er = er' := by
  rcases h with ⟨h0, rfl, rfl, rfl⟩ | ⟨h0, n, fr, e0, hr, h⟩ <;> rcases k with ⟨k0, rfl, rfl, rfl⟩ | ⟨k0, n', fr', e0', kr, k⟩
  · exact ⟨rfl, rfl, rfl⟩
  · omega
  · omega
  · obtain ⟨rfl, rfl, rfl⟩ := hr.uniq kr
    rcases h with ⟨h1, rfl, rfl, rfl⟩ | ⟨h1, h2, rfl, rfl, rfl⟩ | ⟨h1, h2, h3, rfl, rfl, rfl⟩ | ⟨h1, h2, h3, rfl, rfl, rfl⟩ <;>
      rcases k with ⟨k1, rfl, rfl, rfl⟩ | ⟨k1, k2, rfl, rfl, rfl⟩ | ⟨k1, k2, k3, rfl, rfl, rfl⟩ | ⟨k1, k2, k3, rfl, rfl, rfl⟩ <;>
      first | exact ⟨rfl, rfl, rfl⟩ | omega

theorem conv_empty (w : World) (x : Option Addr) (c : Nat) : (convert 22 9 (.slice x 0 c)).run Try.prog w = .ok (.string (strOfNums [])) w := (Bts.nil 0 w x).conv 0 c rfl

set_option maxHeartbeats 1000000 in
theorem getText_any (w : World) (a : Option Addr) (cap : Nat) (l : List Int) (at' most : Int) (hb : Bts w.heap.size w a l) (hc : l.length ≤ cap) (hl : l.length ≤ 1000000000) (hm : most ≤ 9223372036854775807) :
    Calls Try.prog 77 #[.slice a l.length cap, .int .i64 at', .int .i64 most] w fun e w' => (∃ s next er, e = .returned (.tuple #[.string (strOfNums s), .int .i64 next, .int .i64 er]) ∧ TextRel l at' most s next er) ∧ w' = w := by
  by_cases hneg : most < 0
  · go_enter Try.func77, Try.ntmps77
    go_wp2
    go_ret3
    exact ⟨⟨[], 0, 1, rfl, Or.inl ⟨hneg, rfl, rfl, rfl⟩⟩, rfl⟩
  · go_enter Try.func77, Try.ntmps77
    go_wp2_with fail
    refine (get_any w a cap l at' hb hc hl).mono ?_
    rintro e w' ⟨⟨n, fr, er, rfl, hrel⟩, rfl⟩
    by_cases her : er = 0
    · subst her
      obtain ⟨g0, g1, g2, _, g4, g5, hne⟩ := hrel.yes
      have hfr : 0 ≤ fr := by omega
      clear g4
      by_cases hlong : most < n
      · go_wp2
        go_ret3
        exact ⟨⟨[], 0, 2, rfl, Or.inr ⟨by omega, n, fr, 0, hrel, Or.inr (Or.inl ⟨rfl, hlong, rfl, rfl, rfl⟩)⟩⟩, rfl⟩
      · by_cases hfew : (l.length : Int) - fr < n
        · go_wp2
          go_ret3
          exact ⟨⟨[], 0, 6, rfl, Or.inr ⟨by omega, n, fr, 0, hrel, Or.inr (Or.inr (Or.inl ⟨rfl, by omega, hfew, rfl, rfl, rfl⟩))⟩⟩, rfl⟩
        · obtain ⟨b, off, rfl, _, _⟩ := hb.cells hne
          obtain ⟨f, rfl⟩ := Int.eq_ofNat_of_zero_le hfr
          obtain ⟨k, rfl⟩ := Int.eq_ofNat_of_zero_le g1
          have hp := hb.part f k
          have hpl : ((l.drop f).take k).length = k := by simp; omega
          have hrl : TextRel l at' most ((l.drop f).take k) ((f : Int) + k) 0 := Or.inr ⟨by omega, k, f, 0, hrel, Or.inr (Or.inr (Or.inr ⟨rfl, by omega, by omega, by simp, rfl, rfl⟩))⟩
          clear hrel
          generalize (l.drop f).take k = y at *
          by_cases hk0 : k = 0
          · subst hk0
            have hy : y = [] := List.eq_nil_of_length_eq_zero hpl
            subst hy
            have hcv := conv_empty w'
            clear hp hpl hb hne
            go_wp2
            all_goals go_ret3
            all_goals exact ⟨⟨[], _, 0, rfl, hrl⟩, rfl⟩
          · have hcv := hp.conv k (cap - f) hpl
            have hfc : ¬ f = cap := by omega
            clear hp hpl hb hne
            go_wp2
            go_ret3
            exact ⟨⟨y, _, 0, rfl, hrl⟩, rfl⟩
    · have hne : (er != 0) = true := by simpa using her
      go_wp2
      go_ret3
      exact ⟨⟨[], 0, er, rfl, Or.inr ⟨by omega, n, fr, er, hrel, Or.inl ⟨her, rfl, rfl, rfl⟩⟩⟩, rfl⟩

set_option maxHeartbeats 1000000 in
theorem rgetText_any (w : World) (a : Option Addr) (cap : Nat) (l : List Int) (at' most : Int) (hb : Bts w.heap.size w a l) (hc : l.length ≤ cap) (hl : l.length ≤ 1000000000) (hm : most ≤ 9223372036854775807) :
    Calls Try.prog 45 #[.slice a l.length cap, .int .i64 at', .int .i64 most] w fun e w' => (∃ s next er, e = .returned (.tuple #[.string (strOfNums s), .int .i64 next, .int .i64 er]) ∧ TextRel l at' most s next er) ∧ Below w.heap.size w w' := by
  by_cases hneg : most < 0
  · go_enter Try.func45, Try.ntmps45
    go_wp2
    go_ret3
    exact ⟨⟨[], 0, 1, rfl, Or.inl ⟨hneg, rfl, rfl, rfl⟩⟩, Below.refl _ _⟩
  · go_enter Try.func45, Try.ntmps45
    go_wp2_with fail
    refine (rget_any w a cap l at' hb hc hl).mono ?_
    rintro e w' ⟨⟨n, fr, er, rfl, hrel⟩, hbel⟩
    have hb := (hb.keep hbel).mono hbel.size
    by_cases her : er = 0
    · subst her
      obtain ⟨g0, g1, g2, _, g4, g5, hne⟩ := hrel.yes
      have hfr : 0 ≤ fr := by omega
      clear g4
      by_cases hlong : most < n
      · go_wp2
        go_ret3
        exact ⟨⟨[], 0, 2, rfl, Or.inr ⟨by omega, n, fr, 0, hrel, Or.inr (Or.inl ⟨rfl, hlong, rfl, rfl, rfl⟩)⟩⟩, hbel⟩
      · by_cases hfew : (l.length : Int) - fr < n
        · go_wp2
          go_ret3
          exact ⟨⟨[], 0, 6, rfl, Or.inr ⟨by omega, n, fr, 0, hrel, Or.inr (Or.inr (Or.inl ⟨rfl, by omega, hfew, rfl, rfl, rfl⟩))⟩⟩, hbel⟩
        · obtain ⟨b, off, rfl, _, _⟩ := hb.cells hne
          obtain ⟨f, rfl⟩ := Int.eq_ofNat_of_zero_le hfr
          obtain ⟨k, rfl⟩ := Int.eq_ofNat_of_zero_le g1
          have hp := hb.part f k
          have hpl : ((l.drop f).take k).length = k := by simp; omega
          have hrl : TextRel l at' most ((l.drop f).take k) ((f : Int) + k) 0 := Or.inr ⟨by omega, k, f, 0, hrel, Or.inr (Or.inr (Or.inr ⟨rfl, by omega, by omega, by simp, rfl, rfl⟩))⟩
          clear hrel
          generalize (l.drop f).take k = y at *
          by_cases hk0 : k = 0
          · subst hk0
            have hy : y = [] := List.eq_nil_of_length_eq_zero hpl
            subst hy
            have hcv := conv_empty w'
            clear hp hpl hb hne
            go_wp2
            all_goals go_ret3
            all_goals exact ⟨⟨[], _, 0, rfl, hrl⟩, hbel⟩
          · have hcv := hp.conv k (cap - f) hpl
            have hfc : ¬ f = cap := by omega
            clear hp hpl hb hne
            go_wp2
            go_ret3
            exact ⟨⟨y, _, 0, rfl, hrl⟩, hbel⟩
    · have hne : (er != 0) = true := by simpa using her
      go_wp2
      go_ret3
      exact ⟨⟨[], 0, er, rfl, Or.inr ⟨by omega, n, fr, er, hrel, Or.inl ⟨her, rfl, rfl, rfl⟩⟩⟩, hbel⟩

end Go.Proofs.Ytgalmkhgbokidaa

namespace Go.Proofs.Ytgalmkhgbokidaa
open Go.RowKit
set_option maxRecDepth 20000
set_option linter.unusedVariables false

/-- A text's bytes as numbers. -/
def nums (s : ByteArray) : List Int := s.data.toList.map fun b => (b.toNat : Int)

theorem nums_length (s : ByteArray) : (nums s).length = s.size := by
  rw [nums, List.length_map, Array.length_toList]; rfl

theorem nums_range (s : ByteArray) : ∀ z ∈ nums s, 0 ≤ z ∧ z < 256 := by
  intro z hz
  simp only [nums, List.mem_map] at hz
  obtain ⟨b, _, rfl⟩ := hz
  have := b.toNat_lt
  omega

theorem strCells_nums (s : ByteArray) : Lib.strCells s = B8 (nums s) := by
  simp [Lib.strCells, B8, nums]

theorem str_nums (s : ByteArray) : strOfNums (nums s) = s := by
  apply ByteArray.ext
  apply Array.ext'
  rw [strOfNums_data, nums, List.map_map]
  conv => rhs; rw [← List.map_id s.data.toList]
  apply List.map_congr_left
  intro b _
  simp

set_option maxHeartbeats 1000000 in
theorem putText_any (w : World) (a : Option Addr) (cap : Nat) (l : List Int) (s : ByteArray) (hb : Bts w.heap.size w a l) (hl : l.length ≤ 1000000) (hs : s.size ≤ 1000000) :
    Calls Try.prog 57 #[.slice a l.length cap, .string s] w fun e w' => ∃ g c, e = .returned (.slice (some ⟨g, 0, none⟩) (l.length + sz s.size + s.size) c) ∧ l.length + sz s.size + s.size ≤ c ∧
      Bts w'.heap.size w' (some ⟨g, 0, none⟩) (l ++ (bytesOf s.size ++ nums s)) ∧ Below w.heap.size w w' := by
  obtain ⟨i0, hi, hz0, hz1, hz2⟩ := info_parts Try.info5
  have hs10 := sz_le_ten s.size (by omega)
  have hput := put_any w a cap l (s.size : Int) hb (by omega) (by omega) (by omega)
  rw [Int.toNat_natCast] at hput
  have HP := hid hput
  clear hput
  go_enter Try.func57, Try.ntmps57
  go_wp2_with fail
  refine HP.out.mono ?_
  clear HP
  rintro e w2 ⟨g, c, rfl, hown, hbel⟩
  have hz := hbel.size
  go_wp2_with (first
    | (at_builtin; refine Lib.wpList_append_own_string _ rfl (.tmp 9) (.tmp 10) 22 9 rfl w.heap.size 5 i0 Try.underlying22 Try.underlying9 hi hz0 hz1 hz2 (.slice (some ⟨g, 0, none⟩) (l.length + sz s.size) c) _ _ rfl hown s rfl (by unfold maxLen; omega) (by omega) hz ?_; intro v3 w3 hown3 hgrow3 hnil3))
  rw [strCells_nums, ← B8_append, List.append_assoc] at hown3
  have hg : Value.ownBlock (.slice (some ⟨g, 0, none⟩) (l.length + sz s.size) c) = some g := rfl
  rw [hg] at hgrow3
  have hlt := hown.lt g rfl
  have hbel3 := hbel.grown hgrow3 hz (fun k hk => by cases hk; exact hlt.1)
  have hr : ∀ z ∈ l ++ (bytesOf s.size ++ nums s), 0 ≤ z ∧ z < 256 := by
    intro z hzz
    rcases List.mem_append.1 hzz with h | h
    · exact hb.range z h
    · rcases List.mem_append.1 h with h | h
      · exact bytesOf_range _ z h
      · exact nums_range s z h
  rcases hown3.2 with ⟨h, _⟩ | ⟨g', cap', cur, hv, _, _, hcap, _⟩
  · exact absurd (hnil3.1 h).1 (by simp)
  · subst hv
    have hbt := Bts.of_owns hown3 hr
    clear hown3 hgrow3 hnil3 hown hbel
    go_wp2
    go_ret
    exact ⟨g', cap', rfl, hcap, hbt, hbel3⟩

/-- A slice in new memory that reads as l. -/
def NewIs (l : List Int) : Value → World → Prop := fun v w => ∃ g c, v = .slice (some ⟨g, 0, none⟩) l.length c ∧ Bts w.heap.size w (some ⟨g, 0, none⟩) l

set_option maxHeartbeats 1000000 in
theorem text_new (w : World) (s : ByteArray) (hs : s.size ≤ 1000000) :
    Calls Try.prog 41 #[.string s] w fun e w' => ∃ v, e = .returned v ∧ Below w.heap.size w w' ∧ NewIs (bytesOf s.size ++ nums s) v w' := by
  obtain ⟨i0, hi, hz0, hz1, hz2⟩ := info_parts Try.info5
  have hs10 := sz_le_ten s.size (by omega)
  go_enter Try.func41, Try.ntmps41
  go_wp2_with fail
  refine (bytes_any w s.size (by omega)).mono ?_
  rintro e w2 ⟨g, c, rfl, hown, hbel⟩
  have hz := hbel.size
  go_wp2_with (first
    | (at_builtin; refine Lib.wpList_append_own_string _ rfl (.tmp 6) (.tmp 7) 22 9 rfl w.heap.size 5 i0 Try.underlying22 Try.underlying9 hi hz0 hz1 hz2 (.slice (some ⟨g, 0, none⟩) (sz s.size) c) _ _ rfl hown s rfl (by unfold maxLen; omega) (by omega) hz ?_; intro v3 w3 hown3 hgrow3 hnil3))
  rw [strCells_nums, ← B8_append] at hown3
  have hg : Value.ownBlock (.slice (some ⟨g, 0, none⟩) (sz s.size) c) = some g := rfl
  rw [hg] at hgrow3
  have hlt := hown.lt g rfl
  have hbel3 := hbel.grown hgrow3 hz (fun k hk => by cases hk; exact hlt.1)
  have hr : ∀ z ∈ bytesOf s.size ++ nums s, 0 ≤ z ∧ z < 256 := by
    intro z hzz
    rcases List.mem_append.1 hzz with h | h
    · exact bytesOf_range _ z h
    · exact nums_range s z h
  rcases hown3.2 with ⟨h, _⟩ | ⟨g', cap', cur, hv, _, _, hcap, _⟩
  · exact absurd (hnil3.1 h).1 (by simp)
  · subst hv
    have hbt := Bts.of_owns hown3 hr
    clear hown3 hgrow3 hnil3 hown hbel
    go_wp2
    go_ret
    exact ⟨_, rfl, hbel3, g', cap', by rw [List.length_append, length_bytesOf, nums_length]; rfl, hbt⟩

end Go.Proofs.Ytgalmkhgbokidaa
