/-
  What is proved here: the document's own Get answers what is asked of num.Get; it writes nothing that was there.
-/
import Derived.Test.YtgalmkhgbokidaaBytes
import Derived.Test.YtgalmkhgbokidaaGet
import Derived.Test.YtgalmkhgbokidaaStrs
import Derived.Deep.QuietTactic
import Derived.BigQuiet
namespace Go.Proofs.Ytgalmkhgbokidaa
open Go.RowKit
set_option maxRecDepth 20000
set_option linter.unusedVariables false

theorem below_drewN' (w : World) (n B : Nat) : Below B w (w.drewN n) := ⟨rfl, rfl, rfl, Nat.le_refl _, fun _ _ => rfl⟩

/-- Too few bytes are left. -/
theorem same_few (w : World) (a a2 : Option Addr) (len cap n cap2 k : Nat) (hl : len ≤ 1000000000) (hk : k ≤ len) (hn : len - k < n) (hn2 : n ≤ 1000000000) :
    Calls Try.prog 71 #[.slice a len cap, .int .i64 (k : Int), .slice a2 n cap2] w fun e w' => e = .returned (.bool false) ∧ ∃ nq, w' = w.drewN nq := by
  have hd : decide ((n : Int) ≤ (len : Int) - (k : Int)) = false := by simp; omega
  go_enter Try.func71, Try.ntmps71
  go_wp2
  go_quiet (fail)
  go_wp2
  go_ret
  exact ⟨rfl, _, rfl⟩

/-- Enough are left. -/
theorem same_any (w : World) (b off cap cap2 k : Nat) (a2 : Option Addr) (l x : List Int) (hb : Bts w.heap.size w (some ⟨b, off, none⟩) l) (hx : Bts w.heap.size w a2 x) (hl : l.length ≤ 1000000000) (hc : l.length ≤ cap) (hk : k + x.length ≤ l.length) (h0 : 0 < x.length) :
    Calls Try.prog 71 #[.slice (some ⟨b, off, none⟩) l.length cap, .int .i64 (k : Int), .slice a2 x.length cap2] w fun e w' => e = .returned (.bool (decide ((l.drop k).take x.length = x))) ∧ ∃ nq, w' = w.drewN nq := by
  have hp := hb.part k x.length
  have hpl : ((l.drop k).take x.length).length = x.length := by simp; omega
  have c1 : ∀ nq, (convert 22 9 (.slice (some ⟨b, off + k, none⟩) x.length (cap - k))).run Try.prog (w.drewN nq) = .ok (.string (strOfNums ((l.drop k).take x.length))) (w.drewN nq) :=
    fun nq => (hp.keep (below_drewN' w nq _)).conv x.length (cap - k) hpl
  have c2 : ∀ nq, (convert 22 9 (.slice a2 x.length cap2)).run Try.prog (w.drewN nq) = .ok (.string (strOfNums x)) (w.drewN nq) :=
    fun nq => (hx.keep (below_drewN' w nq _)).conv x.length cap2 rfl
  have he := str_eq_of ((l.drop k).take x.length) x hp.range hx.range
  have hd : (x.length : Int) ≤ (l.length : Int) - (k : Int) := by omega
  generalize (l.drop k).take x.length = y at *
  generalize x.length = n at *
  generalize l.length = len at *
  have hk0 : (0 : Int) ≤ (k : Int) := by omega
  have hkc : (k : Int) + (n : Int) ≤ (cap : Int) := by omega
  have hkl : (k : Int) ≤ (k : Int) + (n : Int) := by omega
  have hkn : ¬ k = cap := by omega
  clear hb hx hp hpl
  go_enter Try.func71, Try.ntmps71
  go_wp2
  go_quiet (fail)
  go_wp2
  go_ret
  exact ⟨rfl, _, rfl⟩

theorem rget_out (w : World) (a : Option Addr) (len cap : Nat) (at' : Int) (h : at' < 0 ∨ (len : Int) < at') :
    Calls Try.prog 51 #[.slice a len cap, .int .i64 at'] w fun e w' => e = .returned (.tuple #[.int .u64 0, .int .i64 0, .int .i64 9]) ∧ w' = w := by
  rcases h with h | h
  · go_enter Try.func51, Try.ntmps51
    go_wp2
    go_ret3
    exact ⟨rfl, rfl⟩
  · by_cases h0 : at' < 0
    · go_enter Try.func51, Try.ntmps51
      go_wp2
      go_ret3
      exact ⟨rfl, rfl⟩
    · go_enter Try.func51, Try.ntmps51
      go_wp2
      go_ret3
      exact ⟨rfl, rfl⟩

/-- What holds behind k rounds. -/
structure RInv (t : List Int) (k : Nat) (v : Int) : Prop where
  v0 : 0 ≤ v
  v1 : v ≤ 18446744073709551615
  sum : v = ((val (t.take k) 0 : Nat) : Int) % 18446744073709551616
  big : ∀ j z, j < k → t[j]? = some z → 128 ≤ z

theorem r_step {t : List Int} {k : Nat} {v z : Int} (h : RInv t k v) (hz : t[k]? = some z) (h0 : 128 ≤ z) : RInv t (k + 1) (IntKind.u64.wrap (IntKind.u64.wrap (v * 128) + z % 128)) := by
  have hs := h.sum
  refine ⟨?_, ?_, ?_, fun j x hj hx => ?_⟩
  · rw [IntKind.wrap_u64]; omega
  · rw [IntKind.wrap_u64]; omega
  · rw [IntKind.wrap_u64, IntKind.wrap_u64, take_val_succ t k z hz]; omega
  · rcases Nat.lt_or_ge j k with hh | hh
    · exact h.big j x hh hx
    · have e : j = k := by omega
      subst e
      rw [hz] at hx; cases hx; exact h0

/-- Only what was reckoned can be told. -/
theorem r_hit {t : List Int} {k u m : Nat} {v z : Int} (h : RInv t k v) (hz : t[k]? = some z) (h0 : 0 ≤ z) (h1 : z < 128) (hu : IntKind.u64.wrap (IntKind.u64.wrap (v * 128) + z % 128) = (u : Int)) (hm : Hit t m) : m = u ∧ sz m = k + 1 := by
  have hs := h.sum
  have e1 := hm.len_eq h.big hz h1
  have e2 := hm.val
  rw [e1, take_val_succ t k z hz] at e2
  have e3 := hm.1
  refine ⟨?_, e1⟩
  rw [IntKind.wrap_u64, IntKind.wrap_u64] at hu
  omega

theorem r_end {t : List Int} {k : Nat} {v : Int} (h : RInv t k v) (hk : t.length ≤ k ∨ 10 ≤ k) (m : Nat) : ¬ Hit t m := by
  intro hm
  have h1 := hm.len h.big
  have h2 := congrArg List.length hm.2
  have h3 := sz_le_ten m hm.1
  rw [length_bytesOf, List.length_take] at h2
  omega

theorem getRel_no (l t : List Int) (at' : Nat) (ht : t = l.drop at') (h : at' ≤ l.length) (hn : ∀ m, ¬ Hit t m) : GetRel l at' 0 0 6 :=
  Or.inr (Or.inr ⟨by omega, by omega, by rw [Int.toNat_natCast, ← ht]; exact hn, rfl, rfl, rfl⟩)

theorem getRel_yes (l t : List Int) (at' u : Nat) (ht : t = l.drop at') (h : at' ≤ l.length) (hn : Hit t u) : GetRel l at' u ((at' : Int) + sz u) 0 :=
  Or.inr (Or.inl ⟨by omega, by omega, by omega, by rw [Int.toNat_natCast, Int.toNat_natCast, ← ht]; exact hn, by simp, rfl⟩)

def RLoop (t : List Int) (at' : Nat) (n i : Value) : Prop := ∃ (k : Nat) (v : Int), k ≤ t.length ∧ k ≤ 10 ∧ i = .int .i64 (((at' + k : Nat) : Int)) ∧ n = .int .u64 v ∧ RInv t k v

set_option maxHeartbeats 2000000 in
theorem rget_some (w : World) (b off cap at' : Nat) (l : List Int) (hb : Bts w.heap.size w (some ⟨b, off, none⟩) l) (hlt : at' ≤ l.length) (hc : l.length ≤ cap) (hl : l.length ≤ 1000000000) :
    Calls Try.prog 51 #[.slice (some ⟨b, off, none⟩) l.length cap, .int .i64 (at' : Int)] w fun e w' => (∃ n next er : Int, e = .returned (.tuple #[.int .u64 n, .int .i64 next, .int .i64 er]) ∧ GetRel l at' n next er) ∧ Below w.heap.size w w' := by
  obtain ⟨t, ht⟩ : ∃ t, t = l.drop at' := ⟨_, rfl⟩
  have HT : Hid (t = l.drop at') := ht
  have htl : t.length = l.length - at' := by rw [ht]; simp
  clear ht
  go_enter Try.func51, Try.ntmps51
  go_wp2
  go_loop [7, 8] (fun n i => RLoop t at' n i) (fun _ i => l.length - (intOf i).toNat)
  case atStart => exact ⟨0, 0, Nat.zero_le _, by omega, rfl, rfl, ⟨by omega, by omega, rfl, fun j z h => by omega⟩⟩
  case round =>
    obtain ⟨k, v, hk, hk10, rfl, rfl, hinv⟩ := hrel
    have hv0 := hinv.v0
    have hv1 := hinv.v1
    by_cases hkt : k < t.length ∧ k < 10
    · obtain ⟨hkt, hkt10⟩ := hkt
      obtain ⟨z, hz⟩ : ∃ z, z = t.getD k 0 := ⟨_, rfl⟩
      have hzr : 0 ≤ z ∧ z < 256 := by
        have : t.getD k 0 = t[k] := by simp [List.getD, List.getElem?_eq_getElem hkt]
        rw [hz, this]
        have hm : t[k] ∈ t := List.getElem_mem hkt
        have ht2 : ∀ z ∈ t, 0 ≤ z ∧ z < 256 := by rw [HT.out]; exact fun z hz => hb.range z (List.mem_of_mem_drop hz)
        exact ht2 _ hm
      have hzc : w.cell? ⟨b, off + (at' + k), none⟩ = some (.int .u8 z) := by
        obtain ⟨b', off', e, _, hcell⟩ := hb.cells (by intro e; have hh := htl; rw [e, List.length_nil] at hh; omega)
        cases e
        rw [hcell (at' + k) (by omega), hz, HT.out]
        simp [List.getD]
      have HZ : Hid (t[k]? = some z) := getD_some hkt hz
      clear hz
      obtain ⟨hz0, hz1⟩ := hzr
      by_cases hC : z < 128
      · obtain ⟨u, hu⟩ : ∃ u : Nat, IntKind.u64.wrap (IntKind.u64.wrap (v * 128) + z % 128) = (u : Int) := by
          rw [IntKind.wrap_u64]; exact ⟨_, (Int.toNat_of_nonneg (by omega)).symm⟩
        have hu1 : u < 18446744073709551616 := by rw [IntKind.wrap_u64] at hu; omega
        have HU : Hid (IntKind.u64.wrap (IntKind.u64.wrap (v * 128) + z % 128) = (u : Int)) := hu
        have hsu := sz_le_ten u hu1
        have hsp := sz_pos u
        clear hu
        go_wp2_with fail
        rw [HU.out]
        refine (bytes_any w u hu1).mono ?_
        rintro e w1 ⟨gx, cx, rfl, hownx, hbelx⟩
        have hb1 := (hb.keep hbelx).mono hbelx.size
        have hx1 := Bts.of_owns hownx (bytesOf_range u)
        clear hownx
        by_cases hfew : l.length - at' < sz u
        · have hno : Hid (∀ m, ¬ Hit t m) := by
            intro m hm
            obtain ⟨rfl, e⟩ := r_hit hinv HZ.out hz0 hC HU.out hm
            have h2 := congrArg List.length hm.2
            rw [length_bytesOf, List.length_take] at h2
            omega
          go_wp2_with fail
          refine (same_few w1 _ _ l.length cap (sz u) cx at' hl hlt hfew (by omega)).mono ?_
          rintro e w2 ⟨rfl, nq, rfl⟩
          go_wp2
          go_ret3
          exact ⟨⟨_, _, _, rfl, getRel_no l t at' HT.out hlt hno.out⟩, hbelx.trans (below_drewN' _ _ _)⟩
        · have hsm := same_any w1 b off cap cx at' (some ⟨gx, 0, none⟩) l (bytesOf u) hb1 hx1 hl hc (by rw [length_bytesOf]; omega) (by rw [length_bytesOf]; omega)
          rw [length_bytesOf, ← HT.out] at hsm
          by_cases heq : t.take (sz u) = bytesOf u
          · rw [decide_eq_true heq] at hsm
            have hhit : Hid (Hit t u) := (⟨hu1, heq⟩ : Hit t u)
            have hsz : Hid (sz u = k + 1) := (r_hit hinv HZ.out hz0 hC HU.out hhit.out).2
            have hsz1 : (sz u : Int) ≤ (k : Int) + 1 := by have := hsz.out; omega
            have hsz2 : (k : Int) + 1 ≤ (sz u : Int) := by have := hsz.out; omega
            clear heq
            have HSM := hsm
            clear hsm
            go_wp2_with fail
            refine HSM.mono ?_
            rintro e w2 ⟨rfl, nq, rfl⟩
            clear HSM
            go_wp2
            go_ret3
            exact ⟨⟨_, _, _, rfl, by have := getRel_yes l t at' u HT.out hlt hhit.out; rw [hsz.out] at this; rw [show ((at' : Int) + (k : Int) + 1) = (at' : Int) + ((k + 1 : Nat) : Int) by omega]; exact this⟩, hbelx.trans (below_drewN' _ _ _)⟩
          · rw [decide_eq_false heq] at hsm
            have hno : Hid (∀ m, ¬ Hit t m) := by
              intro m hm
              obtain ⟨rfl, e⟩ := r_hit hinv HZ.out hz0 hC HU.out hm
              exact heq hm.2
            clear heq
            have HSM := hsm
            clear hsm
            go_wp2_with fail
            refine HSM.mono ?_
            rintro e w2 ⟨rfl, nq, rfl⟩
            clear HSM
            go_wp2
            go_ret3
            exact ⟨⟨_, _, _, rfl, getRel_no l t at' HT.out hlt hno.out⟩, hbelx.trans (below_drewN' _ _ _)⟩
      · have hst := r_step hinv HZ.out (by omega)
        go_wp2
        go_round
        case rel => exact ⟨_, _, _, _, _, ⟨k + 1, _, by omega, by omega, by go_num, rfl, hst⟩, rfl, rfl, rfl, rfl, rfl⟩
        case measure => simp [intOf]; omega
    · have hno : Hid (∀ m, ¬ Hit t m) := r_end hinv (by omega)
      rcases (show (10 ≤ k ∧ k < t.length) ∨ (t.length ≤ k) by omega) with ⟨hk1, hk2⟩ | hk1
      · go_wp2
        go_ret3
        exact ⟨⟨_, _, _, rfl, getRel_no l t at' HT.out hlt hno.out⟩, Below.refl _ _⟩
      · go_wp2
        go_ret3
        exact ⟨⟨_, _, _, rfl, getRel_no l t at' HT.out hlt hno.out⟩, Below.refl _ _⟩

theorem rget_nil (w : World) (a : Option Addr) (cap : Nat) :
    Calls Try.prog 51 #[.slice a 0 cap, .int .i64 0] w fun e w' => e = .returned (.tuple #[.int .u64 0, .int .i64 0, .int .i64 6]) ∧ w' = w := by
  go_enter Try.func51, Try.ntmps51
  go_wp2
  refine wp_loop_rounds 1 ?_
  rw [rounds_succ]
  go_wp2
  go_ret3
  exact ⟨rfl, rfl⟩

theorem rget_any (w : World) (a : Option Addr) (cap : Nat) (l : List Int) (at' : Int) (hb : Bts w.heap.size w a l) (hc : l.length ≤ cap) (hl : l.length ≤ 1000000000) :
    Calls Try.prog 51 #[.slice a l.length cap, .int .i64 at'] w fun e w' => (∃ n next er : Int, e = .returned (.tuple #[.int .u64 n, .int .i64 next, .int .i64 er]) ∧ GetRel l at' n next er) ∧ Below w.heap.size w w' := by
  by_cases h : at' < 0 ∨ (l.length : Int) < at'
  · exact (rget_out w a l.length cap at' h).mono fun e w' ⟨he, hw⟩ => ⟨⟨0, 0, 9, he, Or.inl ⟨h, rfl, rfl, rfl⟩⟩, by rw [hw]; exact Below.refl _ _⟩
  · obtain ⟨k, rfl⟩ := Int.eq_ofNat_of_zero_le (show 0 ≤ at' by omega)
    by_cases hn : l = []
    · subst hn
      have hk : k = 0 := by simp at h; omega
      subst hk
      refine (rget_nil w a cap).mono fun e w' ⟨he, hw⟩ => ⟨⟨0, 0, 6, he, getRel_no [] [] 0 rfl (by simp) fun m hm => ?_⟩, by rw [hw]; exact Below.refl _ _⟩
      have h2 := congrArg List.length hm.2
      have := sz_pos m
      rw [length_bytesOf] at h2
      simp at h2
      omega
    · obtain ⟨b, off, rfl, _, _⟩ := hb.cells hn
      exact rget_some w b off cap k l hb (by omega) hc hl
end Go.Proofs.Ytgalmkhgbokidaa
