/-
  What is proved here: row.Check, row.Put and the document's Check of rows.
-/
import Derived.Test.YtgalmkhgbokidaaWB
namespace Go.Proofs.Ytgalmkhgbokidaa
open Go.RowKit Go.Proofs
set_option maxRecDepth 20000
set_option linter.unusedVariables false
set_option linter.unusedSimpArgs false

set_option maxHeartbeats 1000000 in
theorem checkVal_any (v : V) (w : World) : Calls Try.prog 59 #[.agg #[.int .i64 v.1, .int .i64 v.2.1, .string v.2.2]] w fun e w' => e = .returned (.int .i64 (chkV v)) ∧ Below w.heap.size w w' := by
  obtain ⟨k, z, s⟩ := v
  have H : Hid (chkV (k, z, s) = if k = 1 then (if 4096 < s.size then 2 else 0) else if k = 0 then 0 else 8) := rfl
  simp only
  by_cases h1 : k = 1
  · subst h1
    by_cases h2 : 4096 < s.size
    · have E : Hid (chkV (1, z, s) = 2) := by unfold Hid; rw [H.out]; simp [h2]
      go_enter Try.func59, Try.ntmps59
      go_wp2
      go_ret
      exact ⟨by rw [E.out]; rfl, (Below.refl _ _).alloc (Nat.le_refl _) _⟩
    · have E : Hid (chkV (1, z, s) = 0) := by unfold Hid; rw [H.out]; simp [h2]
      go_enter Try.func59, Try.ntmps59
      go_wp2
      go_ret
      exact ⟨by rw [E.out]; rfl, (Below.refl _ _).alloc (Nat.le_refl _) _⟩
  · by_cases h0 : k = 0
    · subst h0
      go_enter Try.func59, Try.ntmps59
      go_wp2
      go_ret
      exact ⟨rfl, (Below.refl _ _).alloc (Nat.le_refl _) _⟩
    · have E : Hid (chkV (k, z, s) = 8) := by unfold Hid; rw [H.out]; simp [h1, h0]
      have b0 : (k == 0) = false := by simpa using h0
      have b1 : (k == 1) = false := by simpa using h1
      clear H
      go_enter Try.func59, Try.ntmps59
      go_wp2
      go_ret
      exact ⟨by rw [E.out]; rfl, (Below.refl _ _).alloc (Nat.le_refl _) _⟩

theorem chkL_step {l : List V} {j : Nat} (hj : j < l.length) : chkL (l.drop j) = if chkV (l.getD j d0) = 0 then chkL (l.drop (j + 1)) else chkV (l.getD j d0) := by
  rw [List.drop_eq_getElem_cons hj, getD_at hj]
  rfl

def rcInv (w : World) (l : List V) (n k : Nat) (i : Value) (wr : World) : Prop := ∃ j : Nat, j + k = n ∧ i = .int .i64 (j : Int) ∧ chkL l = chkL (l.drop j) ∧ Below w.heap.size w wr

set_option maxHeartbeats 2000000 in
theorem rowCheck_any (P : Nat → Prop) (w : World) (a : Option Addr) (c : Nat) (l : List V) (h : VP P w a l) :
    Calls Try.prog 35 #[.slice a l.length c] w fun e w' => e = .returned (.int .i64 (chkR l)) ∧ Below w.heap.size w w' := by
  have H : Hid (chkR l = if 16 < l.length then 3 else chkL l) := rfl
  obtain ⟨n, hn⟩ : ∃ n, l.length = n := ⟨_, rfl⟩
  have HN := hid' hn
  have HX := hid' h
  rw [hn] at H ⊢
  clear h hn
  by_cases h16 : 16 < n
  · have E : Hid (chkR l = 3) := by unfold Hid; rw [H.out]; simp [h16]
    clear H
    go_enter Try.func35, Try.ntmps35
    go_wp2
    go_ret
    exact ⟨by rw [E.out]; rfl, Below.refl _ _⟩
  · have E : Hid (chkR l = chkL l) := by unfold Hid; rw [H.out]; simp [h16]
    have HI : Hid (∀ k i wr, rcInv w l n k i wr → ∃ j : Nat, j + k = n ∧ i = .int .i64 (j : Int) ∧ chkL l = chkL (l.drop j) ∧ Below w.heap.size w wr) := fun k i wr h => h
    clear H
    go_enter Try.func35, Try.ntmps35
    go_wp2
    go_loopg [11] n (fun k i wr => rcInv w l n k i wr)
    case atStart => exact ⟨0, by omega, rfl, rfl, Below.refl _ _⟩
    case round =>
      obtain ⟨j, hj, rfl, hc, hbel⟩ := HI.out _ _ _ hrel
      clear hrel
      have HC := hid' hc
      have HB := hid' hbel
      clear hc
      cases gk with
      | zero =>
        obtain rfl : j = n := by omega
        have HF : Hid (chkR l = 0) := by unfold Hid; rw [E.out, HC.out, ← HN.out, List.drop_length]; rfl
        clear hbel
        go_wp2
        go_ret
        exact ⟨by rw [HF.out]; rfl, HB.out⟩
      | succ k =>
        have hjl : j < l.length := by rw [HN.out]; omega
        obtain ⟨b1, o1, rfl⟩ := SP.lt HX.out (by rintro rfl; simp at hjl)
        have hx1 := SP.on HX.out hbel
        obtain ⟨c1, c2, c3⟩ := VP.at hx1 hjl
        have HS := hid' (chkL_step hjl)
        have HCV := hid' (checkVal_any (l.getD j d0))
        clear hx1 hbel hjl
        generalize l.getD j d0 = v at *
        obtain ⟨vk, vi, vs⟩ := v
        simp only at c1 c2 c3 HCV
        go_wp2_with fail
        refine (HCV.out _).mono ?_
        rintro e w3 ⟨rfl, hb3⟩
        have HB3 := hid' ((bel_alloc HB.out _).trans (hb3.mono (by have := HB.out.size; simp; omega)))
        clear hb3 HCV
        by_cases hz : chkV (vk, vi, vs) = 0
        · have H3 : Hid (rcInv w l n k (.int .i64 ((j : Int) + 1)) w3) := ⟨j + 1, by omega, by simp, by rw [HC.out, HS.out, if_pos hz], HB3.out⟩
          rw [hz]
          go_wp2
          go_roundg k
          case measure => omega
          case rel => exact H3.out
        · have HF : Hid (chkR l = chkV (vk, vi, vs)) := by unfold Hid; rw [E.out, HC.out, HS.out, if_neg hz]
          have hz' : (chkV (vk, vi, vs) != 0) = true := by simpa using hz
          generalize chkV (vk, vi, vs) = q at *
          go_wp2
          go_ret
          exact ⟨by rw [HF.out]; rfl, HB3.out⟩

def ocInv (w : World) (l : List V) (n k : Nat) (i : Value) (wr : World) : Prop := ∃ j : Nat, j + k = n ∧ i = .int .i64 (j : Int) ∧ chkL l = chkL (l.drop j) ∧ wr = w

set_option maxHeartbeats 2000000 in
theorem oCheck_any (P : Nat → Prop) (w : World) (a : Option Addr) (c : Nat) (l : List V) (h : VP P w a l) :
    Calls Try.prog 32 #[.slice a l.length c] w fun e w' => e = .returned (.int .i64 (chkR l)) ∧ w' = w := by
  have H : Hid (chkR l = if 16 < l.length then 3 else chkL l) := rfl
  obtain ⟨n, hn⟩ : ∃ n, l.length = n := ⟨_, rfl⟩
  have HN := hid' hn
  have HX := hid' h
  rw [hn] at H ⊢
  clear h hn
  by_cases h16 : 16 < n
  · have E : Hid (chkR l = 3) := by unfold Hid; rw [H.out]; simp [h16]
    clear H
    go_enter Try.func32, Try.ntmps32
    go_wp2
    go_ret
    exact ⟨by rw [E.out]; rfl, rfl⟩
  · have E : Hid (chkR l = chkL l) := by unfold Hid; rw [H.out]; simp [h16]
    have HI : Hid (∀ k i wr, ocInv w l n k i wr → ∃ j : Nat, j + k = n ∧ i = .int .i64 (j : Int) ∧ chkL l = chkL (l.drop j) ∧ wr = w) := fun k i wr h => h
    clear H
    go_enter Try.func32, Try.ntmps32
    go_wp2
    go_loopg [3] n (fun k i wr => ocInv w l n k i wr)
    case atStart => exact ⟨0, by omega, rfl, rfl, rfl⟩
    case round =>
      obtain ⟨j, hj, rfl, hc, rfl⟩ := HI.out _ _ _ hrel
      clear hrel
      have HC := hid' hc
      clear hc
      cases gk with
      | zero =>
        obtain rfl : j = n := by omega
        have HF : Hid (chkR l = 0) := by unfold Hid; rw [E.out, HC.out, ← HN.out, List.drop_length]; rfl
        go_wp2
        go_ret
        exact ⟨by rw [HF.out]; rfl, rfl⟩
      | succ k =>
        have hjl : j < l.length := by rw [HN.out]; omega
        obtain ⟨b1, o1, rfl⟩ := SP.lt HX.out (by rintro rfl; simp at hjl)
        obtain ⟨c1, c2, c3⟩ := VP.at HX.out hjl
        have HS := hid' (chkL_step hjl)
        clear hjl c2
        generalize l.getD j d0 = v at *
        obtain ⟨vk, vi, vs⟩ := v
        simp only at c1 c3
        have HV : Hid (chkV (vk, vi, vs) = if vk = 1 then (if 4096 < vs.size then 2 else 0) else if vk = 0 then 0 else 8) := rfl
        by_cases h1 : vk = 1
        · subst h1
          by_cases h2 : 4096 < vs.size
          · have HF : Hid (chkR l = 2) := by unfold Hid; rw [E.out, HC.out, HS.out, HV.out]; simp [h2]
            clear HV HS HC
            go_wp2
            go_ret
            exact ⟨by rw [HF.out]; rfl, rfl⟩
          · have H3 : Hid (ocInv wr l n k (.int .i64 ((j : Int) + 1)) wr) := ⟨j + 1, by omega, by simp, by rw [HC.out, HS.out, HV.out]; simp [h2], rfl⟩
            clear HV HS HC
            go_wp2
            go_roundg k
            case measure => omega
            case rel => exact H3.out
        · by_cases h0 : vk = 0
          · subst h0
            have H3 : Hid (ocInv wr l n k (.int .i64 ((j : Int) + 1)) wr) := ⟨j + 1, by omega, by simp, by rw [HC.out, HS.out, HV.out]; simp, rfl⟩
            clear HV HS HC
            go_wp2
            go_roundg k
            case measure => omega
            case rel => exact H3.out
          · have HF : Hid (chkR l = 8) := by unfold Hid; rw [E.out, HC.out, HS.out, HV.out]; simp [h1, h0]
            have b0 : (vk != 0) = true := by simpa using h0
            have b1 : (vk != 1) = true := by simpa using h1
            clear HV HS HC
            go_wp2
            go_ret
            exact ⟨by rw [HF.out]; rfl, rfl⟩

/-- New bytes. -/
def NewB (r : List Int) (v : Value) (w : World) : Prop := ∃ g c, v = .slice (some ⟨g, 0, none⟩) r.length c ∧ g < w.heap.size ∧ ∀ j u, (B8 r)[j]? = some u → w.cell? ((⟨g, 0, none⟩ : Addr).add j) = some u

theorem NewB.of_bts {r : List Int} {w : World} {g c : Nat} (h : Bts w.heap.size w (some ⟨g, 0, none⟩) r) (hne : r ≠ []) : NewB r (.slice (some ⟨g, 0, none⟩) r.length c) w := by
  obtain ⟨b, off, e, hlt, _⟩ := h.cells hne
  cases e
  refine ⟨g, c, rfl, hlt, ?_⟩
  obtain ⟨ad, he, hs⟩ := h.src (by rw [length_B8]; exact List.length_pos_iff.2 hne)
  cases he
  exact hs

end Go.Proofs.Ytgalmkhgbokidaa
