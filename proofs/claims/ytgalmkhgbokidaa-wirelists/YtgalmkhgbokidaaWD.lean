/-
  What is proved here: row.Put.
-/
import Derived.Test.YtgalmkhgbokidaaWC
namespace Go.Proofs.Ytgalmkhgbokidaa
open Go.RowKit Go.Proofs
set_option maxRecDepth 20000
set_option linter.unusedVariables false
set_option linter.unusedSimpArgs false

theorem lit_own (w : World) (o : Obj) (B : Nat) (hB : B ≤ w.heap.size + 1) (d : Int) : Own B ((w.alloc o).alloc (.cells #[.int .u8 d] 5)) (.slice (some ⟨w.heap.size + 1, 0, none⟩) 1 1) [d] := by
  have e : w.heap.size + 1 = (w.alloc o).heap.size := (World.size_alloc w o).symm
  rw [e]
  exact owns_lit_one (w.alloc o) B (by rw [← e]; exact hB) d

theorem lit_bts (w : World) (o : Obj) (d : Int) (hd : 0 ≤ d ∧ d < 256) : Bts ((w.alloc o).alloc (.cells #[.int .u8 d] 5)).heap.size ((w.alloc o).alloc (.cells #[.int .u8 d] 5)) (some ⟨w.heap.size + 1, 0, none⟩) [d] := by
  have h := lit_own w o 0 (Nat.zero_le _) d
  exact Bts.of_owns h (fun y hy => by simp at hy; subst hy; exact hd)

set_option maxHeartbeats 2000000 in
theorem toldVal_any (v : V) (w : World) (hc : chkV v = 0) (hr : R64 v.2.1) : Calls Try.prog 74 #[.agg #[.int .i64 v.1, .int .i64 v.2.1, .string v.2.2]] w fun e w' => ∃ x, e = .returned x ∧ NewB (valB v) x w' ∧ Below w.heap.size w w' := by
  obtain ⟨k, z, s⟩ := v
  simp only at hr ⊢
  have hb2 : ∀ d : Int, Below w.heap.size w ((w.alloc (.cells #[.int .i64 k, .int .i64 z, .string s] 78)).alloc (.cells #[.int .u8 d] 5)) := fun d => bel_alloc ((Below.refl _ _).alloc (Nat.le_refl _) _) _
  have hbt := fun (d : Int) (hd : 0 ≤ d ∧ d < 256) => lit_bts w (.cells #[.int .i64 k, .int .i64 z, .string s] 78) d hd
  by_cases h1 : k = 1
  · subst h1
    have hs : s.size ≤ 4096 := by unfold chkV at hc; simp at hc; omega
    have HV : Hid (valB (1, z, s) = [1] ++ (bytesOf s.size ++ nums s)) := rfl
    have HB2 := hid' (hb2 1)
    have HP := hid' (putText_any _ _ 1 [1] s (hbt 1 (by omega)) (by simp) (by omega))
    simp only [List.length_singleton] at HP
    clear hbt hb2 hc
    go_enter Try.func74, Try.ntmps74
    go_wp2_with fail
    refine HP.out.mono ?_
    rintro e w2 ⟨g, c, rfl, hcap, hbt, hbel⟩
    have HF : Hid (NewB (valB (1, z, s)) (.slice (some ⟨g, 0, none⟩) (1 + sz s.size + s.size) c) w2 ∧ Below w.heap.size w w2) := by
      refine ⟨?_, bel_trans' HB2.out hbel⟩
      rw [HV.out]
      have := NewB.of_bts (c := c) hbt (by simp)
      have e : ([1] ++ (bytesOf s.size ++ nums s)).length = 1 + sz s.size + s.size := by simp only [List.length_append, length_bytesOf, nums_length, List.length_singleton]; omega
      rw [e] at this
      exact this
    clear hbt hbel HP HV HB2 hcap
    go_wp2
    go_ret
    exact ⟨_, rfl, HF.out⟩
  · have h0 : k = 0 := by
      unfold chkV at hc
      simp only [if_neg h1] at hc
      by_cases h : k = 0
      · exact h
      · rw [if_neg h] at hc; omega
    subst h0
    have HV : Hid (valB (0, z, s) = [0] ++ bytesOf (zig z).toNat) := rfl
    have HB2 := hid' (hb2 0)
    have HP := hid' (putInt_any _ _ 1 [0] z (hbt 0 (by omega)) (by simp) hr.1 hr.2)
    simp only [List.length_singleton] at HP
    clear hbt hb2 hc
    go_enter Try.func74, Try.ntmps74
    go_wp2_with fail
    refine HP.out.mono ?_
    rintro e w2 ⟨g, c, rfl, hown, hbel⟩
    have HF : Hid (NewB (valB (0, z, s)) (.slice (some ⟨g, 0, none⟩) (1 + sz (zig z).toNat) c) w2 ∧ Below w.heap.size w w2) := by
      refine ⟨?_, bel_trans' HB2.out hbel⟩
      rw [HV.out]
      have := NewB.of_bts (c := c) (Bts.of_owns hown (Byt.app (fun y hy => by simp at hy; subst hy; omega) (byt_num _))) (by simp)
      have e : ([0] ++ bytesOf (zig z).toNat).length = 1 + sz (zig z).toNat := by simp only [List.length_append, length_bytesOf, List.length_singleton]
      rw [e] at this
      exact this
    clear hown hbel HP HV HB2
    go_wp2
    go_ret
    exact ⟨_, rfl, HF.out⟩

theorem NewB.on {r : List Int} {v : Value} {w w' : World} (h : NewB r v w) (hb : Below w.heap.size w w') : NewB r v w' := by
  obtain ⟨g, c, rfl, hg, hc⟩ := h
  exact ⟨g, c, rfl, Nat.lt_of_lt_of_le hg hb.size, fun j u hj => (World.cell?_of_block (by rw [addr_add]; exact hb.block g hg)).trans (hc j u hj)⟩

/-- What holds in the loop of row.Put. -/
def rpInv (w : World) (l : List Int) (xs : List V) (n k : Nat) (b i : Value) (wr : World) : Prop :=
  ∃ j : Nat, j + k = n ∧ i = .int .i64 (j : Int) ∧ Own w.heap.size wr b (l ++ (bytesOf xs.length ++ (xs.take j).flatMap valB)) ∧ Below w.heap.size w wr

set_option maxHeartbeats 4000000 in
theorem rowPut_any (P : Nat → Prop) (w : World) (a : Option Addr) (cap : Nat) (l : List Int) (ra : Option Addr) (rc : Nat) (xs : List V) (hb : Bts w.heap.size w a l) (hx : VP P w ra xs) (hc : chkR xs = 0) (hok : ∀ v ∈ xs, R64 v.1 ∧ R64 v.2.1) (hl : l.length ≤ 1000000) :
    Calls Try.prog 58 #[.slice a l.length cap, .slice ra xs.length rc] w fun e w' => ∃ v, e = .returned (.tuple #[v, .int .i64 0]) ∧ Own w.heap.size w' v (l ++ rowB xs) ∧ Below w.heap.size w w' := by
  obtain ⟨i0, hi, hz0, hz1, hz2⟩ := info_parts Try.info5
  obtain ⟨h16, hv0⟩ := chkR_ok hc
  have HCK := hid' (rowCheck_any P w ra rc xs hx)
  rw [hc] at HCK
  have HX := hid' hx
  have HOK := hid' (fun v hv => (⟨hv0 v hv, (hok v hv).2⟩ : chkV v = 0 ∧ R64 v.2.1))
  have HL : Hid ((l ++ listB valB xs).length ≤ 1000000000) := (by
    have := len_row hc hok
    unfold rowB at this
    rw [List.length_append]; omega : _ ≤ _)
  have HA : Hid (∀ v' wr, Own w.heap.size wr v' (l ++ (bytesOf xs.length ++ (xs.take xs.length).flatMap valB)) → Below w.heap.size w wr → (∃ v, Ending.returned (.tuple #[v', .int .i64 0]) = .returned (.tuple #[v, .int .i64 0]) ∧ Own w.heap.size wr v (l ++ rowB xs) ∧ Below w.heap.size w wr)) := fun v' wr h k => ⟨v', rfl, by rw [List.take_length] at h; exact h, k⟩
  obtain ⟨n, hn⟩ : ∃ n, xs.length = n := ⟨_, rfl⟩
  have HI : Hid (∀ k b i wr, rpInv w l xs n k b i wr → ∃ j : Nat, j + k = n ∧ i = .int .i64 (j : Int) ∧ Own w.heap.size wr b (l ++ (bytesOf xs.length ++ (xs.take j).flatMap valB)) ∧ Below w.heap.size w wr) := fun k b i wr h => h
  have HP := hid' (fun W (hW : Below w.heap.size w W) => put_own W a cap l n ((hb.keep hW).mono hW.size) (by omega) (by omega))
  rw [hn] at HA HCK h16 ⊢
  have HN := hid' hn
  clear hx hok hl hn hb hc hv0
  go_enter Try.func58, Try.ntmps58
  go_wp2_with fail
  refine HCK.out.mono ?_
  rintro e w1 ⟨rfl, hb1⟩
  have HB1 := hid' hb1
  have HP1 := hid' (HP.out w1 hb1)
  clear HCK HP hb1
  go_wp2_with fail
  refine HP1.out.mono ?_
  rintro e w2 ⟨v0, rfl, hown, hbel⟩
  have H0 : Hid (rpInv w l xs n n v0 (.int .i64 0) w2) := ⟨0, by omega, rfl, by rw [HN.out]; simpa using hown.base HB1.out.size, bel_trans' HB1.out hbel⟩
  clear hown hbel HP1 HB1
  go_wp2
  go_loopg [7, 22] n (fun k b i wr => rpInv w l xs n k b i wr)
  case atStart => exact H0.out
  case round =>
    obtain ⟨j, hj, rfl, hown, hbel⟩ := HI.out _ _ _ _ hrel
    cases gk with
    | zero =>
      obtain rfl : j = n := by omega
      have HF := hid' (HA.out _ _ (by rw [HN.out] at hown; exact hown) hbel)
      clear hrel hown hbel
      go_wp2
      go_ret2
      exact HF.out
    | succ k =>
      have hjl : j < xs.length := by rw [HN.out]; omega
      obtain ⟨b1, o1, rfl⟩ := SP.lt HX.out (by rintro rfl; simp at hjl)
      have hx1 := SP.on HX.out hbel
      obtain ⟨c1, c2, c3⟩ := VP.at hx1 hjl
      have hR := HOK.out _ (getD_mem (d := d0) hjl)
      have HC := hid' (fun W => toldVal_any (xs.getD j d0) W hR.1 hR.2)
      have HST := hid' (flat_step valB xs l j d0 hjl)
      have HLT := hid' (len_take valB xs l j d0 hjl HL.out)
      have HB := hid' hbel
      have HO := hid' hown
      clear hown hbel hx1 hrel hjl hR
      generalize xs.getD j d0 = t at *
      obtain ⟨tk, ti, ts⟩ := t
      simp only at c1 c2 c3 HC
      generalize valB (tk, ti, ts) = vb at *
      go_wp2_with fail
      refine (HC.out _).mono ?_
      rintro e w3 ⟨x3, rfl, hnew, hb3⟩
      obtain ⟨g, c, rfl, hg, hcell⟩ := hnew
      have HB3 := hid' (bel_trans' ((Below.refl _ wr).alloc (Nat.le_refl _) _) hb3)
      have HO3 := hid' (Own.below HO.out HB3.out)
      have HCE := hid' hcell
      clear hb3 HC hcell
      go_wp2_with (first
        | (at_builtin; refine wpList_append_own _ rfl (.tmp 26) (.tmp 28) 22 rfl w.heap.size 5 i0 (.int .u8 0) 1 1 Try.underlying22 hi hz0 hz1 hz2 rfl (by decide) u7 _ _ rfl HO3.out ⟨g, 0, none⟩ vb.length c (B8 vb) rfl (by rw [length_B8]; omega) HCE.out (B8_one _) (by have := HLT.out; rw [List.length_append] at this; unfold maxLen; omega) (by have := HLT.out; rw [List.length_append] at this; omega) (Nat.le_trans HB.out.size HB3.out.size) ?_; intro v' w4 hown1 hgrow1 hnil1))
      have H3 : Hid (rpInv w l xs n k v' (.int .i64 ((j : Int) + 1)) w4) := ⟨j + 1, by omega, by simp, by
        rw [← HST.out]
        unfold Own
        rw [B8_append, List.length_append]
        exact hown1, (bel_trans' HB.out HB3.out).trans ((Kb.grown hgrow1 HO3.out).below (Nat.le_trans HB.out.size HB3.out.size))⟩
      clear hown1 hgrow1 hnil1 HCE
      go_wp2
      go_roundg k
      case measure => omega
      case rel => exact H3.out

end Go.Proofs.Ytgalmkhgbokidaa
