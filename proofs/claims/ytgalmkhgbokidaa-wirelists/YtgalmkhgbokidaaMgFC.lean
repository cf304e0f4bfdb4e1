/-
  What is proved here: Encode of the document.
-/
import Derived.Test.YtgalmkhgbokidaaMgR
import Derived.Test.YtgalmkhgbokidaaMgS

namespace Go.Proofs.Ytgalmkhgbokidaa
open Go.RowKit Go.Proofs
set_option maxRecDepth 20000
set_option linter.unusedVariables false
set_option linter.unusedSimpArgs false

set_option maxHeartbeats 8000000 in
theorem rEncode_any (P : Nat → Prop) (w : World) (a : Option Addr) (cap : Nat) (X : List (Cm × CmS)) (hX : Cms P w a X) (hn : ∀ q ∈ X, CmN q.1) (hl : X.length ≤ 1000000000) :
    Calls Try.prog 26 #[.slice a X.length cap] w (EAns X w) := by
  by_cases hbig : 4096 < X.length
  · have HZ : Hid (EAns X w (.returned (.tuple #[.slice none 0 0, .int .i64 3])) w) := ⟨Below.refl _ _, .inl ⟨hbig, rfl⟩⟩
    obtain ⟨n, hnn⟩ : ∃ n, X.length = n := ⟨_, rfl⟩
    rw [hnn] at hbig ⊢
    have h' : (4096 : Int) < (n : Int) := by omega
    clear hX hn hl hnn
    go_enter Try.func26, Try.ntmps26
    go_wp2
    go_ret2
    exact HZ.out
  · have HX := hid' hX
    have HCN := hid' hn
    have HERR : Hid (∀ W j, j < X.length → (∀ q ∈ X.take j, chk q.1 = 0) → chk (X.getD j (c0, s0)).1 ≠ 0 → Below w.heap.size w W → EAns X w (.returned (.tuple #[.slice none 0 0, .int .i64 (chk (X.getD j (c0, s0)).1)])) W) := fun W j h1 h2 h3 h4 => by
      have e := encE_at X j h1 h2 h3
      exact ⟨h4, .inr (.inl ⟨by omega, by rw [e]; exact h3, by rw [e]⟩)⟩
    have HYES : Hid (∀ W v, (∀ q ∈ X.take X.length, chk q.1 = 0) → Own w.heap.size W v (bytesOf X.length ++ (X.take X.length).flatMap cmB) → Below w.heap.size w W → EAns X w (.returned (.tuple #[v, .int .i64 0])) W) := fun W v h1 h2 h3 => by
      rw [List.take_length] at h1 h2
      exact ⟨h3, .inr (.inr ⟨by omega, h1, v, rfl, h2⟩)⟩
    obtain ⟨n, hnn⟩ : ∃ n, X.length = n := ⟨_, rfl⟩
    have HN := hid' hnn
    rw [hnn] at hbig HYES ⊢
    have h' : ¬ (4096 : Int) < (n : Int) := by omega
    have HP := hid' (bytes_own w n (by omega))
    have HI : Hid (∀ k bv i wr, enInv w X n k bv i wr → ∃ j : Nat, j + k = n ∧ i = .int .i64 (j : Int) ∧ (∀ q ∈ X.take j, chk q.1 = 0) ∧ Own w.heap.size wr bv (bytesOf n ++ (X.take j).flatMap cmB) ∧ Below w.heap.size w wr) := fun k bv i wr h => h
    clear hX hn hl hnn
    go_enter Try.func26, Try.ntmps26
    go_wp2_with fail
    refine HP.out.mono ?_
    rintro e w2 ⟨v0, rfl, hown, hbel⟩
    have H0 : Hid (enInv w X n n v0 (.int .i64 0) w2) := ⟨0, by omega, rfl, by simp, by simpa using hown, hbel⟩
    clear hown hbel HP
    go_wp2
    go_loopg [4, 5] n (fun k bv i wr => enInv w X n k bv i wr)
    case atStart => exact H0.out
    case round =>
      obtain ⟨j, hj, rfl, hall, hown, hbel⟩ := HI.out _ _ _ _ hrel
      clear hrel H0
      cases gk with
      | zero =>
        obtain rfl : j = n := by omega
        have HZ := hid' (HYES.out wr _ hall hown hbel)
        clear hall hown hbel HYES HERR
        go_wp2
        go_ret2
        exact HZ.out
      | succ k =>
        have hjl : j < X.length := by rw [HN.out]; omega
        have hjn : j < n := by omega
        obtain ⟨b1, o1, rfl⟩ := SP.lt HX.out.cells (by rintro rfl; simp at hjl)
        have hcells := (Cms.at (HX.out.on hbel) hjl).2
        have hb1 : b1 < wr.heap.size := (Cms.at (HX.out.on hbel) hjl).1
        have HCR := hid' ((HX.out.each _ (getD_mem (d := (c0, s0)) hjl)).on hbel)
        have HNM := hid' (HCN.out _ (getD_mem (d := (c0, s0)) hjl))
        have HER := hid' (fun W hne hW => HERR.out W j hjl hall hne hW)
        have HFT := hid' (flat_take hjl)
        have HTA := hid' (fun hc => take_all0 hjl hall hc)
        have HLT := hid' (len_cmds_take (Nat.le_of_lt hjl) HCN.out hall)
        have HB := hid' hbel
        have HO := hid' hown
        clear hown hbel hjl hall HERR HYES
        generalize X.getD j (c0, s0) = q at *
        obtain ⟨c, s⟩ := q
        simp only at hcells HCR HNM HER HFT HTA
        have d0 := hcells 0 (by decide)
        have d1 := hcells 1 (by decide)
        have d2 := hcells 2 (by decide)
        have d3 := hcells 3 (by decide)
        have d4 := hcells 4 (by decide)
        have d5 := hcells 5 (by decide)
        have d6 := hcells 6 (by decide)
        have d7 := hcells 7 (by decide)
        have d8 := hcells 8 (by decide)
        unfold cmA at d0 d1 d2 d3 d4 d5 d6 d7 d8
        simp only [Nat.add_zero] at d0
        have HCE := hid' hcells
        clear hcells
        have HCK := hid' (rCheck_any P wr c s HCR.out)
        unfold cmV at HCK
        go_wp2_with fail
        refine HCK.out.mono ?_
        rintro e w3 ⟨rfl, hb3⟩
        have HB3 := hid' (bel_trans' HB.out hb3)
        have HBB := hid' hb3
        have hc3 : ∀ j', j' < 9 → w3.cell? ⟨b1, o1 + j * 9 + j', none⟩ = (cmA c s)[j']? := fun j' hj' => (hb3.cell (p := ⟨b1, o1 + j * 9 + j', none⟩) hb1).trans (HCE.out j' hj')
        have m0 := hc3 0 (by decide)
        have m1 := hc3 1 (by decide)
        have m2 := hc3 2 (by decide)
        have m3 := hc3 3 (by decide)
        have m4 := hc3 4 (by decide)
        have m5 := hc3 5 (by decide)
        have m6 := hc3 6 (by decide)
        have m7 := hc3 7 (by decide)
        have m8 := hc3 8 (by decide)
        unfold cmA at m0 m1 m2 m3 m4 m5 m6 m7 m8
        simp only [Nat.add_zero] at m0
        clear hb3 HCK hc3 HCE d0 d1 d2 d3 d4 d5 d6 d7 d8
        by_cases hc : chk c = 0
        · have HTO := hid' (rBytes_any P w3 c s (HCR.out.on HBB.out) HNM.out hc)
          have hlb := len_cmd hc HNM.out
          have HO3 := hid' (HO.out.below HBB.out)
          have HALL := hid' (HTA.out hc)
          have hln : (bytesOf n).length ≤ 10 := by rw [length_bytesOf]; exact sz_le_ten _ (by omega)
          rw [hc]
          unfold cmV at HTO
          clear HER HTA HO hc HNM HCR HBB
          go_wp2_with fail
          refine HTO.out.mono ?_
          rintro e w4 ⟨v4, rfl, o4, hb4⟩
          obtain ⟨g, cg, rfl, hg, hcell⟩ := o4.newB (cmdB_ne c)
          clear o4
          have HO4 := hid' (HO3.out.below hb4)
          have HSR := hid' (Src.of_new (c := cg) hcell)
          have HB4 := hid' (bel_trans' HB3.out hb4)
          have HLEN : Hid ((bytesOf n ++ (X.take j).flatMap cmB).length + (cmdB c).length ≤ 1000000000) := (by
            have h1 := HLT.out
            rw [List.length_append]
            omega : _ ≤ _)
          clear hcell hb4 HO3 HTO HB3 HLT hg hlb hln m0 m1 m2 m3 m4 m5 m6 m7 m8
          go_wp2_with (at_builtin; refine wpList_appB rfl (.tmp 28) (.tmp 33) rfl w.heap.size u4 _ rfl HO4.out (some ⟨g, 0, none⟩) (cmdB c).length cg (cmdB c) rfl rfl HSR.out HLEN.out HB4.out.size ?_; intro v' w5 hown1 hk1)
          have H3 : Hid (enInv w X n k v' (.int .i64 ((j : Int) + 1)) w5) := ⟨j + 1, by omega, by simp, HALL.out, by rw [HFT.out, ← List.append_assoc]; exact hown1, HB4.out.trans (hk1.below HB4.out.size)⟩
          clear hown1 hk1 HSR HO4 HLEN HB4 HALL
          go_wp2
          go_roundg k
          case measure => omega
          case rel => exact H3.out
        · have HZ := hid' (HER.out w3 hc HB3.out)
          generalize chk c = ck at *
          clear HER HTA HO HNM HCR HBB HB3 HFT m0 m1 m2 m3 m4 m5 m6 m7 m8
          go_wp2
          go_ret2
          exact HZ.out

end Go.Proofs.Ytgalmkhgbokidaa
