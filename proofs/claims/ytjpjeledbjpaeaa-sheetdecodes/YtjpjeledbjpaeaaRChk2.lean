/-
  What is proved here: the document's Check; a number's and a list's bytes by the document.
-/
import Derived.Test.YtjpjeledbjpaeaaRChk
namespace Go.Proofs.Ytjpjeledbjpaeaa
open Go.RowKit Go.Proofs
set_option maxRecDepth 20000
set_option linter.unusedVariables false
set_option linter.unusedSimpArgs false

set_option maxHeartbeats 4000000 in
theorem rCheck_any (w : World) (p : Pl) (s : PlS) (hp : PlR w.heap.size w p s) :
    Calls Try.prog 9 #[plV p s] w fun e w' => e = .returned (.int .i64 (plChk p)) ∧ Gr w w' := by
  have G0 := hid' ((Gr.refl w).alloc (plObj p s))
  have BX0 := hid' (PlB.new w p s)
  have HX := hid' hp
  clear hp
  unfold plV
  by_cases h64 : 64 < p.nodes.length
  · have A : Hid (plChk p = 3) := (by unfold plChk; rw [if_pos (.inl h64)] : plChk p = 3)
    rw [A.out]
    unfold plObj at G0
    clear HX A BX0
    go_enter Try.func9, Try.ntmps9
    go_wp2
    go_ret
    exact ⟨rfl, G0.out⟩
  by_cases h8 : 8 < p.outs.length
  · have A : Hid (plChk p = 3) := (by unfold plChk; rw [if_pos (.inr h8)] : plChk p = 3)
    rw [A.out]
    unfold plObj at G0
    clear HX A BX0
    go_enter Try.func9, Try.ntmps9
    go_wp2
    go_ret
    exact ⟨rfl, G0.out⟩
  have A : Hid (plChk p = nodesChk p.nodes) := (by unfold plChk; rw [if_neg (by omega)] : plChk p = nodesChk p.nodes)
  rw [A.out]
  unfold plObj at G0 BX0
  have HL := hid' HX.out.nodes
  obtain ⟨sa, sc, sb, sd⟩ := s
  obtain ⟨l, po, pr⟩ := p
  simp only at HL G0 BX0 h64 h8 ⊢
  obtain ⟨n, hn⟩ : ∃ n, l.length = n := ⟨_, rfl⟩
  have HN := hid' hn
  rw [hn] at h64
  simp only [hn] at G0 BX0 ⊢
  have CX : Hid (∀ W, Gr (w.alloc (Obj.cells #[.slice sa n sc, .slice sb po.length sd, .int .i64 pr] 25)) W → W.cell? ⟨w.heap.size, 0, none⟩ = some (.slice sa n sc)) := fun W g => (by
    have := (BX0.out.gr g).k0
    simp only [HN.out] at this
    exact this)
  clear hn HX A BX0
  go_enter Try.func9, Try.ntmps9
  go_wp2
  generalize hW0 : w.alloc (Obj.cells #[.slice sa n sc, .slice sb po.length sd, .int .i64 pr] 25) = W0 at *
  clear hW0
  go_loopg [3] n (fun k i wr => ∃ j : Nat, j + k = n ∧ i = .int .i64 (j : Int) ∧ nodesChk (l.take j) = 0 ∧ Gr W0 wr)
  case atStart => exact ⟨0, by omega, rfl, rfl, Gr.refl _⟩
  case round =>
    obtain ⟨j, hj, rfl, ht, hg⟩ := hrel
    have HT := hid' ht
    clear ht
    have c0 := CX.out wr hg
    cases gk with
    | zero =>
      obtain rfl : j = n := by omega
      have A : Hid (nodesChk l = 0) := (by
        have := HT.out
        rwa [List.take_of_length_le (Nat.le_of_eq HN.out)] at this : nodesChk l = 0)
      go_wp2
      go_ret
      exact ⟨by rw [A.out]; rfl, G0.out.trans hg⟩
    | succ k =>
      have hjl : j < l.length := by rw [HN.out]; omega
      have hg' := G0.out.trans hg
      obtain ⟨b1, o1, rfl, hB1, hc1⟩ := HL.out.cells (by rintro rfl; simp at hjl)
      obtain ⟨t, C1, R1⟩ := hc1 j hjl
      have C1 := C1.keep hg'.below hB1
      have R1 := R1.gr hg'
      have HS := hid' (nodesChk_take hjl HT.out)
      have HF := hid' (nodesChk_found hjl HT.out)
      generalize l.getD j n0 = x at *
      clear hc1 HT hjl
      obtain ⟨p0, p1, p2, p3, p4, p5, p6, p7, p8⟩ := C1
      have GA := hid' hg'
      have H1 := hid' (rnode_any _ x t R1)
      unfold ndV at H1
      clear R1 hg'
      by_cases m1 : ndChk x = 0
      · rw [m1] at H1
        have A : Hid (nodesChk (l.take (j + 1)) = 0) := (by rw [HS.out, m1] : _ = _)
        clear HF HS m1
        go_wp2_with fail
        refine H1.out.mono ?_
        rintro e w2 ⟨rfl, hg2⟩
        go_wp2
        go_roundg k
        case measure => omega
        case rel => exact ⟨j + 1, by omega, by simp, A.out, hg.trans hg2⟩
      · have A : Hid (nodesChk l = ndChk x) := HF.out m1
        have eb : (ndChk x != 0) = true := by simpa using m1
        generalize ndChk x = c at *
        clear HS HF m1
        go_wp2_with fail
        refine H1.out.mono ?_
        rintro e w2 ⟨rfl, hg2⟩
        go_wp2
        go_ret
        exact ⟨by rw [A.out]; rfl, GA.out.trans hg2⟩

/-- What a call answers that makes bytes. -/
def NewAns (r : List Int) (w : World) (e : Ending) (w' : World) : Prop := ∃ v, e = .returned v ∧ Own w.heap.size w' v r ∧ Below w.heap.size w w'

theorem rone_any (w : World) (z : Int) (hz : R64 z) : Calls Try.prog 26 #[.int .i64 z] w (NewAns (oneB z) w) := by
  have H1 := hid' (signed_any z w hz.1 hz.2)
  have hzr := zig_range z hz.1 hz.2
  obtain ⟨m, hm⟩ := Int.eq_ofNat_of_zero_le hzr.1
  have H2 := hid' (bytes_any w m (by omega))
  have HO : Hid (oneB z = bytesOf m) := (by unfold oneB; rw [hm]; simp : oneB z = bytesOf m)
  rw [hm] at H1
  clear hzr hm hz
  go_enter Try.func26, Try.ntmps26
  go_wp2_with fail
  refine H1.out.mono ?_
  rintro e w1 ⟨rfl, rfl⟩
  go_wp2_with fail
  refine H2.out.mono ?_
  rintro e w2 ⟨g, c, rfl, hown, hbel⟩
  have HF : Hid (NewAns (oneB z) w1 (.returned (.slice (some ⟨g, 0, none⟩) (sz m) c)) w2) := ⟨_, rfl, by rw [HO.out]; unfold Own; rw [length_bytesOf]; exact hown, hbel⟩
  clear hown hbel
  go_wp2
  go_ret
  exact HF.out

theorem Own.someOf {base : Nat} {w : World} {v : Value} {l : List Int} (h : Own base w v l) (hne : l ≠ []) : ∃ g c, v = .slice (some ⟨g, 0, none⟩) l.length c := by
  rcases h.2 with ⟨_, h0⟩ | ⟨g, cap, cur, rfl, _⟩
  · exact absurd (List.eq_nil_of_length_eq_zero h0) hne
  · exact ⟨g, cap, rfl⟩

theorem bytesOf_ne (n : Nat) : bytesOf n ≠ [] := by
  intro h
  have := congrArg List.length h
  rw [length_bytesOf] at this
  have := sz_pos n
  simp at *
  omega

theorem oneB_ne (z : Int) : oneB z ≠ [] := bytesOf_ne _
theorem listB_ne {α : Type} (f : α → List Int) (l : List α) : listB f l ≠ [] := by
  unfold listB
  simp [bytesOf_ne]

/-- The loop of list. -/
def rlInv (w : World) (xs : List Int) (n k : Nat) (b i : Value) (wr : World) : Prop :=
  ∃ j : Nat, j + k = n ∧ i = .int .i64 (j : Int) ∧ Own w.heap.size wr b (bytesOf xs.length ++ (xs.take j).flatMap oneB) ∧ Below w.heap.size w wr

set_option maxHeartbeats 4000000 in
theorem rlist_any (w : World) (a : Option Addr) (cap : Nat) (xs : List Int) (hx : Ns w.heap.size w a xs) (hok : ∀ x ∈ xs, R64 x) (hxs : xs.length ≤ 16) :
    Calls Try.prog 27 #[.slice a xs.length cap] w (NewAns (listB oneB xs) w) := by
  obtain ⟨i0, hi, hz0, hz1, hz2⟩ := info_parts Try.info5
  have hlen := len_list oneB 10 16 xs hxs (by omega) fun z hz => len_one (hok z hz)
  have HL : Hid (([] ++ listB oneB xs).length ≤ 1000000000) := (by simp; omega : _ ≤ _)
  have HX := hid' hx
  have HOK := hid' hok
  obtain ⟨n, hn⟩ : ∃ n, xs.length = n := ⟨_, rfl⟩
  have HP := hid' (bytes_any w n (by omega))
  have HN := hid' hn
  have HA : Hid (∀ v wr, Own w.heap.size wr v (bytesOf xs.length ++ (xs.take xs.length).flatMap oneB) → Below w.heap.size w wr → NewAns (listB oneB xs) w (.returned v) wr) := fun v wr h k => ⟨v, rfl, by rw [List.take_length] at h; exact h, k⟩
  rw [hn] at hxs ⊢
  clear hn hx hok hlen
  go_enter Try.func27, Try.ntmps27
  go_wp2_with fail
  refine HP.out.mono ?_
  rintro e w1 ⟨g, c, rfl, hown, hbel⟩
  have I0 : Hid (rlInv w xs n n (.slice (some ⟨g, 0, none⟩) (sz n) c) (.int .i64 ((0 : Nat) : Int)) w1) := ⟨0, by omega, rfl, (by
    simp only [List.take_zero, List.flatMap_nil, List.append_nil, HN.out]
    unfold Own
    rw [length_bytesOf]
    exact hown), hbel⟩
  clear hown hbel HP
  go_wp2
  go_loopg [3, 4] n (fun k b i wr => rlInv w xs n k b i wr)
  case atStart => exact I0.out
  case round =>
    obtain ⟨j, hj, rfl, hown, hk⟩ := hrel
    clear I0
    obtain ⟨gb, cb, hv⟩ := hown.someOf (by simp [bytesOf_ne])
    cases gk with
    | zero =>
      obtain rfl : j = n := by omega
      have HF := hid' (HA.out _ _ (by rw [HN.out]; rw [HN.out] at hown; exact hown) hk)
      subst hv
      clear hown
      go_wp2
      go_ret
      exact HF.out
    | succ k =>
      have hjl : j < xs.length := by rw [HN.out]; omega
      obtain ⟨b1, o1, rfl, hB1, hc1⟩ := HX.out.cells (by rintro rfl; simp at hjl)
      have p1 := (hk.cell (p := ⟨b1, o1 + j, none⟩) hB1).trans (hc1 j hjl)
      have HLj := hid' (len_take oneB xs [] j 0 hjl HL.out)
      have HSj := hid' (flat_step oneB xs [] j 0 hjl)
      simp only [List.nil_append] at HLj HSj
      have H := hid' (rone_any wr (xs.getD j 0) (HOK.out _ (getD_mem (d := 0) hjl)))
      generalize hxx : xs.getD j 0 = x at *
      generalize hcur : bytesOf xs.length ++ (xs.take j).flatMap oneB = cur at *
      have hs := hk.size
      subst hv
      have HO := hid' hown
      have HK := hid' hk
      clear hc1 hjl hown hk hxx hcur
      go_wp2_with fail
      refine H.out.mono ?_
      rintro e w3 ⟨v3, rfl, hown3, hk3⟩
      obtain ⟨g3, c3, hv3⟩ := hown3.someOf (oneB_ne x)
      subst hv3
      have HW := hid' (owns_below HO.out hk3)
      have HO3 := hid' hown3
      have HLL : Hid (cur.length + (oneB x).length ≤ 1000000000) := (by have := HLj.out; rwa [List.length_append] at this : _ ≤ _)
      have hs3 : w.heap.size ≤ w3.heap.size := Nat.le_trans hs hk3.size
      have HK3 := hid' (HK.out.trans (hk3.mono hs))
      clear hown3 hk3 HO
      go_wp2_with (first
        | (at_builtin; refine wpList_append_own _ rfl (.tmp 15) (.tmp 20) 28 rfl w.heap.size 5 i0 (.int .u8 0) 1 1 Try.underlying28 hi hz0 hz1 hz2 rfl (by decide) (.slice (some ⟨gb, 0, none⟩) cur.length cb) cur.length (B8 cur) rfl HW.out ⟨g3, 0, none⟩ (oneB x).length c3 (B8 (oneB x)) rfl (by rw [length_B8]; omega) (HO3.out.cells rfl) (B8_one _) (by have := HLL.out; unfold maxLen; omega) (by have := HLL.out; omega) hs3 ?_; intro v' w4 hown1 hgrow1 hnil1))
      have R : Hid (rlInv w xs n k v' (.int .i64 ((j : Int) + 1)) w4) := ⟨j + 1, by omega, by simp, (by
        rw [← HSj.out]
        unfold Own
        rw [B8_append, List.length_append]
        exact hown1), HK3.out.grown hgrow1 hs3 (fun q hq => (HW.out.lt q hq).1)⟩
      clear hown1 hgrow1 hnil1 HW HO3
      go_wp2
      go_roundg k
      case measure => omega
      case rel => exact R.out

end Go.Proofs.Ytjpjeledbjpaeaa
