/-
  What is proved here: New: a new slice of the list's least times, in strict order; nothing old is written.
-/
import Derived.Test.YtboeodcjcbgeaaaFMath
import Derived.Test.YtboeodcjcbgeaaaUniq
import Derived.Test.YtboeodcjcbgeaaaAdd
namespace Go.Proofs.Ytboeodcjcbgeaaa
open Go.RowKit Go.Proofs
set_option linter.unusedVariables false
set_option linter.unusedSimpArgs false

set_option maxRecDepth 100000 in
theorem Ts.keepBut {B p : Nat} {w w' : World} {a : Option Addr} {l : List T} (h : Ts B w a l) (hb : ∀ k, k < B → k ≠ p → w'.heap[k]? = w.heap[k]?) (ha : ∀ b off, a = some ⟨b, off, none⟩ → b ≠ p) : Ts B w' a l := by
  refine ⟨h.range, fun hl => ?_⟩
  obtain ⟨b, off, e, hlt, hc⟩ := h.cells hl
  have hh := hb b hlt (ha b off e)
  have same : ∀ o, w'.cell? ⟨b, o, none⟩ = w.cell? ⟨b, o, none⟩ := fun o => by unfold World.cell?; simp only [hh]
  exact ⟨b, off, e, hlt, fun i hi => ⟨(same _).trans (hc i hi).1, (same _).trans (hc i hi).2⟩⟩

/-- Between two rounds of New. -/
structure NewAt (B : Nat) (w1 : World) (s : List T) (wr : World) : Prop where
  box : ∃ v, wr.heap[B]? = some (.cells #[v] 70 (0, 0)) ∧ wr.ownsRow w1.heap.size 36 2 v s.length (flat s)
  size : w1.heap.size ≤ wr.heap.size
  os : wr.os = w1.os
  tape : wr.tape = w1.tape
  output : wr.output = w1.output
  block : ∀ k, k < w1.heap.size → k ≠ B → wr.heap[k]? = w1.heap[k]?

set_option maxRecDepth 100000 in
theorem owns_below {w w' : World} {base e size n : Nat} {v : Value} {xs : List Value} (h : w.ownsRow base e size v n xs) (hb : Below w.heap.size w w') : w'.ownsRow base e size v n xs := by
  refine ⟨h.1, ?_⟩
  rcases h.2 with h1 | ⟨g, c, cur, h1, h2, h3, h4⟩
  · exact .inl h1
  · exact .inr ⟨g, c, cur, h1, h2, (hb.block g (Array.getElem?_eq_some_iff.1 h3).1).trans h3, h4⟩

set_option maxRecDepth 100000 in
theorem NewAt.on {B : Nat} {w1 : World} {s : List T} {wr wr' : World} (h : NewAt B w1 s wr) (hg : Below wr.heap.size wr wr') : NewAt B w1 s wr' := by
  obtain ⟨v, hv, hr⟩ := h.box
  exact ⟨⟨v, (hg.block B (Array.getElem?_eq_some_iff.1 hv).1).trans hv, owns_below hr hg⟩, Nat.le_trans h.size hg.size, hg.os.trans h.os, hg.tape.trans h.tape, hg.output.trans h.output, fun k hk hne => (hg.block k (by have := h.size; omega)).trans (h.block k hk hne)⟩

set_option maxRecDepth 100000 in
set_option maxHeartbeats 2000000 in
theorem new_any (w : World) (a : Option Addr) (cap : Nat) (l : List T) (h : Ts w.heap.size w a l) (hl : l.length ≤ 1000000000) :
    Calls Try.prog 25 #[.slice a l.length cap] w fun e w' => ∃ v f, e = .returned v ∧ f.length ≤ l.length ∧ StepsOf l f ∧ w'.ownsRow w.heap.size 36 2 v f.length (flat f) ∧ Below w.heap.size w w' := by
  obtain ⟨i23, hi23, hy0, hy1, hy2⟩ := info_parts Try.info23
  have hg0 : Gr w (w.alloc (.cells #[.slice none 0 0] 70)) := (Gr.refl w).alloc _
  have HU := hid' (unique_any (w.alloc (.cells #[.slice none 0 0] 70)) a cap l (h.gr hg0) hl)
  have hrange := hid' h.range
  clear h
  go_enter Try.func25, Try.ntmps25
  go_wp2_with fail
  refine HU.out.mono ?_
  clear HU
  rintro e w1 ⟨v, u, rfl, hul, hset, hrow, hb⟩
  have hsz1 := hb.size
  simp at hsz1
  have hB1 : w1.heap[w.heap.size]? = some (.cells #[.slice none 0 0] 70 (0, 0)) := (hb.block _ (by simp)).trans (World.alloc_heap_new w _)
  obtain ⟨au, cu, rfl, hcu, hts⟩ := Ts.of_owns hrow (fun x hx => hrange.out x ((hset.mem x).1 hx))
  have hau : Hid (∀ b off, au = some ⟨b, off, none⟩ → b ≠ w.heap.size) := fun b off e => by
    rcases hrow.2 with ⟨h1, _⟩ | ⟨g, c', cur, h1, h2, _⟩
    · simp at h1; rw [h1.1] at e; cases e
    · simp at h1
      rw [h1.1] at e
      simp at e
      simp at h2
      omega
  have hbw : Below w.heap.size w w1 := ((Below.refl _ w).alloc (Nat.le_refl _) (.cells #[.slice none 0 0] 70)).trans (hb.mono (by simp))
  have HSET := hid' hset
  have HTS := hid' hts
  have hlen : u.length ≤ 1000000000 := by omega
  have HUL := hid' hul
  clear hrow hset hts hb hul hl
  have hstart : Hid (NewAt w.heap.size w1 [] w1) := ⟨⟨_, hB1, rfl, .inl ⟨rfl, rfl⟩⟩, Nat.le_refl _, rfl, rfl, rfl, fun _ _ _ => rfl⟩
  obtain ⟨n, hn⟩ : ∃ n, u.length = n := ⟨_, rfl⟩
  have HN := hid' hn
  rw [hn] at hcu hlen ⊢
  clear hB1 hn
  go_wp2
  go_loopg [11] n (fun k i wr => ∃ (j : Nat) (s : List T), j + k = n ∧ i = .int .i64 (j : Int) ∧ Hid (StepsOf (u.take j) s) ∧ s.length ≤ j ∧ Hid (NewAt w.heap.size w1 s wr))
  case atStart => exact ⟨0, [], by omega, rfl, StepsOf.nil, by simp, hstart⟩
  case round =>
    obtain ⟨j, s, hj, rfl, hst, hsl, hat⟩ := hrel
    have hsz2 := hat.out.size
    obtain ⟨v, hv, hown⟩ := hat.out.box
    cases gk with
    | zero =>
      obtain rfl : j = n := by omega
      have c1 : wr.cell? ⟨w.heap.size, 0, none⟩ = some v := by rw [cell_of_row _ _ _ _ _ _ hv]; rfl
      have HO := hid' hown
      clear hv hown
      go_wp2
      go_ret
      refine ⟨v, s, rfl, by have := HUL.out; have := HN.out; omega, ?_, ?_, ?_⟩
      · have h1 := hst.out
        rw [List.take_of_length_le (Nat.le_of_eq HN.out)] at h1
        exact h1.congr HSET.out.mem
      · refine ⟨HO.out.1, ?_⟩
        rcases HO.out.2 with h1 | ⟨g, c, cur, h1, h2, h3⟩
        · exact .inl h1
        · exact .inr ⟨g, c, cur, h1, by omega, h3⟩
      · exact ⟨hat.out.os.trans hbw.os, hat.out.tape.trans hbw.tape, hat.out.output.trans hbw.output, by have := hbw.size; omega, fun k hk => (hat.out.block k (by omega) (by omega)).trans (hbw.block k hk)⟩
    | succ k =>
      have hjn : j < u.length := by rw [HN.out]; omega
      have HTR : Hid (Ts w1.heap.size wr au u) := HTS.out.keepBut hat.out.block hau.out
      obtain ⟨b, off, rfl, hBu, hc⟩ := HTR.out.cells (by rintro rfl; simp at hjn)
      have p1 := (hc j hjn).1
      have p2 := (hc j hjn).2
      have HX : Hid (u.take (j + 1) = u.take j ++ [u.getD j (0, 0)] ∧ (∀ y ∈ u.take j, ltT y (u.getD j (0, 0))) ∧ RT (u.getD j (0, 0))) := by
        refine ⟨?_, fun y hy => ?_, HTR.out.range _ (getD_mem hjn)⟩
        · rw [List.take_add_one]
          simp [List.getD, List.getElem?_eq_getElem hjn]
        · obtain ⟨i, hi, e⟩ := List.getElem_of_mem hy
          rw [List.length_take] at hi
          rw [List.getElem_take] at e
          have := List.pairwise_iff_getElem.1 HSET.out.sl i j (by omega) hjn (by omega)
          rw [← e]
          simpa [List.getD, List.getElem?_eq_getElem hjn] using this
      generalize u.getD j (0, 0) = x at p1 p2 HX
      obtain ⟨x1, x2⟩ := x
      clear hc
      have hrs : ∀ y ∈ s, RT y := fun y hy => HTR.out.range y (List.mem_of_mem_take (hst.out.sub y hy))
      obtain ⟨as1, cs, rfl, hcs, hts⟩ := Ts.of_owns hown hrs
      have hlt0 : w.heap.size < wr.heap.size := by omega
      have hga : Gr wr (wr.alloc (.cells #[.int .i64 x1, .int .i64 x2] 36)) := (Gr.refl wr).alloc _
      have c1 : wr.cell? ⟨w.heap.size, 0, none⟩ = some (.slice as1 s.length cs) := by rw [cell_of_row _ _ _ _ _ _ hv]; rfl
      have HA := hid' (ahead_any (wr.alloc (.cells #[.int .i64 x1, .int .i64 x2] 36)) w.heap.size as1 cs s (x1, x2) ((hga.below.cell (p := ⟨w.heap.size, 0, none⟩) hlt0).trans c1) (hts.gr hga) (by simp; omega) hst.out.st.rise (by omega))
      have HAD := hid' (stepAhead_iff hst.out.st (x1, x2))
      generalize stepAhead s (x1, x2) = ab at HA HAD
      simp only at HA
      have HAT : Hid (NewAt w.heap.size w1 s (wr.alloc (.cells #[.int .i64 x1, .int .i64 x2] 36))) := hat.out.on hga.below
      clear hv hown hts c1
      go_wp2_with fail
      refine HA.out.mono ?_
      clear HA
      rintro e w2 ⟨rfl, hg2⟩
      have HAT2 := hid' (HAT.out.on hg2.below)
      have hszA := hg2.below.size
      simp at hszA
      have d1 : w2.cell? ⟨wr.heap.size, 0, none⟩ = some (.int .i64 x1) := (hg2.below.cell (p := ⟨wr.heap.size, 0, none⟩) (by simp)).trans (by go_simp)
      have d2 : w2.cell? ⟨wr.heap.size, 1, none⟩ = some (.int .i64 x2) := (hg2.below.cell (p := ⟨wr.heap.size, 1, none⟩) (by simp)).trans (by go_simp)
      clear HAT hg2 hat
      cases ab with
      | true =>
        have HK : Hid (StepsOf (u.take (j + 1)) s) := by unfold Hid; rw [HX.out.1]; exact hst.out.keep (HAD.out.1 rfl)
        go_wp2
        go_roundg k
        case measure => omega
        case rel => exact ⟨j + 1, s, by omega, by simp, HK, by omega, HAT2⟩
      | false =>
        have HK : Hid (StepsOf (u.take (j + 1)) (s ++ [(x1, x2)])) := by unfold Hid; rw [HX.out.1]; exact hst.out.add (fun hc => by have := HAD.out.2 hc; cases this) HX.out.2.1
        obtain ⟨v2, hv2, hown2⟩ := HAT2.out.box
        obtain ⟨c2, f2⟩ := cell_of_box_a hv2
        have hsz3 := HAT2.out.size
        have HOW := hid' hown2
        have HV2 := hid' hv2
        clear hv2 hown2
        have hne : ∀ {g : Nat}, some g = v2.ownBlock → w1.heap.size ≤ g := fun e => (HOW.out.lt _ e.symm).1
        go_wp2_with (
          (at_builtin; refine wpList_append_own _ rfl _ _ 47 rfl w1.heap.size 36 i23 (.agg #[.int .i64 0, .int .i64 0]) 2 16 Try.underlying47 hi23 hy0 hy1 hy2 rfl (by decide) _ _ _ rfl (HOW.out.alloc _) ⟨w2.heap.size, 0, none⟩ 1 1 [.int .i64 x1, .int .i64 x2] rfl rfl (cell_two_new _ _ _ _) (by intro u hu; simp at hu; rcases hu with rfl | rfl <;> rfl) (by unfold maxLen; omega) (by omega) (by simp; omega) ?_; intro v3 w3 hown3 hgrow3 hnil3
           have hgr3 : (w2.alloc (.cells #[.int .i64 x1, .int .i64 x2] 36)).grownBy w3 v2.ownBlock := hgrow3
           have hv3 : w3.heap[w.heap.size]? = some (.cells #[v2] 70 (0, 0)) := (hgr3.block w.heap.size (by simp; omega) (fun e => by have := hne e; omega)).trans ((Below.heap_alloc _ _ _ (by omega)).trans HV2.out)
           obtain ⟨c3, f3⟩ := cell_of_box_a hv3
           obtain ⟨g', cap', cur', rfl, hbase', hgb', hr1, hr2, hr3, hr4⟩ : ∃ g' cap' cur', v3 = .slice (some ⟨g', 0, none⟩) (s.length + 1) cap' ∧ w1.heap.size ≤ g' ∧ w3.heap[g']? = some (.cells cur' 36 (0, 0)) ∧ s.length + 1 ≤ cap' ∧ cap' ≤ maxLen ∧ cur'.size = cap' * 2 ∧ cur'.toList.take ((s.length + 1) * 2) = flat s ++ [.int .i64 x1, .int .i64 x2] := by
             rcases hown3.2 with ⟨_, h0⟩ | h'
             · exact absurd h0 (by omega)
             · exact h'
           have HOW3 := hid' hown3
           have HV3 := hid' hv3
           clear hgrow3 hnil3 hown3 hv3 hr4 hr3 hr2 hgb' c2 f2))
        have hg4 := grownBy_setCell0_a w3 w.heap.size (.slice (some ⟨g', 0, none⟩) (s.length + 1) cap')
        have hv4 := heap_setCell_box_a (.slice (some ⟨g', 0, none⟩) (s.length + 1) cap') HV3.out
        go_roundg k
        case measure => omega
        case rel =>
          refine ⟨j + 1, s ++ [(x1, x2)], by omega, by simp, HK, by simp; omega, ⟨⟨_, hv4, ?_⟩, ?_, ?_, ?_, ?_, ?_⟩⟩
          · have := HOW3.out.kept hg4 (.inr (by simp [Value.ownBlock]; omega))
            simpa [flat_append, flat_one] using this
          · have := hgr3.size
            have := hg4.size
            simp at *; omega
          · exact hg4.os.trans (hgr3.os.trans HAT2.out.os)
          · exact hg4.tape.trans (hgr3.tape.trans HAT2.out.tape)
          · exact hg4.output.trans (hgr3.output.trans HAT2.out.output)
          · intro q hq hqB
            refine (hg4.block q ?_ (by simp; omega)).trans ((hgr3.block q (by simp; omega) (fun e => by have := hne e; omega)).trans ((Below.heap_alloc _ _ _ (by omega)).trans (HAT2.out.block q hq hqB)))
            have := hgr3.size
            simp at this; omega

end Go.Proofs.Ytboeodcjcbgeaaa
