/-
  What is proved here: slices.Grow of no slice, slices.Concat of two rows; Join.
-/
import Derived.Test.YtioldkilfeemfaaOrder
import Derived.Lib.AppendZerosOnto
import Derived.Lib.SliceRun
import Derived.Lib.Walk
namespace Go.Proofs.Ytioldkilfeemfaa
open Go.RowKit Go.Proofs
set_option linter.unusedVariables false
set_option linter.unusedSimpArgs false

/-- The value that is nothing. -/
def zV : Value := .agg #[.int .i64 0, .int .i64 0, .string ⟨#[]⟩]

theorem Try.infoVal : (Try.prog.info? 48).map (fun i => (i.zero, i.size, i.bytes)) = some (some zV, 3, 32) := by kernel_rfl
theorem Try.infoRow : (Try.prog.info? 39).map (fun i => (i.zero, i.size, i.bytes)) = some (some (.slice none 0 0), 1, 24) := by kernel_rfl

theorem addr_add (b off i : Nat) : (⟨b, off, none⟩ : Addr).add i = ⟨b, off + i, none⟩ := by unfold Addr.add; split <;> simp_all

theorem Vs.src {B : Nat} {w : World} {b off : Nat} {l : List V} (h : Vs B w (some ⟨b, off, none⟩) l) : ∀ j u, (flat l)[j]? = some u → w.cell? ((⟨b, off, none⟩ : Addr).add j) = some u := by
  intro j u hj
  have hlt : j < (flat l).length := by
    rcases Nat.lt_or_ge j (flat l).length with h' | h'
    · exact h'
    · rw [List.getElem?_eq_none h'] at hj; cases hj
  rw [length_flat] at hlt
  have h2 : j / 3 < l.length := by omega
  have hf := flat_get l (j / 3) h2
  obtain ⟨b', off', e, _, hcell⟩ := h.cells (by rintro rfl; simp at h2)
  cases e
  have hc := hcell (j / 3) h2
  rw [addr_add]
  have h3 : j % 3 = 0 ∨ j % 3 = 1 ∨ j % 3 = 2 := by omega
  rcases h3 with hm | hm | hm
  · have e : j / 3 * 3 = j := by omega
    rw [e, hj] at hf
    rw [e] at hc
    rw [hc.1, hf.1]
  · have e : j / 3 * 3 + 1 = j := by omega
    rw [e, hj] at hf
    rw [show off + j / 3 * 3 + 1 = off + j by omega] at hc
    rw [hc.2.1, hf.2.1]
  · have e : j / 3 * 3 + 2 = j := by omega
    rw [e, hj] at hf
    rw [show off + j / 3 * 3 + 2 = off + j by omega] at hc
    rw [hc.2.2, hf.2.2]

set_option maxHeartbeats 2000000 in
theorem grow_any (w : World) (n : Nat) (hn : n ≤ 1000000) (hpos : 0 < n) :
    Calls Try.prog 28 #[.slice none 0 0, .int .i64 (n : Int)] w fun e w' => ∃ v, e = .returned v ∧ w'.ownsRow w.heap.size 48 3 v 0 [] ∧ Below w.heap.size w w' := by
  obtain ⟨iV, hiV, hV0, hV1, hV2⟩ := info_parts Try.infoVal
  have hrun : ∀ ty, (Builtin.append_ #[39, 3] ty #[.slice none 0 0, .int .i64 (n : Int)]).run Try.prog w = _ := fun ty =>
    Lib.run_append_grow_zeros w 39 3 ty 48 iV _ .i64 .i64 Try.underlying39 Try.underlying3 hiV hV0 none 0 0 [] (run_firstCells_none w.drew iV.size 0 0 0) n hpos (by rw [hV1]; omega) (by omega) (by omega) (by rw [hV2]; omega) (growslice_fits (by omega) (by rw [hV2]; omega))
  have hG := grownCap_ge w (0 + n) 0 48
  have hG2 := grownCap_le_maxLen w (0 + n) 0 48 (by unfold maxLen; omega)
  have hsz : ((#[] ++ Builtin.zeroCells zV.cells n ++ Builtin.zeroCells zV.cells (grownCap w (0 + n) 0 48 - (0 + n))) : Array Value).size = grownCap w (0 + n) 0 48 * 3 := by
    simp only [Array.size_append, size_zeroCells, zV, Value.cells]
    simp
    simp at hG
    omega
  generalize (#[] ++ Builtin.zeroCells zV.cells n ++ Builtin.zeroCells zV.cells (grownCap w (0 + n) 0 48 - (0 + n)) : Array Value) = cur at hrun hsz
  generalize grownCap w (0 + n) 0 48 = G at hrun hG hG2 hsz
  rw [Nat.zero_add] at hrun hG
  have HSZ := hid' hsz
  have HG2 := hid' hG2
  unfold maxLen at hG2
  clear hsz hiV hV0 hV1 hV2
  go_enter Try.func28, Try.ntmps28
  go_wp2_with (at_builtin; refine Lib.wpList_append_run _ rfl _ _ _ _ rfl _ _ rfl rfl _ _ (hrun _) ?_)
  all_goals go_ret
  all_goals exact ⟨_, rfl, ⟨rfl, .inr ⟨w.heap.size, G, cur, rfl, Nat.le_refl _, heap_alloc_new w.drew _, Nat.zero_le _, HG2.out, HSZ.out, rfl⟩⟩, (Below.refl _ w).drew.alloc (Nat.le_refl _) _⟩

set_option maxRecDepth 20000 in
set_option maxHeartbeats 4000000 in
theorem concat_any (w : World) (B : Nat) (f g : List V) (a1 o1 a2 o2 : Nat) (ca cb n m : Nat) (hf : f.length = n) (hg : g.length = m) (h0 : w.cell? ⟨B, 0, none⟩ = some (.slice (some ⟨a1, o1, none⟩) n ca)) (h1 : w.cell? ⟨B, 1, none⟩ = some (.slice (some ⟨a2, o2, none⟩) m cb)) (hB : B < w.heap.size)
    (hu : Vs w.heap.size w (some ⟨a1, o1, none⟩) f) (hv : Vs w.heap.size w (some ⟨a2, o2, none⟩) g) (hn : n ≤ 100000) (hm : m ≤ 100000) (hp : 0 < n + m) :
    Calls Try.prog 26 #[.slice (some ⟨B, 0, none⟩) 2 2] w fun e w' => ∃ x, e = .returned x ∧ w'.ownsRow w.heap.size 48 3 x (f ++ g).length (flat (f ++ g)) ∧ Below w.heap.size w w' := by
  obtain ⟨iV, hiV, hV0, hV1, hV2⟩ := info_parts Try.infoVal
  have HF := hid' hf
  have HG := hid' hg
  have HU := hid' hu
  have HV := hid' hv
  clear hu hv hf hg
  go_enter Try.func26, Try.ntmps26
  go_wp2
  go_loopg [3, 11] 2 (fun k z i wr => wr = w ∧ ((k = 2 ∧ i = .int .i64 0 ∧ z = .int .i64 0) ∨ (k = 1 ∧ i = .int .i64 1 ∧ z = .int .i64 (n : Int)) ∨ (k = 0 ∧ i = .int .i64 2 ∧ z = .int .i64 ((n : Int) + (m : Int)))))
  case atStart => exact ⟨rfl, .inl ⟨rfl, rfl, rfl⟩⟩
  case round =>
    obtain ⟨rfl, ⟨rfl, rfl, rfl⟩ | ⟨rfl, rfl, rfl⟩ | ⟨rfl, rfl, rfl⟩⟩ := hrel
    · go_wp2
      go_roundg 1
      case measure => omega
      case rel => exact ⟨rfl, .inr (.inl ⟨rfl, rfl, by simp⟩)⟩
    · go_wp2
      go_roundg 0
      case measure => omega
      case rel => exact ⟨rfl, .inr (.inr ⟨rfl, rfl, rfl⟩)⟩
    · have HGR := hid' (grow_any wr (n + m) (by omega) hp)
      simp only [Int.natCast_add] at HGR
      go_wp2_with fail
      refine HGR.out.mono ?_
      rintro e w2 ⟨v0, rfl, hown0, hb2⟩
      clear HGR
      have HO := hid' hown0
      have HB2 := hid' hb2
      have HE0 := hid' h0
      have HE1 := hid' h1
      clear hown0 hb2 h0 h1
      obtain ⟨wO, hwO⟩ : ∃ x, x = wr := ⟨wr, rfl⟩
      subst hwO
      go_wp2
      have E0 := HE0
      have E1 := HE1
      generalize (n : Int) + (m : Int) = S
      go_loopg [6, 27] 2 (fun k v i wr => ∃ done : List V, ((k = 2 ∧ i = .int .i64 0 ∧ done = []) ∨ (k = 1 ∧ i = .int .i64 1 ∧ done = f) ∨ (k = 0 ∧ i = .int .i64 2 ∧ done = f ++ g)) ∧ Hid (wr.ownsRow wO.heap.size 48 3 v done.length (flat done)) ∧ Hid (Below wO.heap.size wO wr))
      case atStart => exact ⟨[], .inl ⟨rfl, rfl, rfl⟩, HO, HB2⟩
      case round =>
        obtain ⟨done, ⟨rfl, rfl, hd⟩ | ⟨rfl, rfl, hd⟩ | ⟨rfl, rfl, hd⟩, hown, hbel⟩ := hrel <;> rw [hd] at hown <;> clear hd
        · have d0 := (hbel.out.cell (p := ⟨B, 0, none⟩) hB).trans E0.out
          have hsz := hbel.out.size
          have HSRC := hid' (HU.out.on hbel.out).src
          have HLEN : Hid ((flat f).length = n * 3) := by unfold Hid; rw [length_flat, HF.out]
          have HON := hid' (flat_ones f)
          go_wp2_with (at_builtin; refine wpList_append_own _ rfl (.tmp 31) (.tmp 32) 39 rfl wO.heap.size 48 iV zV 3 32 Try.underlying39 hiV hV0 hV1 hV2 rfl (by decide) _ _ _ rfl hown.out ⟨a1, o1, none⟩ n ca (flat f) rfl HLEN.out HSRC.out HON.out (by unfold maxLen; simp only [List.length_nil]; omega) (by simp only [List.length_nil]; omega) hsz ?_; intro v3 w3 hown3 hgrow3 hnil3)
          have hgr3 : wr.grownBy w3 u6.ownBlock := hgrow3
          have hb3 : Hid (Below wO.heap.size wO w3) := hbel.out.grown hgr3 hsz (fun q hq => (hown.out.lt q hq).1)
          have HO3 := hid' hown3
          clear hgrow3 hnil3 hgr3 hown3
          go_roundg 1
          case measure => omega
          case rel =>
            refine ⟨f, .inr (.inl ⟨rfl, rfl, rfl⟩), ?_, hb3⟩
            have h3 := HO3.out
            unfold Hid
            rw [List.length_nil, Nat.zero_add, show flat ([] : List V) = [] from rfl, List.nil_append] at h3; rw [HF.out]; exact h3
        · have d0 := (hbel.out.cell (p := ⟨B, 1, none⟩) hB).trans E1.out
          have hsz := hbel.out.size
          have HSRC := hid' (HV.out.on hbel.out).src
          have HLEN : Hid ((flat g).length = m * 3) := by unfold Hid; rw [length_flat, HG.out]
          have HON := hid' (flat_ones g)
          go_wp2_with (at_builtin; refine wpList_append_own _ rfl (.tmp 31) (.tmp 32) 39 rfl wO.heap.size 48 iV zV 3 32 Try.underlying39 hiV hV0 hV1 hV2 rfl (by decide) _ _ _ rfl hown.out ⟨a2, o2, none⟩ m cb (flat g) rfl HLEN.out HSRC.out HON.out (by have := HF.out; unfold maxLen; omega) (by have := HF.out; omega) hsz ?_; intro v3 w3 hown3 hgrow3 hnil3)
          have hgr3 : wr.grownBy w3 u6.ownBlock := hgrow3
          have hb3 : Hid (Below wO.heap.size wO w3) := hbel.out.grown hgr3 hsz (fun q hq => (hown.out.lt q hq).1)
          have HO3 := hid' hown3
          clear hgrow3 hnil3 hgr3 hown3
          go_roundg 0
          case measure => omega
          case rel =>
            refine ⟨(f ++ g), .inr (.inr ⟨rfl, rfl, rfl⟩), ?_, hb3⟩
            have h3 := HO3.out
            unfold Hid
            rw [List.length_append, HG.out, flat_append]; exact h3
        · go_wp2
          go_ret
          exact ⟨_, rfl, hown.out, hbel.out⟩

theorem Join_any (w : World) (B : Nat) (f g : List V) (a1 o1 a2 o2 : Nat) (ca cb n m : Nat) (hf : f.length = n) (hg : g.length = m) (h0 : w.cell? ⟨B, 0, none⟩ = some (.slice (some ⟨a1, o1, none⟩) n ca)) (h1 : w.cell? ⟨B, 1, none⟩ = some (.slice (some ⟨a2, o2, none⟩) m cb)) (hB : B < w.heap.size)
    (hu : Vs w.heap.size w (some ⟨a1, o1, none⟩) f) (hv : Vs w.heap.size w (some ⟨a2, o2, none⟩) g) (hn : n ≤ 100000) (hm : m ≤ 100000) (hp : 0 < n + m) :
    Calls Try.prog 24 #[.slice (some ⟨B, 0, none⟩) 2 2] w fun e w' => ∃ x, e = .returned x ∧ w'.ownsRow w.heap.size 48 3 x (f ++ g).length (flat (f ++ g)) ∧ Below w.heap.size w w' := by
  have H := hid' (concat_any w B f g a1 o1 a2 o2 ca cb n m hf hg h0 h1 hB hu hv hn hm hp)
  clear hf hg h0 h1 hu hv
  go_enter Try.func24, Try.ntmps24
  go_wp2_with fail
  refine H.out.mono ?_
  rintro e w' ⟨x, rfl, ho, hb⟩
  go_wp2
  go_ret
  exact ⟨x, rfl, ho, hb⟩

end Go.Proofs.Ytioldkilfeemfaa
