/-
  What is proved here: slices.Grow of no slice, slices.Concat of two; Meet; Both of the document.
-/
import Derived.Test.YtaadbjnfnmjkfaaFLE
import Derived.Lib.AppendZerosOnto
import Derived.Lib.SliceRun
import Derived.Lib.Walk
namespace Go.Proofs.Ytaadbjnfnmjkfaa
open Go.RowKit Go.Proofs
set_option linter.unusedVariables false
set_option linter.unusedSimpArgs false

set_option maxHeartbeats 2000000 in
theorem grow_any (w : World) (n : Nat) (hn : n ≤ 1000000) :
    Calls Try.prog 51 #[.slice none 0 0, .int .i64 (n : Int)] w fun e w' => ∃ v, e = .returned v ∧ w'.ownsRow w.heap.size 32 2 v 0 [] ∧ Below w.heap.size w w' := by
  obtain ⟨i23, hi23, hy0, hy1, hy2⟩ := info_parts Try.info23
  by_cases h0 : n = 0
  · subst h0
    go_enter Try.func51, Try.ntmps51
    go_wp2
    go_ret
    exact ⟨_, rfl, ⟨rfl, .inl ⟨rfl, rfl⟩⟩, Below.refl _ _⟩
  · have hpos : 0 < n := by omega
    have hrun : ∀ ty, (Builtin.append_ #[22, 3] ty #[.slice none 0 0, .int .i64 (n : Int)]).run Try.prog w = _ := fun ty =>
      Lib.run_append_grow_zeros w 22 3 ty 32 i23 _ .i64 .i64 Try.underlying22 Try.underlying3 hi23 hy0 none 0 0 [] (run_firstCells_none w.drew i23.size 0 0 0) n hpos (by rw [hy1]; omega) (by omega) (by omega) (by rw [hy2]; omega) (growslice_fits (by omega) (by rw [hy2]; omega))
    have hG := grownCap_ge w (0 + n) 0 32
    have hG2 := grownCap_le_maxLen w (0 + n) 0 32 (by unfold maxLen; omega)
    have hsz : ((#[] ++ Builtin.zeroCells (Value.agg #[.int .i64 0, .int .i64 0]).cells n ++ Builtin.zeroCells (Value.agg #[.int .i64 0, .int .i64 0]).cells (grownCap w (0 + n) 0 32 - (0 + n))) : Array Value).size = grownCap w (0 + n) 0 32 * 2 := by
      simp only [Array.size_append, size_zeroCells, Value.cells]
      simp
      simp at hG
      omega
    generalize (#[] ++ Builtin.zeroCells (Value.agg #[.int .i64 0, .int .i64 0]).cells n ++ Builtin.zeroCells (Value.agg #[.int .i64 0, .int .i64 0]).cells (grownCap w (0 + n) 0 32 - (0 + n)) : Array Value) = cur at hrun hsz
    generalize grownCap w (0 + n) 0 32 = G at hrun hG hG2 hsz
    rw [Nat.zero_add] at hrun hG
    have HSZ := hid' hsz
    have HG2 := hid' hG2
    unfold maxLen at hG2
    clear hsz hi23 hy0 hy1 hy2
    go_enter Try.func51, Try.ntmps51
    go_wp2_with (at_builtin; refine Lib.wpList_append_run _ rfl _ _ _ _ rfl _ _ rfl rfl _ _ (hrun _) ?_)
    all_goals go_ret
    all_goals exact ⟨_, rfl, ⟨rfl, .inr ⟨w.heap.size, G, cur, rfl, Nat.le_refl _, World.alloc_heap_new w.drew _, Nat.zero_le _, HG2.out, HSZ.out, rfl⟩⟩, (Below.refl _ w).drew.alloc (Nat.le_refl _) _⟩

/-- Where a slice's cells lie, for an append. -/
def Src (l : List T) (a : Option Addr) (n cap : Nat) (w : World) : Prop := (a = none ∧ n = 0 ∧ cap = 0 ∧ l = []) ∨ ∃ ad, a = some ad ∧ ∀ i u, (flat l)[i]? = some u → w.cell? (ad.add i) = some u

theorem Ts.srcAt {B : Nat} {w : World} {ad : Addr} {l : List T} (h : Ts B w (some ad) l) : ∀ j u, (flat l)[j]? = some u → w.cell? (ad.add j) = some u := by
  intro j u hj
  obtain ⟨h2, _⟩ := flat_inv l j u hj
  obtain ⟨b, off, e, _⟩ := h.cells (by rintro rfl; simp at h2)
  cases e
  exact h.src j u hj

theorem src_of {l : List T} {a : Option Addr} {n cap : Nat} {w : World} (hn : l.length = n) (h : IsL l (.slice a n cap) w) : Src l a n cap w := by
  obtain ⟨a', c', e, h1, h2, h3⟩ := h
  simp at e
  obtain ⟨rfl, -, rfl⟩ := e
  rcases h2 with ⟨rfl, hc0⟩ | ⟨ad, rfl⟩
  · left
    by_cases hl : l = []
    · subst hl; simp at hn; exact ⟨rfl, hn.symm, hc0, rfl⟩
    · obtain ⟨b, off, e', _⟩ := h3.cells hl
      cases e'
  · exact .inr ⟨ad, rfl, h3.srcAt⟩

set_option maxRecDepth 20000 in
set_option maxHeartbeats 4000000 in
theorem concat_any (w : World) (B : Nat) (f g : List T) (a b : Option Addr) (ca cb n m : Nat) (hf : f.length = n) (hg : g.length = m) (h0 : w.cell? ⟨B, 0, none⟩ = some (.slice a n ca)) (h1 : w.cell? ⟨B, 1, none⟩ = some (.slice b m cb)) (hB : B < w.heap.size)
    (hu : IsL f (.slice a n ca) w) (hv : IsL g (.slice b m cb) w) (hn : n ≤ 100000) (hm : m ≤ 100000) :
    Calls Try.prog 37 #[.slice (some ⟨B, 0, none⟩) 2 2] w fun e w' => ∃ x, e = .returned x ∧ w'.ownsRow w.heap.size 32 2 x (f ++ g).length (flat (f ++ g)) ∧ Below w.heap.size w w' := by
  obtain ⟨i23, hi23, hy0, hy1, hy2⟩ := info_parts Try.info23
  have HF := hid' hf
  have HG := hid' hg
  have HU := hid' hu
  have HV := hid' hv
  clear hu hv hf hg
  go_enter Try.func37, Try.ntmps37
  go_wp2
  go_loopg [3, 11] 2 (fun k z i wr => wr = w ∧ ((k = 2 ∧ i = .int .i64 0 ∧ z = .int .i64 0) ∨ (k = 1 ∧ i = .int .i64 1 ∧ z = .int .i64 (n : Int)) ∨ (k = 0 ∧ i = .int .i64 2 ∧ z = .int .i64 ((n : Int) + (m : Int)))))
  case atStart => exact ⟨rfl, .inl ⟨rfl, rfl, rfl⟩⟩
  case round =>
    obtain ⟨rfl, ⟨rfl, rfl, rfl⟩ | ⟨rfl, rfl, rfl⟩ | ⟨rfl, rfl, rfl⟩⟩ := hrel
    · go_wp2
      go_roundg 1
      case measure => omega
      case rel => exact ⟨rfl, .inr (.inl ⟨rfl, rfl, by simp⟩)⟩
    · go_wp2
      go_roundg 0
      case measure => omega
      case rel => exact ⟨rfl, .inr (.inr ⟨rfl, rfl, rfl⟩)⟩
    · have HGR := hid' (grow_any wr (n + m) (by omega))
      simp only [Int.natCast_add] at HGR
      go_wp2_with fail
      refine HGR.out.mono ?_
      rintro e w2 ⟨v0, rfl, hown0, hb2⟩
      clear HGR
      have HO := hid' hown0
      have HB2 := hid' hb2
      have HE0 := hid' h0
      have HE1 := hid' h1
      clear hown0 hb2 h0 h1
      obtain ⟨wO, hwO⟩ : ∃ x, x = wr := ⟨wr, rfl⟩
      subst hwO
      go_wp2
      have E0 := HE0
      have E1 := HE1
      generalize (n : Int) + (m : Int) = S
      go_loopg [6, 27] 2 (fun k v i wr => ∃ done : List T, ((k = 2 ∧ i = .int .i64 0 ∧ done = []) ∨ (k = 1 ∧ i = .int .i64 1 ∧ done = f) ∨ (k = 0 ∧ i = .int .i64 2 ∧ done = f ++ g)) ∧ Hid (wr.ownsRow wO.heap.size 32 2 v done.length (flat done)) ∧ Hid (Below wO.heap.size wO wr))
      case atStart => exact ⟨[], .inl ⟨rfl, rfl, rfl⟩, HO, HB2⟩
      case round =>
        obtain ⟨done, ⟨rfl, rfl, hd⟩ | ⟨rfl, rfl, hd⟩ | ⟨rfl, rfl, hd⟩, hown, hbel⟩ := hrel <;> rw [hd] at hown <;> clear hd
        · have d0 := (hbel.out.cell (p := ⟨B, 0, none⟩) hB).trans E0.out
          have hsz := hbel.out.size
          have HS := hid' (src_of HF.out (show IsL f (.slice a n ca) wr by obtain ⟨a', c', e, q1, q2, q3⟩ := HU.out; exact ⟨a', c', e, q1, q2, (q3.keep hbel.out).mono hbel.out.size⟩))
          have HLEN : Hid ((flat f).length = n * 2) := by unfold Hid; rw [length_flat, HF.out]
          have HON := hid' (flat_ones f)
          have hfn : True := trivial
          have HFN := hid' hfn
          clear hfn
          rcases HS.out with ⟨ea, en, ec, el⟩ | ⟨ad, ea, hsrc⟩
          · subst ea en ec
            have HEL := hid' el
            clear el
            go_wp2_with (at_builtin; refine wpList_append_own_none rfl (.tmp 31) (.tmp 32) 22 rfl wO.heap.size 32 i23 2 Try.underlying22 hi23 _ _ _ rfl hown.out rfl ?_)
            go_roundg 1
            case measure => omega
            case rel => exact ⟨f, .inr (.inl ⟨rfl, rfl, rfl⟩), by rw [HEL.out]; exact hown, hbel⟩
          · subst ea
            have HSRC := hid' hsrc
            clear hsrc
            go_wp2_with (at_builtin; refine wpList_append_own _ rfl (.tmp 31) (.tmp 32) 22 rfl wO.heap.size 32 i23 (.agg #[.int .i64 0, .int .i64 0]) 2 16 Try.underlying22 hi23 hy0 hy1 hy2 rfl (by decide) _ _ _ rfl hown.out ad n ca (flat f) rfl HLEN.out HSRC.out HON.out (by have := HFN.out; unfold maxLen; simp only [List.length_nil]; omega) (by have := HFN.out; simp only [List.length_nil]; omega) hsz ?_; intro v3 w3 hown3 hgrow3 hnil3)
            have hgr3 : wr.grownBy w3 u6.ownBlock := hgrow3
            have hb3 : Hid (Below wO.heap.size wO w3) := hbel.out.grown hgr3 hsz (fun q hq => (hown.out.lt q hq).1)
            have HO3 := hid' hown3
            clear hgrow3 hnil3 hgr3 hown3
            go_roundg 1
            case measure => omega
            case rel =>
              refine ⟨f, .inr (.inl ⟨rfl, rfl, rfl⟩), ?_, hb3⟩
              have h3 := HO3.out
              unfold Hid
              rw [List.length_nil, Nat.zero_add, show flat ([] : List T) = [] from rfl, List.nil_append] at h3; rw [HF.out]; exact h3
        · have d0 := (hbel.out.cell (p := ⟨B, 1, none⟩) hB).trans E1.out
          have hsz := hbel.out.size
          have HS := hid' (src_of HG.out (show IsL g (.slice b m cb) wr by obtain ⟨a', c', e, q1, q2, q3⟩ := HV.out; exact ⟨a', c', e, q1, q2, (q3.keep hbel.out).mono hbel.out.size⟩))
          have HLEN : Hid ((flat g).length = m * 2) := by unfold Hid; rw [length_flat, HG.out]
          have HON := hid' (flat_ones g)
          have hfn : f.length = n := HF.out
          have HFN := hid' hfn
          clear hfn
          rcases HS.out with ⟨ea, en, ec, el⟩ | ⟨ad, ea, hsrc⟩
          · subst ea en ec
            have HEL := hid' el
            clear el
            go_wp2_with (at_builtin; refine wpList_append_own_none rfl (.tmp 31) (.tmp 32) 22 rfl wO.heap.size 32 i23 2 Try.underlying22 hi23 _ _ _ rfl hown.out rfl ?_)
            go_roundg 0
            case measure => omega
            case rel => exact ⟨(f ++ g), .inr (.inr ⟨rfl, rfl, rfl⟩), by rw [HEL.out, List.append_nil]; exact hown, hbel⟩
          · subst ea
            have HSRC := hid' hsrc
            clear hsrc
            go_wp2_with (at_builtin; refine wpList_append_own _ rfl (.tmp 31) (.tmp 32) 22 rfl wO.heap.size 32 i23 (.agg #[.int .i64 0, .int .i64 0]) 2 16 Try.underlying22 hi23 hy0 hy1 hy2 rfl (by decide) _ _ _ rfl hown.out ad m cb (flat g) rfl HLEN.out HSRC.out HON.out (by have := HFN.out; unfold maxLen; omega) (by have := HFN.out; omega) hsz ?_; intro v3 w3 hown3 hgrow3 hnil3)
            have hgr3 : wr.grownBy w3 u6.ownBlock := hgrow3
            have hb3 : Hid (Below wO.heap.size wO w3) := hbel.out.grown hgr3 hsz (fun q hq => (hown.out.lt q hq).1)
            have HO3 := hid' hown3
            clear hgrow3 hnil3 hgr3 hown3
            go_roundg 0
            case measure => omega
            case rel =>
              refine ⟨(f ++ g), .inr (.inr ⟨rfl, rfl, rfl⟩), ?_, hb3⟩
              have h3 := HO3.out
              unfold Hid
              rw [List.length_append, HG.out, flat_append]; exact h3
        · go_wp2
          go_ret
          exact ⟨_, rfl, hown.out, hbel.out⟩

end Go.Proofs.Ytaadbjnfnmjkfaa
