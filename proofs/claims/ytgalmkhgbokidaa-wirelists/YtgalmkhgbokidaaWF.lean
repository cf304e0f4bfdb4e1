/-
  What is proved here: append of bytes that were handed in; slices.Grow of no slice and slices.Concat of two, of bytes.
-/
import Derived.Test.YtgalmkhgbokidaaWE
import Derived.Laws.AppendOwnNone
import Derived.Lib.AppendZerosOnto
import Derived.Lib.SliceRun
import Derived.Lib.Walk
namespace Go.Proofs.Ytgalmkhgbokidaa
open Go.RowKit Go.Proofs
set_option maxRecDepth 20000
set_option linter.unusedVariables false
set_option linter.unusedSimpArgs false

/-- What bytes may be put behind others: their cells. -/
def Src (w : World) (ao : Option Addr) (c : Nat) (r : List Int) : Prop := (ao = none → r = [] ∧ c = 0) ∧ ∀ ad, ao = some ad → ∀ j u, (B8 r)[j]? = some u → w.cell? (ad.add j) = some u

theorem Src.of_bts {w : World} {ao : Option Addr} {c : Nat} {r : List Int} {B : Nat} (h : Bts B w ao r) (hs : ao = none → c = 0) : Src w ao c r := by
  refine ⟨fun e => ⟨?_, hs e⟩, fun ad e j u hj => ?_⟩
  · rcases List.eq_nil_or_concat r with h' | ⟨_, _, h'⟩
    · exact h'
    · obtain ⟨b, off, e2, _⟩ := h.cells (by rw [h']; simp)
      rw [e] at e2; cases e2
  · have hp : 0 < (B8 r).length := by
      rcases Nat.eq_zero_or_pos (B8 r).length with h0 | h0
      · rw [List.length_eq_zero_iff] at h0; rw [h0] at hj; simp at hj
      · exact h0
    obtain ⟨ad', e', hc⟩ := h.src hp
    rw [e] at e'; cases e'
    exact hc j u hj

theorem Src.of_new {r : List Int} {g c : Nat} {w : World} (hc : ∀ j u, (B8 r)[j]? = some u → w.cell? ((⟨g, 0, none⟩ : Addr).add j) = some u) : Src w (some ⟨g, 0, none⟩) c r :=
  ⟨fun h => (by cases h), fun ad e => by cases e; exact hc⟩

theorem wpList_appB {w : World} {ops : Array Oper} {rest : List Oper} {o : Oper} {a : Act} {Q : Exit → Act → World → Prop} (hgd : o.guard = none) (s x : Operand)
    (ho : o.op = .call { callee := .builtin .append, args := #[s, x], argTypes := #[22, 22] }) (base : Nat) (v : Value) (l : List Int) (hs : a.eval s = v) (hown : Own base w v l)
    (ao : Option Addr) (m c : Nat) (r : List Int) (hx : a.eval x = .slice ao m c) (hm : r.length = m) (hsrc : Src w ao c r) (hlen : l.length + r.length ≤ 1000000000) (hbase : base ≤ w.heap.size)
    (h : ∀ v' w', Own base w' v' (l ++ r) → Kb base w w' → wpList Try.prog ops Q rest (a.put o.dst v') w') : wpList Try.prog ops Q (o :: rest) a w := by
  obtain ⟨i0, hi, hz0, hz1, hz2⟩ := info_parts Try.info5
  subst hm
  cases ao with
  | none =>
    obtain ⟨rfl, rfl⟩ := hsrc.1 rfl
    refine wpList_append_own_none hgd s x 22 ho base 5 i0 1 Try.underlying22 hi v l.length (B8 l) hs hown hx (h v w ?_ (Kb.refl _ _))
    simpa using hown
  | some ad =>
    refine wpList_append_own w hgd s x 22 ho base 5 i0 (.int .u8 0) 1 1 Try.underlying22 hi hz0 hz1 hz2 rfl (by decide) v l.length (B8 l) hs hown ad r.length c (B8 r) hx (by rw [length_B8]; omega) (hsrc.2 ad rfl) (B8_one _) (by unfold maxLen; omega) (by omega) hbase (fun v' w' h1 h2 _ => h v' w' ?_ (Kb.grown h2 hown))
    unfold Own
    rw [B8_append, List.length_append]
    exact h1

set_option maxHeartbeats 2000000 in
theorem growB_any (w : World) (n : Nat) (hn : n ≤ 10000000) (hpos : 0 < n) :
    Calls Try.prog 55 #[.slice none 0 0, .int .i64 (n : Int)] w fun e w' => ∃ v, e = .returned v ∧ Own w.heap.size w' v [] ∧ Below w.heap.size w w' := by
  obtain ⟨iV, hiV, hV0, hV1, hV2⟩ := info_parts Try.info5
  have hrun : ∀ ty, (Builtin.append_ #[22, 3] ty #[.slice none 0 0, .int .i64 (n : Int)]).run Try.prog w = _ := fun ty =>
    Lib.run_append_grow_zeros w 22 3 ty 5 iV _ .i64 .i64 Try.underlying22 Try.underlying3 hiV hV0 none 0 0 [] (run_firstCells_none w.drew iV.size 0 0 0) n hpos (by rw [hV1]; omega) (by omega) (by omega) (by rw [hV2]; omega) (growslice_fits (by omega) (by rw [hV2]; omega))
  have hG := grownCap_ge w (0 + n) 0 5
  have hG2 := grownCap_le_maxLen w (0 + n) 0 5 (by unfold maxLen; omega)
  have hsz : ((#[] ++ Builtin.zeroCells (Value.int .u8 0).cells n ++ Builtin.zeroCells (Value.int .u8 0).cells (grownCap w (0 + n) 0 5 - (0 + n))) : Array Value).size = grownCap w (0 + n) 0 5 * 1 := by
    simp only [Array.size_append, size_zeroCells, Value.cells]
    simp
    simp at hG
    omega
  generalize (#[] ++ Builtin.zeroCells (Value.int .u8 0).cells n ++ Builtin.zeroCells (Value.int .u8 0).cells (grownCap w (0 + n) 0 5 - (0 + n)) : Array Value) = cur at hrun hsz
  generalize grownCap w (0 + n) 0 5 = G at hrun hG hG2 hsz
  rw [Nat.zero_add] at hrun hG
  have HSZ := hid' hsz
  have HG2 := hid' hG2
  unfold maxLen at hG2
  clear hsz hiV hV0 hV1 hV2
  go_enter Try.func55, Try.ntmps55
  go_wp2_with (at_builtin; refine Lib.wpList_append_run _ rfl _ _ _ _ rfl _ _ rfl rfl _ _ (hrun _) ?_)
  all_goals go_ret
  all_goals exact ⟨_, rfl, ⟨rfl, .inr ⟨w.heap.size, G, cur, rfl, Nat.le_refl _, heap_alloc_new w.drew _, Nat.zero_le _, HG2.out, HSZ.out, rfl⟩⟩, (Below.refl _ w).drew.alloc (Nat.le_refl _) _⟩

set_option maxHeartbeats 4000000 in
theorem concatB_any (w : World) (B : Nat) (f g : List Int) (a1 a2 : Option Addr) (ca cb n m : Nat) (hf : f.length = n) (hg : g.length = m) (h0 : w.cell? ⟨B, 0, none⟩ = some (.slice a1 n ca)) (h1 : w.cell? ⟨B, 1, none⟩ = some (.slice a2 m cb)) (hB : B < w.heap.size)
    (hu : Bts w.heap.size w a1 f) (hv : Bts w.heap.size w a2 g) (hsu : a1 = none → ca = 0) (hsv : a2 = none → cb = 0) (hn : n ≤ 1000000) (hm : m ≤ 1000000) (hp : 0 < n + m) :
    Calls Try.prog 30 #[.slice (some ⟨B, 0, none⟩) 2 2] w (NewAns (f ++ g) w) := by
  have HF := hid' hf
  have HG := hid' hg
  have HU := hid' hu
  have HV := hid' hv
  have HSU := hid' hsu
  have HSV := hid' hsv
  clear hu hv hf hg hsu hsv
  go_enter Try.func30, Try.ntmps30
  go_wp2
  go_loopg [3, 11] 2 (fun k z i wr => wr = w ∧ ((k = 2 ∧ i = .int .i64 0 ∧ z = .int .i64 0) ∨ (k = 1 ∧ i = .int .i64 1 ∧ z = .int .i64 (n : Int)) ∨ (k = 0 ∧ i = .int .i64 2 ∧ z = .int .i64 ((n : Int) + (m : Int)))))
  case atStart => exact ⟨rfl, .inl ⟨rfl, rfl, rfl⟩⟩
  case round =>
    obtain ⟨rfl, ⟨rfl, rfl, rfl⟩ | ⟨rfl, rfl, rfl⟩ | ⟨rfl, rfl, rfl⟩⟩ := hrel
    · go_wp2
      go_roundg 1
      case measure => omega
      case rel => exact ⟨rfl, .inr (.inl ⟨rfl, rfl, by simp⟩)⟩
    · go_wp2
      go_roundg 0
      case measure => omega
      case rel => exact ⟨rfl, .inr (.inr ⟨rfl, rfl, rfl⟩)⟩
    · have HGR := hid' (growB_any wr (n + m) (by omega) hp)
      simp only [Int.natCast_add] at HGR
      go_wp2_with fail
      refine HGR.out.mono ?_
      rintro e w2 ⟨v0, rfl, hown0, hb2⟩
      clear HGR
      have HO := hid' hown0
      have HB2 := hid' hb2
      have HE0 := hid' h0
      have HE1 := hid' h1
      clear hown0 hb2 h0 h1
      obtain ⟨wO, hwO⟩ : ∃ x, x = wr := ⟨wr, rfl⟩
      subst hwO
      go_wp2
      have E0 := HE0
      have E1 := HE1
      generalize (n : Int) + (m : Int) = S
      go_loopg [6, 27] 2 (fun k v i wr => ∃ done : List Int, ((k = 2 ∧ i = .int .i64 0 ∧ done = []) ∨ (k = 1 ∧ i = .int .i64 1 ∧ done = f) ∨ (k = 0 ∧ i = .int .i64 2 ∧ done = f ++ g)) ∧ Hid (Own wO.heap.size wr v done) ∧ Hid (Below wO.heap.size wO wr))
      case atStart => exact ⟨[], .inl ⟨rfl, rfl, rfl⟩, HO, HB2⟩
      case round =>
        obtain ⟨done, ⟨rfl, rfl, hd⟩ | ⟨rfl, rfl, hd⟩ | ⟨rfl, rfl, hd⟩, hown, hbel⟩ := hrel <;> rw [hd] at hown <;> clear hd
        · have d0 := (hbel.out.cell (p := ⟨B, 0, none⟩) hB).trans E0.out
          have hsz := hbel.out.size
          have HSRC := hid' (Src.of_bts (HU.out.keep hbel.out) HSU.out)
          go_wp2_with (at_builtin; refine wpList_appB rfl (.tmp 31) (.tmp 32) rfl wO.heap.size _ _ rfl hown.out a1 n ca f rfl HF.out HSRC.out (by have := HF.out; simp only [List.length_nil]; omega) hsz ?_; intro v3 w3 hown3 hk3)
          have hb3 : Hid (Below wO.heap.size wO w3) := hbel.out.trans (hk3.below hsz)
          have HO3 := hid' hown3
          clear hown3 hk3
          go_roundg 1
          case measure => omega
          case rel => exact ⟨f, .inr (.inl ⟨rfl, rfl, rfl⟩), by have := HO3.out; rw [List.nil_append] at this; exact this, hb3⟩
        · have d0 := (hbel.out.cell (p := ⟨B, 1, none⟩) hB).trans E1.out
          have hsz := hbel.out.size
          have HSRC := hid' (Src.of_bts (HV.out.keep hbel.out) HSV.out)
          go_wp2_with (at_builtin; refine wpList_appB rfl (.tmp 31) (.tmp 32) rfl wO.heap.size _ _ rfl hown.out a2 m cb g rfl HG.out HSRC.out (by have := HF.out; have := HG.out; omega) hsz ?_; intro v3 w3 hown3 hk3)
          have hb3 : Hid (Below wO.heap.size wO w3) := hbel.out.trans (hk3.below hsz)
          have HO3 := hid' hown3
          clear hown3 hk3
          go_roundg 0
          case measure => omega
          case rel => exact ⟨f ++ g, .inr (.inr ⟨rfl, rfl, rfl⟩), HO3, hb3⟩
        · go_wp2
          go_ret
          exact ⟨_, rfl, hown.out, hbel.out⟩

end Go.Proofs.Ytgalmkhgbokidaa
