/-
  What is proved here: append of bytes that were handed in; slices.Grow of no slice and slices.Concat of two, of bytes.
  What is proved here: told and Put of commands that may be told; the page's example.
  What is proved here: Put of any command; the page's example.
-/
import Derived.Test.YtgalmkhgbokidaaMgE
import Derived.Laws.AppendOwnNone
import Derived.Lib.AppendZerosOnto
import Derived.Lib.SliceRun
import Derived.Lib.Walk

namespace Go.Proofs.Ytgalmkhgbokidaa
open Go.RowKit Go.Proofs
set_option maxRecDepth 20000
set_option linter.unusedVariables false
set_option linter.unusedSimpArgs false

/-- What bytes may be put behind others: their cells. -/
def Src (w : World) (ao : Option Addr) (c : Nat) (r : List Int) : Prop := (ao = none → r = [] ∧ c = 0) ∧ ∀ ad, ao = some ad → ∀ j u, (B8 r)[j]? = some u → w.cell? (ad.add j) = some u

theorem Src.of_bts {w : World} {ao : Option Addr} {c : Nat} {r : List Int} {B : Nat} (h : Bts B w ao r) (hs : ao = none → c = 0) : Src w ao c r := by
  refine ⟨fun e => ⟨?_, hs e⟩, fun ad e j u hj => ?_⟩
  · rcases List.eq_nil_or_concat r with h' | ⟨_, _, h'⟩
    · exact h'
    · obtain ⟨b, off, e2, _⟩ := h.cells (by rw [h']; simp)
      rw [e] at e2; cases e2
  · have hp : 0 < (B8 r).length := by
      rcases Nat.eq_zero_or_pos (B8 r).length with h0 | h0
      · rw [List.length_eq_zero_iff] at h0; rw [h0] at hj; simp at hj
      · exact h0
    obtain ⟨ad', e', hc⟩ := h.src hp
    rw [e] at e'; cases e'
    exact hc j u hj

theorem Src.of_new {r : List Int} {g c : Nat} {w : World} (hc : ∀ j u, (B8 r)[j]? = some u → w.cell? ((⟨g, 0, none⟩ : Addr).add j) = some u) : Src w (some ⟨g, 0, none⟩) c r :=
  ⟨fun h => (by cases h), fun ad e => by cases e; exact hc⟩

theorem wpList_appB {w : World} {ops : Array Oper} {rest : List Oper} {o : Oper} {a : Act} {Q : Exit → Act → World → Prop} (hgd : o.guard = none) (s x : Operand)
    (ho : o.op = .call { callee := .builtin .append, args := #[s, x], argTypes := #[22, 22] }) (base : Nat) (v : Value) (l : List Int) (hs : a.eval s = v) (hown : Own base w v l)
    (ao : Option Addr) (m c : Nat) (r : List Int) (hx : a.eval x = .slice ao m c) (hm : r.length = m) (hsrc : Src w ao c r) (hlen : l.length + r.length ≤ 1000000000) (hbase : base ≤ w.heap.size)
    (h : ∀ v' w', Own base w' v' (l ++ r) → Kb base w w' → wpList Try.prog ops Q rest (a.put o.dst v') w') : wpList Try.prog ops Q (o :: rest) a w := by
  obtain ⟨i0, hi, hz0, hz1, hz2⟩ := info_parts Try.info5
  subst hm
  cases ao with
  | none =>
    obtain ⟨rfl, rfl⟩ := hsrc.1 rfl
    refine wpList_append_own_none hgd s x 22 ho base 5 i0 1 Try.underlying22 hi v l.length (B8 l) hs hown hx (h v w ?_ (Kb.refl _ _))
    simpa using hown
  | some ad =>
    refine wpList_append_own w hgd s x 22 ho base 5 i0 (.int .u8 0) 1 1 Try.underlying22 hi hz0 hz1 hz2 rfl (by decide) v l.length (B8 l) hs hown ad r.length c (B8 r) hx (by rw [length_B8]; omega) (hsrc.2 ad rfl) (B8_one _) (by unfold maxLen; omega) (by omega) hbase (fun v' w' h1 h2 _ => h v' w' ?_ (Kb.grown h2 hown))
    unfold Own
    rw [B8_append, List.length_append]
    exact h1

set_option maxHeartbeats 2000000 in
theorem growB_any (w : World) (n : Nat) (hn : n ≤ 10000000) (hpos : 0 < n) :
    Calls Try.prog 55 #[.slice none 0 0, .int .i64 (n : Int)] w fun e w' => ∃ v, e = .returned v ∧ Own w.heap.size w' v [] ∧ Below w.heap.size w w' := by
  obtain ⟨iV, hiV, hV0, hV1, hV2⟩ := info_parts Try.info5
  have hrun : ∀ ty, (Builtin.append_ #[22, 3] ty #[.slice none 0 0, .int .i64 (n : Int)]).run Try.prog w = _ := fun ty =>
    Lib.run_append_grow_zeros w 22 3 ty 5 iV _ .i64 .i64 Try.underlying22 Try.underlying3 hiV hV0 none 0 0 [] (run_firstCells_none w.drew iV.size 0 0 0) n hpos (by rw [hV1]; omega) (by omega) (by omega) (by rw [hV2]; omega) (growslice_fits (by omega) (by rw [hV2]; omega))
  have hG := grownCap_ge w (0 + n) 0 5
  have hG2 := grownCap_le_maxLen w (0 + n) 0 5 (by unfold maxLen; omega)
  have hsz : ((#[] ++ Builtin.zeroCells (Value.int .u8 0).cells n ++ Builtin.zeroCells (Value.int .u8 0).cells (grownCap w (0 + n) 0 5 - (0 + n))) : Array Value).size = grownCap w (0 + n) 0 5 * 1 := by
    simp only [Array.size_append, size_zeroCells, Value.cells]
    simp
    simp at hG
    omega
  generalize (#[] ++ Builtin.zeroCells (Value.int .u8 0).cells n ++ Builtin.zeroCells (Value.int .u8 0).cells (grownCap w (0 + n) 0 5 - (0 + n)) : Array Value) = cur at hrun hsz
  generalize grownCap w (0 + n) 0 5 = G at hrun hG hG2 hsz
  rw [Nat.zero_add] at hrun hG
  have HSZ := hid' hsz
  have HG2 := hid' hG2
  unfold maxLen at hG2
  clear hsz hiV hV0 hV1 hV2
  go_enter Try.func55, Try.ntmps55
  go_wp2_with (at_builtin; refine Lib.wpList_append_run _ rfl _ _ _ _ rfl _ _ rfl rfl _ _ (hrun _) ?_)
  all_goals go_ret
  all_goals exact ⟨_, rfl, ⟨rfl, .inr ⟨w.heap.size, G, cur, rfl, Nat.le_refl _, heap_alloc_new w.drew _, Nat.zero_le _, HG2.out, HSZ.out, rfl⟩⟩, (Below.refl _ w).drew.alloc (Nat.le_refl _) _⟩

set_option maxHeartbeats 4000000 in
theorem concatB_any (w : World) (B : Nat) (f g : List Int) (a1 a2 : Option Addr) (ca cb n m : Nat) (hf : f.length = n) (hg : g.length = m) (h0 : w.cell? ⟨B, 0, none⟩ = some (.slice a1 n ca)) (h1 : w.cell? ⟨B, 1, none⟩ = some (.slice a2 m cb)) (hB : B < w.heap.size)
    (hu : Bts w.heap.size w a1 f) (hv : Bts w.heap.size w a2 g) (hsu : a1 = none → ca = 0) (hsv : a2 = none → cb = 0) (hn : n ≤ 1000000) (hm : m ≤ 1000000) (hp : 0 < n + m) :
    Calls Try.prog 30 #[.slice (some ⟨B, 0, none⟩) 2 2] w (NewAns (f ++ g) w) := by
  have HF := hid' hf
  have HG := hid' hg
  have HU := hid' hu
  have HV := hid' hv
  have HSU := hid' hsu
  have HSV := hid' hsv
  clear hu hv hf hg hsu hsv
  go_enter Try.func30, Try.ntmps30
  go_wp2
  go_loopg [3, 11] 2 (fun k z i wr => wr = w ∧ ((k = 2 ∧ i = .int .i64 0 ∧ z = .int .i64 0) ∨ (k = 1 ∧ i = .int .i64 1 ∧ z = .int .i64 (n : Int)) ∨ (k = 0 ∧ i = .int .i64 2 ∧ z = .int .i64 ((n : Int) + (m : Int)))))
  case atStart => exact ⟨rfl, .inl ⟨rfl, rfl, rfl⟩⟩
  case round =>
    obtain ⟨rfl, ⟨rfl, rfl, rfl⟩ | ⟨rfl, rfl, rfl⟩ | ⟨rfl, rfl, rfl⟩⟩ := hrel
    · go_wp2
      go_roundg 1
      case measure => omega
      case rel => exact ⟨rfl, .inr (.inl ⟨rfl, rfl, by simp⟩)⟩
    · go_wp2
      go_roundg 0
      case measure => omega
      case rel => exact ⟨rfl, .inr (.inr ⟨rfl, rfl, rfl⟩)⟩
    · have HGR := hid' (growB_any wr (n + m) (by omega) hp)
      simp only [Int.natCast_add] at HGR
      go_wp2_with fail
      refine HGR.out.mono ?_
      rintro e w2 ⟨v0, rfl, hown0, hb2⟩
      clear HGR
      have HO := hid' hown0
      have HB2 := hid' hb2
      have HE0 := hid' h0
      have HE1 := hid' h1
      clear hown0 hb2 h0 h1
      obtain ⟨wO, hwO⟩ : ∃ x, x = wr := ⟨wr, rfl⟩
      subst hwO
      go_wp2
      have E0 := HE0
      have E1 := HE1
      generalize (n : Int) + (m : Int) = S
      go_loopg [6, 27] 2 (fun k v i wr => ∃ done : List Int, ((k = 2 ∧ i = .int .i64 0 ∧ done = []) ∨ (k = 1 ∧ i = .int .i64 1 ∧ done = f) ∨ (k = 0 ∧ i = .int .i64 2 ∧ done = f ++ g)) ∧ Hid (Own wO.heap.size wr v done) ∧ Hid (Below wO.heap.size wO wr))
      case atStart => exact ⟨[], .inl ⟨rfl, rfl, rfl⟩, HO, HB2⟩
      case round =>
        obtain ⟨done, ⟨rfl, rfl, hd⟩ | ⟨rfl, rfl, hd⟩ | ⟨rfl, rfl, hd⟩, hown, hbel⟩ := hrel <;> rw [hd] at hown <;> clear hd
        · have d0 := (hbel.out.cell (p := ⟨B, 0, none⟩) hB).trans E0.out
          have hsz := hbel.out.size
          have HSRC := hid' (Src.of_bts (HU.out.keep hbel.out) HSU.out)
          go_wp2_with (at_builtin; refine wpList_appB rfl (.tmp 31) (.tmp 32) rfl wO.heap.size _ _ rfl hown.out a1 n ca f rfl HF.out HSRC.out (by have := HF.out; simp only [List.length_nil]; omega) hsz ?_; intro v3 w3 hown3 hk3)
          have hb3 : Hid (Below wO.heap.size wO w3) := hbel.out.trans (hk3.below hsz)
          have HO3 := hid' hown3
          clear hown3 hk3
          go_roundg 1
          case measure => omega
          case rel => exact ⟨f, .inr (.inl ⟨rfl, rfl, rfl⟩), by have := HO3.out; rw [List.nil_append] at this; exact this, hb3⟩
        · have d0 := (hbel.out.cell (p := ⟨B, 1, none⟩) hB).trans E1.out
          have hsz := hbel.out.size
          have HSRC := hid' (Src.of_bts (HV.out.keep hbel.out) HSV.out)
          go_wp2_with (at_builtin; refine wpList_appB rfl (.tmp 31) (.tmp 32) rfl wO.heap.size _ _ rfl hown.out a2 m cb g rfl HG.out HSRC.out (by have := HF.out; have := HG.out; omega) hsz ?_; intro v3 w3 hown3 hk3)
          have hb3 : Hid (Below wO.heap.size wO w3) := hbel.out.trans (hk3.below hsz)
          have HO3 := hid' hown3
          clear hown3 hk3
          go_roundg 0
          case measure => omega
          case rel => exact ⟨f ++ g, .inr (.inr ⟨rfl, rfl, rfl⟩), HO3, hb3⟩
        · go_wp2
          go_ret
          exact ⟨_, rfl, hown.out, hbel.out⟩

end Go.Proofs.Ytgalmkhgbokidaa

namespace Go.Proofs.Ytgalmkhgbokidaa
open Go.RowKit Go.Proofs
set_option maxRecDepth 20000
set_option linter.unusedVariables false
set_option linter.unusedSimpArgs false

theorem nums_str {s : List Int} (h : Byt s) : nums (strOfNums s) = s := by
  unfold nums
  rw [strOfNums_data, List.map_map]
  conv => rhs; rw [← List.map_id s]
  apply List.map_congr_left
  intro z hz
  have := h z hz
  simp
  omega

theorem Own.newB {base : Nat} {w : World} {v : Value} {r : List Int} (h : Own base w v r) (hne : r ≠ []) : NewB r v w := by
  rcases h.2 with ⟨_, h0⟩ | ⟨g, cap, cur, rfl, _⟩
  · exact absurd (List.length_eq_zero_iff.1 h0) hne
  · exact ⟨g, cap, rfl, (h.lt g rfl).2, h.cells rfl⟩

/-- What a call answers: new bytes. -/
def BAns (r : List Int) (w : World) (e : Ending) (w' : World) : Prop := ∃ v, e = .returned v ∧ NewB r v w' ∧ Below w.heap.size w w'

theorem BAns.of_own {base : Nat} {r : List Int} {w w' : World} {v : Value} (h : Own base w' v r) (hne : r ≠ []) (hb : Below w.heap.size w w') : BAns r w (.returned v) w' := ⟨v, rfl, h.newB hne, hb⟩

/-- What holds while told goes on: the command's variable, its lists, the bytes so far. -/
structure TS (P : Nat → Prop) (w : World) (c : Cm) (s : CmS) (v : Value) (l : List Int) (W : World) : Prop where
  own : Own w.heap.size W v l
  byt : Byt l
  kb : Kb w.heap.size w W
  bx : Bx W w.heap.size (cmA c s) 31
  cm : CmR P w c s

theorem TS.size {P : Nat → Prop} {w : World} {c : Cm} {s : CmS} {v : Value} {l : List Int} {W : World} (h : TS P w c s v l W) : w.heap.size ≤ W.heap.size := h.kb.size
theorem TS.below {P : Nat → Prop} {w : World} {c : Cm} {s : CmS} {v : Value} {l : List Int} {W : World} (h : TS P w c s v l W) : Below w.heap.size w W := h.kb.below (Nat.le_refl _)
theorem TS.start {P : Nat → Prop} {w : World} {c : Cm} {s : CmS} (h : CmR P w c s) (d : Int) (hd : 0 ≤ d ∧ d < 256) : TS P w c s (.slice (some ⟨w.heap.size + 1, 0, none⟩) 1 1) [d] ((w.alloc (cmO c s)).alloc (.cells #[.int .u8 d] 5)) :=
  ⟨lit_own w _ _ (by omega) d, fun y hy => by simp at hy; subst hy; exact hd, ((Kb.refl _ w).alloc _).alloc _, (Bx.new w (cmA c s) 31).keep ((Below.refl _ _).alloc (Nat.le_refl _) _), h⟩
theorem TS.put {P : Nat → Prop} {w : World} {c : Cm} {s : CmS} {v v' : Value} {l r : List Int} {W W' : World} (h : TS P w c s v l W) (ho : Own w.heap.size W' v' (l ++ r)) (hr : Byt r) (hk : Kb w.heap.size W W') : TS P w c s v' (l ++ r) W' :=
  ⟨ho, h.byt.app hr, h.kb.trans hk, h.bx.kb hk (by decide), h.cm⟩
theorem TS.new {P : Nat → Prop} {w : World} {c : Cm} {s : CmS} {v v' : Value} {l r : List Int} {W W' : World} (h : TS P w c s v l W) (ho : Own W.heap.size W' v' (l ++ r)) (hr : Byt r) (hk : Below W.heap.size W W') : TS P w c s v' (l ++ r) W' := h.put (ho.base h.size) hr (Kb.of_below hk)
theorem TS.vp {P : Nat → Prop} {w : World} {c : Cm} {s : CmS} {v : Value} {l : List Int} {W : World} (h : TS P w c s v l W) : VP P W s.ra c.row := SP.on h.cm.row h.below
theorem TS.tp {P : Nat → Prop} {w : World} {c : Cm} {s : CmS} {v : Value} {l : List Int} {W : World} (h : TS P w c s v l W) : TP P W s.fa c.front := SP.on h.cm.front h.below
theorem TS.done {P : Nat → Prop} {w : World} {c : Cm} {s : CmS} {v : Value} {l : List Int} {W : World} (h : TS P w c s v l W) (e : l = cmdB c) : BAns (cmdB c) w (.returned v) W := BAns.of_own (by rw [← e]; exact h.own) (by simp [cmdB]) h.below

set_option maxHeartbeats 4000000 in
theorem told0 (P : Nat → Prop) (w : World) (node : Int) (row : List V) (t1 t2 diff : Int) (front : List T) (fuel : Int) (sheet : List Int) (ra : Option Addr) (rc : Nat) (fa : Option Addr) (fc : Nat) (sa : Option Addr) (sc : Nat) (h : CmR P w ⟨0, node, row, (t1, t2), diff, front, fuel, sheet⟩ ⟨ra, rc, fa, fc, sa, sc⟩) (hn : CmN ⟨0, node, row, (t1, t2), diff, front, fuel, sheet⟩) (hc : chk ⟨0, node, row, (t1, t2), diff, front, fuel, sheet⟩ = 0) :
    Calls Try.prog 31 #[cmV ⟨0, node, row, (t1, t2), diff, front, fuel, sheet⟩ ⟨ra, rc, fa, fc, sa, sc⟩] w (BAns (cmdB ⟨0, node, row, (t1, t2), diff, front, fuel, sheet⟩) w) := by
  have hlen := len_cmd hc hn
  have TS0 := hid' (TS.start h 0 (by omega))
  have HBY := hid' h.byt
  have hcv := (BP.bts (SP.on h.sheet TS0.out.below) h.byt).conv sheet.length sc rfl
  have hsn : sheet.length ≤ 65536 := chk_sheet hc rfl
  have HT := hid' (putText_any _ (some ⟨w.heap.size + 1, 0, none⟩) 1 [0] (strOfNums sheet) (by obtain ⟨a', c', e', _, hb', _⟩ := TS0.out.own.bts TS0.out.byt; cases e'; exact hb') (by simp) (by rw [strOfNums_size]; omega))
  rw [nums_str HBY.out, strOfNums_size] at HT
  simp only [List.length_singleton] at HT
  have HBL := hid' TS0.out.below
  have HF : Hid (cmdB ⟨0, node, row, (t1, t2), diff, front, fuel, sheet⟩ = [0] ++ (bytesOf sheet.length ++ sheet)) := rfl
  unfold cmO cmA at TS0 hcv HT HBL
  simp only at hcv HT HBL
  unfold cmV cmA
  simp only
  clear h hn hc hlen TS0
  generalize hsl : sheet.length = sn at *
  generalize strOfNums sheet = st at *
  have HSL := hid' hsl
  clear hsl
  go_enter Try.func31, Try.ntmps31
  go_wp2_with fail
  refine (usedBy_at 0 4 (by decide) _).mono ?_
  rintro e w1 ⟨rfl, rfl⟩
  go_wp2_with fail
  refine (has_at 4 1 false (by decide) _).mono ?_
  rintro e w1 ⟨rfl, rfl⟩
  go_wp2_with fail
  refine (has_at 4 2 false (by decide) _).mono ?_
  rintro e w1 ⟨rfl, rfl⟩
  go_wp2_with fail
  refine (has_at 4 4 true (by decide) _).mono ?_
  rintro e w1 ⟨rfl, rfl⟩
  go_wp2_with fail
  refine HT.out.mono ?_
  rintro e w2 ⟨g, cp, rfl, hcap, hbt, hbel⟩
  have HR : Hid (BAns (cmdB ⟨0, node, row, (t1, t2), diff, front, fuel, sheet⟩) w (.returned (.slice (some ⟨g, 0, none⟩) (1 + sz sn + sn) cp)) w2) := by
    rw [HF.out]
    have := NewB.of_bts (c := cp) hbt (by simp)
    have e : ([0] ++ (bytesOf sn ++ sheet)).length = 1 + sz sn + sn := by simp only [List.length_append, length_bytesOf, List.length_singleton, HSL.out]; omega
    rw [e] at this
    exact ⟨_, rfl, this, bel_trans' HBL.out hbel⟩
  clear hbt hbel HT HBL HF hcap hcv
  go_wp2_with fail
  refine (has_at 4 8 false (by decide) _).mono ?_
  rintro e w1 ⟨rfl, rfl⟩
  go_wp2_with fail
  refine (has_at 4 16 false (by decide) _).mono ?_
  rintro e w1 ⟨rfl, rfl⟩
  go_wp2_with fail
  refine (has_at 4 32 false (by decide) _).mono ?_
  rintro e w1 ⟨rfl, rfl⟩
  go_wp2_with fail
  refine (has_at 4 64 false (by decide) _).mono ?_
  rintro e w1 ⟨rfl, rfl⟩
  go_wp2
  go_ret
  exact HR.out

set_option maxHeartbeats 4000000 in
theorem told1 (P : Nat → Prop) (w : World) (node : Int) (row : List V) (t1 t2 diff : Int) (front : List T) (fuel : Int) (sheet : List Int) (ra : Option Addr) (rc : Nat) (fa : Option Addr) (fc : Nat) (sa : Option Addr) (sc : Nat) (h : CmR P w ⟨1, node, row, (t1, t2), diff, front, fuel, sheet⟩ ⟨ra, rc, fa, fc, sa, sc⟩) (hn : CmN ⟨1, node, row, (t1, t2), diff, front, fuel, sheet⟩) (hc : chk ⟨1, node, row, (t1, t2), diff, front, fuel, sheet⟩ = 0) :
    Calls Try.prog 31 #[cmV ⟨1, node, row, (t1, t2), diff, front, fuel, sheet⟩ ⟨ra, rc, fa, fc, sa, sc⟩] w (BAns (cmdB ⟨1, node, row, (t1, t2), diff, front, fuel, sheet⟩) w) := by
  have hlen := len_cmd hc hn
  have TS0 := hid' (TS.start h 1 (by omega))
  have RN := hid' hn.node
  have RRW := hid' hn.row
  have CRW := hid' (chk_row hc rfl)
  have RTM := hid' hn.time
  have RDF := hid' hn.diff
  have HF : Hid ((((([1] ++ oneB node) ++ rowB row) ++ timeB (t1, t2)) ++ oneB diff) = cmdB ⟨1, node, row, (t1, t2), diff, front, fuel, sheet⟩) := by unfold Hid; simp [cmdB, tailB]
  have HLEN : Hid (((((([1] ++ oneB node) ++ rowB row) ++ timeB (t1, t2)) ++ oneB diff)).length ≤ 66000) := by unfold Hid; rw [HF.out]; exact hlen
  unfold cmO at TS0
  unfold cmV
  unfold cmA at TS0 ⊢
  simp only at TS0 ⊢
  clear h hn hc hlen
  go_enter Try.func31, Try.ntmps31
  go_wp2_with fail
  refine (usedBy_at 1 57 (by decide) _).mono ?_
  rintro e w1 ⟨rfl, rfl⟩
  go_wp2_with fail
  refine (has_at 57 1 true (by decide) _).mono ?_
  rintro e wx ⟨rfl, rfl⟩
  go_wp2_with fail
  refine (putNumber_any w.heap.size _ _ [1] node TS0.out.size TS0.out.own RN.out (by have := HLEN.out; simp only [List.length_append] at this ⊢; omega)).mono ?_
  rintro e w1 ⟨v1, rfl, o1, k1⟩
  have TS1 := hid' (TS0.out.put o1 (byt_one _) k1)
  clear o1 k1 TS0
  have q1_2 : w1.cell? ⟨w.heap.size, 2, none⟩ = some (.slice ra row.length rc) := TS1.out.bx.cell 2
  have q1_3 : w1.cell? ⟨w.heap.size, 3, none⟩ = some (.int .i64 t1) := TS1.out.bx.cell 3
  have q1_4 : w1.cell? ⟨w.heap.size, 4, none⟩ = some (.int .i64 t2) := TS1.out.bx.cell 4
  have q1_5 : w1.cell? ⟨w.heap.size, 5, none⟩ = some (.int .i64 diff) := TS1.out.bx.cell 5
  go_wp2_with fail
  refine (has_at 57 2 false (by decide) _).mono ?_
  rintro e wx ⟨rfl, rfl⟩
  go_wp2_with fail
  refine (has_at 57 4 false (by decide) _).mono ?_
  rintro e wx ⟨rfl, rfl⟩
  go_wp2_with fail
  refine (has_at 57 8 true (by decide) _).mono ?_
  rintro e wx ⟨rfl, rfl⟩
  go_wp2_with fail
  obtain ⟨a2, c2, hv2, hc2, hb2, _⟩ := TS1.out.own.bts TS1.out.byt
  rw [hv2]
  refine (rowPut_any P _ a2 c2 ([1] ++ oneB node) ra rc row hb2 TS1.out.vp CRW.out RRW.out (by have := HLEN.out; simp only [List.length_append] at this ⊢; omega)).mono ?_
  rintro e w2 ⟨v2, rfl, o2, k2⟩
  have TS2 := hid' (TS1.out.new o2 (byt_row _ CRW.out) k2)
  clear o2 k2 hb2 hc2 hv2 TS1
  have q2_3 : w2.cell? ⟨w.heap.size, 3, none⟩ = some (.int .i64 t1) := TS2.out.bx.cell 3
  have q2_4 : w2.cell? ⟨w.heap.size, 4, none⟩ = some (.int .i64 t2) := TS2.out.bx.cell 4
  have q2_5 : w2.cell? ⟨w.heap.size, 5, none⟩ = some (.int .i64 diff) := TS2.out.bx.cell 5
  go_wp2_with fail
  refine (has_at 57 16 true (by decide) _).mono ?_
  rintro e wx ⟨rfl, rfl⟩
  go_wp2_with fail
  refine (putTime_any w.heap.size _ _ (([1] ++ oneB node) ++ rowB row) (t1, t2) TS2.out.size TS2.out.own RTM.out (by have := HLEN.out; simp only [List.length_append] at this ⊢; omega)).mono ?_
  rintro e w3 ⟨v3, rfl, o3, k3⟩
  have TS3 := hid' (TS2.out.put o3 (byt_time _) k3)
  clear o3 k3 TS2
  have q3_5 : w3.cell? ⟨w.heap.size, 5, none⟩ = some (.int .i64 diff) := TS3.out.bx.cell 5
  go_wp2_with fail
  refine (has_at 57 32 true (by decide) _).mono ?_
  rintro e wx ⟨rfl, rfl⟩
  go_wp2_with fail
  refine (putNumber_any w.heap.size _ _ ((([1] ++ oneB node) ++ rowB row) ++ timeB (t1, t2)) diff TS3.out.size TS3.out.own RDF.out (by have := HLEN.out; simp only [List.length_append] at this ⊢; omega)).mono ?_
  rintro e w4 ⟨v4, rfl, o4, k4⟩
  have TS4 := hid' (TS3.out.put o4 (byt_one _) k4)
  clear o4 k4 TS3
  go_wp2_with fail
  refine (has_at 57 64 false (by decide) _).mono ?_
  rintro e wx ⟨rfl, rfl⟩
  have HR := hid' (TS4.out.done HF.out)
  clear TS4 HLEN HF
  go_wp2
  go_ret
  exact HR.out

set_option maxHeartbeats 4000000 in
theorem told2 (P : Nat → Prop) (w : World) (node : Int) (row : List V) (t1 t2 diff : Int) (front : List T) (fuel : Int) (sheet : List Int) (ra : Option Addr) (rc : Nat) (fa : Option Addr) (fc : Nat) (sa : Option Addr) (sc : Nat) (h : CmR P w ⟨2, node, row, (t1, t2), diff, front, fuel, sheet⟩ ⟨ra, rc, fa, fc, sa, sc⟩) (hn : CmN ⟨2, node, row, (t1, t2), diff, front, fuel, sheet⟩) (hc : chk ⟨2, node, row, (t1, t2), diff, front, fuel, sheet⟩ = 0) :
    Calls Try.prog 31 #[cmV ⟨2, node, row, (t1, t2), diff, front, fuel, sheet⟩ ⟨ra, rc, fa, fc, sa, sc⟩] w (BAns (cmdB ⟨2, node, row, (t1, t2), diff, front, fuel, sheet⟩) w) := by
  have hlen := len_cmd hc hn
  have TS0 := hid' (TS.start h 2 (by omega))
  have RN := hid' hn.node
  have RFR := hid' hn.front
  have CFR := hid' (chk_front hc (by simp))
  have HF : Hid ((([2] ++ oneB node) ++ frontB front) = cmdB ⟨2, node, row, (t1, t2), diff, front, fuel, sheet⟩) := by unfold Hid; simp [cmdB, tailB]
  have HLEN : Hid (((([2] ++ oneB node) ++ frontB front)).length ≤ 66000) := by unfold Hid; rw [HF.out]; exact hlen
  unfold cmO at TS0
  unfold cmV
  unfold cmA at TS0 ⊢
  simp only at TS0 ⊢
  clear h hn hc hlen
  go_enter Try.func31, Try.ntmps31
  go_wp2_with fail
  refine (usedBy_at 2 65 (by decide) _).mono ?_
  rintro e w1 ⟨rfl, rfl⟩
  go_wp2_with fail
  refine (has_at 65 1 true (by decide) _).mono ?_
  rintro e wx ⟨rfl, rfl⟩
  go_wp2_with fail
  refine (putNumber_any w.heap.size _ _ [2] node TS0.out.size TS0.out.own RN.out (by have := HLEN.out; simp only [List.length_append] at this ⊢; omega)).mono ?_
  rintro e w1 ⟨v1, rfl, o1, k1⟩
  have TS1 := hid' (TS0.out.put o1 (byt_one _) k1)
  clear o1 k1 TS0
  have q1_6 : w1.cell? ⟨w.heap.size, 6, none⟩ = some (.slice fa front.length fc) := TS1.out.bx.cell 6
  go_wp2_with fail
  refine (has_at 65 2 false (by decide) _).mono ?_
  rintro e wx ⟨rfl, rfl⟩
  go_wp2_with fail
  refine (has_at 65 4 false (by decide) _).mono ?_
  rintro e wx ⟨rfl, rfl⟩
  go_wp2_with fail
  refine (has_at 65 8 false (by decide) _).mono ?_
  rintro e wx ⟨rfl, rfl⟩
  go_wp2_with fail
  refine (has_at 65 16 false (by decide) _).mono ?_
  rintro e wx ⟨rfl, rfl⟩
  go_wp2_with fail
  refine (has_at 65 32 false (by decide) _).mono ?_
  rintro e wx ⟨rfl, rfl⟩
  go_wp2_with fail
  refine (has_at 65 64 true (by decide) _).mono ?_
  rintro e wx ⟨rfl, rfl⟩
  go_wp2_with fail
  obtain ⟨a2, c2, hv2, hc2, hb2, _⟩ := TS1.out.own.bts TS1.out.byt
  rw [hv2]
  refine (putFront_any P _ a2 c2 ([2] ++ oneB node) fa fc front hb2 TS1.out.tp RFR.out (by have := HLEN.out; simp only [List.length_append] at this ⊢; omega) (Nat.le_trans CFR.out (by omega))).mono ?_
  rintro e w2 ⟨v2, rfl, o2, k2⟩
  have TS2 := hid' (TS1.out.new o2 (byt_front _) k2)
  clear o2 k2 hb2 hc2 hv2 TS1
  have HR := hid' (TS2.out.done HF.out)
  clear TS2 HLEN HF
  go_wp2
  go_ret
  exact HR.out

set_option maxHeartbeats 4000000 in
theorem told3 (P : Nat → Prop) (w : World) (node : Int) (row : List V) (t1 t2 diff : Int) (front : List T) (fuel : Int) (sheet : List Int) (ra : Option Addr) (rc : Nat) (fa : Option Addr) (fc : Nat) (sa : Option Addr) (sc : Nat) (h : CmR P w ⟨3, node, row, (t1, t2), diff, front, fuel, sheet⟩ ⟨ra, rc, fa, fc, sa, sc⟩) (hn : CmN ⟨3, node, row, (t1, t2), diff, front, fuel, sheet⟩) (hc : chk ⟨3, node, row, (t1, t2), diff, front, fuel, sheet⟩ = 0) :
    Calls Try.prog 31 #[cmV ⟨3, node, row, (t1, t2), diff, front, fuel, sheet⟩ ⟨ra, rc, fa, fc, sa, sc⟩] w (BAns (cmdB ⟨3, node, row, (t1, t2), diff, front, fuel, sheet⟩) w) := by
  have hlen := len_cmd hc hn
  have TS0 := hid' (TS.start h 3 (by omega))
  have RN := hid' hn.node
  have RF := hid' hn.fuel
  have HF : Hid ((([3] ++ oneB node) ++ oneB fuel) = cmdB ⟨3, node, row, (t1, t2), diff, front, fuel, sheet⟩) := by unfold Hid; simp [cmdB, tailB]
  have HLEN : Hid (((([3] ++ oneB node) ++ oneB fuel)).length ≤ 66000) := by unfold Hid; rw [HF.out]; exact hlen
  unfold cmO at TS0
  unfold cmV
  unfold cmA at TS0 ⊢
  simp only at TS0 ⊢
  clear h hn hc hlen
  go_enter Try.func31, Try.ntmps31
  go_wp2_with fail
  refine (usedBy_at 3 3 (by decide) _).mono ?_
  rintro e w1 ⟨rfl, rfl⟩
  go_wp2_with fail
  refine (has_at 3 1 true (by decide) _).mono ?_
  rintro e wx ⟨rfl, rfl⟩
  go_wp2_with fail
  refine (putNumber_any w.heap.size _ _ [3] node TS0.out.size TS0.out.own RN.out (by have := HLEN.out; simp only [List.length_append] at this ⊢; omega)).mono ?_
  rintro e w1 ⟨v1, rfl, o1, k1⟩
  have TS1 := hid' (TS0.out.put o1 (byt_one _) k1)
  clear o1 k1 TS0
  have q1_7 : w1.cell? ⟨w.heap.size, 7, none⟩ = some (.int .i64 fuel) := TS1.out.bx.cell 7
  go_wp2_with fail
  refine (has_at 3 2 true (by decide) _).mono ?_
  rintro e wx ⟨rfl, rfl⟩
  go_wp2_with fail
  refine (putNumber_any w.heap.size _ _ ([3] ++ oneB node) fuel TS1.out.size TS1.out.own RF.out (by have := HLEN.out; simp only [List.length_append] at this ⊢; omega)).mono ?_
  rintro e w2 ⟨v2, rfl, o2, k2⟩
  have TS2 := hid' (TS1.out.put o2 (byt_one _) k2)
  clear o2 k2 TS1
  go_wp2_with fail
  refine (has_at 3 4 false (by decide) _).mono ?_
  rintro e wx ⟨rfl, rfl⟩
  go_wp2_with fail
  refine (has_at 3 8 false (by decide) _).mono ?_
  rintro e wx ⟨rfl, rfl⟩
  go_wp2_with fail
  refine (has_at 3 16 false (by decide) _).mono ?_
  rintro e wx ⟨rfl, rfl⟩
  go_wp2_with fail
  refine (has_at 3 32 false (by decide) _).mono ?_
  rintro e wx ⟨rfl, rfl⟩
  go_wp2_with fail
  refine (has_at 3 64 false (by decide) _).mono ?_
  rintro e wx ⟨rfl, rfl⟩
  have HR := hid' (TS2.out.done HF.out)
  clear TS2 HLEN HF
  go_wp2
  go_ret
  exact HR.out

set_option maxHeartbeats 4000000 in
theorem told4 (P : Nat → Prop) (w : World) (node : Int) (row : List V) (t1 t2 diff : Int) (front : List T) (fuel : Int) (sheet : List Int) (ra : Option Addr) (rc : Nat) (fa : Option Addr) (fc : Nat) (sa : Option Addr) (sc : Nat) (h : CmR P w ⟨4, node, row, (t1, t2), diff, front, fuel, sheet⟩ ⟨ra, rc, fa, fc, sa, sc⟩) (hn : CmN ⟨4, node, row, (t1, t2), diff, front, fuel, sheet⟩) (hc : chk ⟨4, node, row, (t1, t2), diff, front, fuel, sheet⟩ = 0) :
    Calls Try.prog 31 #[cmV ⟨4, node, row, (t1, t2), diff, front, fuel, sheet⟩ ⟨ra, rc, fa, fc, sa, sc⟩] w (BAns (cmdB ⟨4, node, row, (t1, t2), diff, front, fuel, sheet⟩) w) := by
  have hlen := len_cmd hc hn
  have TS0 := hid' (TS.start h 4 (by omega))
  have RN := hid' hn.node
  have RFR := hid' hn.front
  have CFR := hid' (chk_front hc (by simp))
  have HF : Hid ((([4] ++ oneB node) ++ frontB front) = cmdB ⟨4, node, row, (t1, t2), diff, front, fuel, sheet⟩) := by unfold Hid; simp [cmdB, tailB]
  have HLEN : Hid (((([4] ++ oneB node) ++ frontB front)).length ≤ 66000) := by unfold Hid; rw [HF.out]; exact hlen
  unfold cmO at TS0
  unfold cmV
  unfold cmA at TS0 ⊢
  simp only at TS0 ⊢
  clear h hn hc hlen
  go_enter Try.func31, Try.ntmps31
  go_wp2_with fail
  refine (usedBy_at 4 65 (by decide) _).mono ?_
  rintro e w1 ⟨rfl, rfl⟩
  go_wp2_with fail
  refine (has_at 65 1 true (by decide) _).mono ?_
  rintro e wx ⟨rfl, rfl⟩
  go_wp2_with fail
  refine (putNumber_any w.heap.size _ _ [4] node TS0.out.size TS0.out.own RN.out (by have := HLEN.out; simp only [List.length_append] at this ⊢; omega)).mono ?_
  rintro e w1 ⟨v1, rfl, o1, k1⟩
  have TS1 := hid' (TS0.out.put o1 (byt_one _) k1)
  clear o1 k1 TS0
  have q1_6 : w1.cell? ⟨w.heap.size, 6, none⟩ = some (.slice fa front.length fc) := TS1.out.bx.cell 6
  go_wp2_with fail
  refine (has_at 65 2 false (by decide) _).mono ?_
  rintro e wx ⟨rfl, rfl⟩
  go_wp2_with fail
  refine (has_at 65 4 false (by decide) _).mono ?_
  rintro e wx ⟨rfl, rfl⟩
  go_wp2_with fail
  refine (has_at 65 8 false (by decide) _).mono ?_
  rintro e wx ⟨rfl, rfl⟩
  go_wp2_with fail
  refine (has_at 65 16 false (by decide) _).mono ?_
  rintro e wx ⟨rfl, rfl⟩
  go_wp2_with fail
  refine (has_at 65 32 false (by decide) _).mono ?_
  rintro e wx ⟨rfl, rfl⟩
  go_wp2_with fail
  refine (has_at 65 64 true (by decide) _).mono ?_
  rintro e wx ⟨rfl, rfl⟩
  go_wp2_with fail
  obtain ⟨a2, c2, hv2, hc2, hb2, _⟩ := TS1.out.own.bts TS1.out.byt
  rw [hv2]
  refine (putFront_any P _ a2 c2 ([4] ++ oneB node) fa fc front hb2 TS1.out.tp RFR.out (by have := HLEN.out; simp only [List.length_append] at this ⊢; omega) (Nat.le_trans CFR.out (by omega))).mono ?_
  rintro e w2 ⟨v2, rfl, o2, k2⟩
  have TS2 := hid' (TS1.out.new o2 (byt_front _) k2)
  clear o2 k2 hb2 hc2 hv2 TS1
  have HR := hid' (TS2.out.done HF.out)
  clear TS2 HLEN HF
  go_wp2
  go_ret
  exact HR.out

set_option maxHeartbeats 4000000 in
theorem told5 (P : Nat → Prop) (w : World) (node : Int) (row : List V) (t1 t2 diff : Int) (front : List T) (fuel : Int) (sheet : List Int) (ra : Option Addr) (rc : Nat) (fa : Option Addr) (fc : Nat) (sa : Option Addr) (sc : Nat) (h : CmR P w ⟨5, node, row, (t1, t2), diff, front, fuel, sheet⟩ ⟨ra, rc, fa, fc, sa, sc⟩) (hn : CmN ⟨5, node, row, (t1, t2), diff, front, fuel, sheet⟩) (hc : chk ⟨5, node, row, (t1, t2), diff, front, fuel, sheet⟩ = 0) :
    Calls Try.prog 31 #[cmV ⟨5, node, row, (t1, t2), diff, front, fuel, sheet⟩ ⟨ra, rc, fa, fc, sa, sc⟩] w (BAns (cmdB ⟨5, node, row, (t1, t2), diff, front, fuel, sheet⟩) w) := by
  have hlen := len_cmd hc hn
  have TS0 := hid' (TS.start h 5 (by omega))
  have RN := hid' hn.node
  have RTM := hid' hn.time
  have HF : Hid ((([5] ++ oneB node) ++ timeB (t1, t2)) = cmdB ⟨5, node, row, (t1, t2), diff, front, fuel, sheet⟩) := by unfold Hid; simp [cmdB, tailB]
  have HLEN : Hid (((([5] ++ oneB node) ++ timeB (t1, t2))).length ≤ 66000) := by unfold Hid; rw [HF.out]; exact hlen
  unfold cmO at TS0
  unfold cmV
  unfold cmA at TS0 ⊢
  simp only at TS0 ⊢
  clear h hn hc hlen
  go_enter Try.func31, Try.ntmps31
  go_wp2_with fail
  refine (usedBy_at 5 17 (by decide) _).mono ?_
  rintro e w1 ⟨rfl, rfl⟩
  go_wp2_with fail
  refine (has_at 17 1 true (by decide) _).mono ?_
  rintro e wx ⟨rfl, rfl⟩
  go_wp2_with fail
  refine (putNumber_any w.heap.size _ _ [5] node TS0.out.size TS0.out.own RN.out (by have := HLEN.out; simp only [List.length_append] at this ⊢; omega)).mono ?_
  rintro e w1 ⟨v1, rfl, o1, k1⟩
  have TS1 := hid' (TS0.out.put o1 (byt_one _) k1)
  clear o1 k1 TS0
  have q1_3 : w1.cell? ⟨w.heap.size, 3, none⟩ = some (.int .i64 t1) := TS1.out.bx.cell 3
  have q1_4 : w1.cell? ⟨w.heap.size, 4, none⟩ = some (.int .i64 t2) := TS1.out.bx.cell 4
  go_wp2_with fail
  refine (has_at 17 2 false (by decide) _).mono ?_
  rintro e wx ⟨rfl, rfl⟩
  go_wp2_with fail
  refine (has_at 17 4 false (by decide) _).mono ?_
  rintro e wx ⟨rfl, rfl⟩
  go_wp2_with fail
  refine (has_at 17 8 false (by decide) _).mono ?_
  rintro e wx ⟨rfl, rfl⟩
  go_wp2_with fail
  refine (has_at 17 16 true (by decide) _).mono ?_
  rintro e wx ⟨rfl, rfl⟩
  go_wp2_with fail
  refine (putTime_any w.heap.size _ _ ([5] ++ oneB node) (t1, t2) TS1.out.size TS1.out.own RTM.out (by have := HLEN.out; simp only [List.length_append] at this ⊢; omega)).mono ?_
  rintro e w2 ⟨v2, rfl, o2, k2⟩
  have TS2 := hid' (TS1.out.put o2 (byt_time _) k2)
  clear o2 k2 TS1
  go_wp2_with fail
  refine (has_at 17 32 false (by decide) _).mono ?_
  rintro e wx ⟨rfl, rfl⟩
  go_wp2_with fail
  refine (has_at 17 64 false (by decide) _).mono ?_
  rintro e wx ⟨rfl, rfl⟩
  have HR := hid' (TS2.out.done HF.out)
  clear TS2 HLEN HF
  go_wp2
  go_ret
  exact HR.out

set_option maxHeartbeats 4000000 in
theorem told6 (P : Nat → Prop) (w : World) (node : Int) (row : List V) (t1 t2 diff : Int) (front : List T) (fuel : Int) (sheet : List Int) (ra : Option Addr) (rc : Nat) (fa : Option Addr) (fc : Nat) (sa : Option Addr) (sc : Nat) (h : CmR P w ⟨6, node, row, (t1, t2), diff, front, fuel, sheet⟩ ⟨ra, rc, fa, fc, sa, sc⟩) (hn : CmN ⟨6, node, row, (t1, t2), diff, front, fuel, sheet⟩) (hc : chk ⟨6, node, row, (t1, t2), diff, front, fuel, sheet⟩ = 0) :
    Calls Try.prog 31 #[cmV ⟨6, node, row, (t1, t2), diff, front, fuel, sheet⟩ ⟨ra, rc, fa, fc, sa, sc⟩] w (BAns (cmdB ⟨6, node, row, (t1, t2), diff, front, fuel, sheet⟩) w) := by
  have hlen := len_cmd hc hn
  have TS0 := hid' (TS.start h 6 (by omega))
  have RN := hid' hn.node
  have HF : Hid (([6] ++ oneB node) = cmdB ⟨6, node, row, (t1, t2), diff, front, fuel, sheet⟩) := by unfold Hid; simp [cmdB, tailB]
  have HLEN : Hid ((([6] ++ oneB node)).length ≤ 66000) := by unfold Hid; rw [HF.out]; exact hlen
  unfold cmO at TS0
  unfold cmV
  unfold cmA at TS0 ⊢
  simp only at TS0 ⊢
  clear h hn hc hlen
  go_enter Try.func31, Try.ntmps31
  go_wp2_with fail
  refine (usedBy_at 6 1 (by decide) _).mono ?_
  rintro e w1 ⟨rfl, rfl⟩
  go_wp2_with fail
  refine (has_at 1 1 true (by decide) _).mono ?_
  rintro e wx ⟨rfl, rfl⟩
  go_wp2_with fail
  refine (putNumber_any w.heap.size _ _ [6] node TS0.out.size TS0.out.own RN.out (by have := HLEN.out; simp only [List.length_append] at this ⊢; omega)).mono ?_
  rintro e w1 ⟨v1, rfl, o1, k1⟩
  have TS1 := hid' (TS0.out.put o1 (byt_one _) k1)
  clear o1 k1 TS0
  go_wp2_with fail
  refine (has_at 1 2 false (by decide) _).mono ?_
  rintro e wx ⟨rfl, rfl⟩
  go_wp2_with fail
  refine (has_at 1 4 false (by decide) _).mono ?_
  rintro e wx ⟨rfl, rfl⟩
  go_wp2_with fail
  refine (has_at 1 8 false (by decide) _).mono ?_
  rintro e wx ⟨rfl, rfl⟩
  go_wp2_with fail
  refine (has_at 1 16 false (by decide) _).mono ?_
  rintro e wx ⟨rfl, rfl⟩
  go_wp2_with fail
  refine (has_at 1 32 false (by decide) _).mono ?_
  rintro e wx ⟨rfl, rfl⟩
  go_wp2_with fail
  refine (has_at 1 64 false (by decide) _).mono ?_
  rintro e wx ⟨rfl, rfl⟩
  have HR := hid' (TS1.out.done HF.out)
  clear TS1 HLEN HF
  go_wp2
  go_ret
  exact HR.out

theorem told_any (P : Nat → Prop) (w : World) (c : Cm) (s : CmS) (h : CmR P w c s) (hn : CmN c) (hc : chk c = 0) : Calls Try.prog 31 #[cmV c s] w (BAns (cmdB c) w) := by
  obtain ⟨l0, l1⟩ := chk_lo hc
  obtain ⟨op, node, row, ⟨t1, t2⟩, diff, front, fuel, sheet⟩ := c
  obtain ⟨ra, rc, fa, fc, sa, sc⟩ := s
  simp only at l0 l1
  rcases op_cases l0 l1 with rfl | rfl | rfl | rfl | rfl | rfl | rfl
  · exact told0 P w node row t1 t2 diff front fuel sheet ra rc fa fc sa sc h hn hc
  · exact told1 P w node row t1 t2 diff front fuel sheet ra rc fa fc sa sc h hn hc
  · exact told2 P w node row t1 t2 diff front fuel sheet ra rc fa fc sa sc h hn hc
  · exact told3 P w node row t1 t2 diff front fuel sheet ra rc fa fc sa sc h hn hc
  · exact told4 P w node row t1 t2 diff front fuel sheet ra rc fa fc sa sc h hn hc
  · exact told5 P w node row t1 t2 diff front fuel sheet ra rc fa fc sa sc h hn hc
  · exact told6 P w node row t1 t2 diff front fuel sheet ra rc fa fc sa sc h hn hc

end Go.Proofs.Ytgalmkhgbokidaa

namespace Go.Proofs.Ytgalmkhgbokidaa
open Go.RowKit Go.Proofs
set_option maxRecDepth 20000
set_option linter.unusedVariables false
set_option linter.unusedSimpArgs false

/-- The nine cells of a command's variable. -/
theorem cm_cells {w : World} {b : Nat} {c : Cm} {s : CmS} {t : TypeId} (h : Bx w b (cmA c s) t) :
    w.cell? ⟨b, 0, none⟩ = some (.int .i64 c.op) ∧ w.cell? ⟨b, 1, none⟩ = some (.int .i64 c.node) ∧ w.cell? ⟨b, 2, none⟩ = some (.slice s.ra c.row.length s.rc) ∧ w.cell? ⟨b, 3, none⟩ = some (.int .i64 c.time.1) ∧ w.cell? ⟨b, 4, none⟩ = some (.int .i64 c.time.2) ∧ w.cell? ⟨b, 5, none⟩ = some (.int .i64 c.diff) ∧ w.cell? ⟨b, 6, none⟩ = some (.slice s.fa c.front.length s.fc) ∧ w.cell? ⟨b, 7, none⟩ = some (.int .i64 c.fuel) ∧ w.cell? ⟨b, 8, none⟩ = some (.slice s.sa c.sheet.length s.sc) :=
  ⟨h.cell 0, h.cell 1, h.cell 2, h.cell 3, h.cell 4, h.cell 5, h.cell 6, h.cell 7, h.cell 8⟩

theorem NewB.bts {r : List Int} {v : Value} {w : World} (h : NewB r v w) (hr : Byt r) : ∃ g c, v = .slice (some ⟨g, 0, none⟩) r.length c ∧ Bts w.heap.size w (some ⟨g, 0, none⟩) r := by
  obtain ⟨g, c, rfl, hg, hc⟩ := h
  refine ⟨g, c, rfl, hr, fun hne => ⟨g, 0, rfl, hg, fun i hi => ?_⟩⟩
  have := hc i (.int .u8 (r.getD i 0)) (by simp [B8, List.getD, List.getElem?_eq_getElem hi])
  rwa [addr_add] at this

theorem cmdB_pos (c : Cm) : 0 < (cmdB c).length := by simp [cmdB]

/-- What Put answers. -/
def PAns (l : List Int) (c : Cm) (w : World) (e : Ending) (w' : World) : Prop :=
  (chk c = 0 ∧ ∃ v, e = .returned (.tuple #[v, .int .i64 0]) ∧ Own w.heap.size w' v (l ++ cmdB c) ∧ Below w.heap.size w w') ∨
  (chk c ≠ 0 ∧ e = .returned (.tuple #[.slice none 0 0, .int .i64 (chk c)]) ∧ Below w.heap.size w w')

set_option maxHeartbeats 4000000 in
theorem wPut_any (P : Nat → Prop) (w : World) (a : Option Addr) (cap : Nat) (l : List Int) (c : Cm) (s : CmS) (hb : Bts w.heap.size w a l) (hs : a = none → cap = 0) (hl : l.length ≤ 100000) (h : CmR P w c s) (hn : CmN c) :
    Calls Try.prog 10 #[.slice a l.length cap, cmV c s] w (PAns l c w) := by
  have BA : Below w.heap.size w (w.alloc (cmO c s)) := (Below.refl _ _).alloc (Nat.le_refl _) _
  have HB := hid' BA
  have HX := hid' (Bx.new w (cmA c s) 31)
  have HCK := hid' (wCheck_any P _ c s (h.on BA))
  have HTD := hid' (fun W (hW : Below w.heap.size w W) (hc : chk c = 0) => told_any P W c s (h.on hW) hn hc)
  have HBT := hid' hb
  have HSH := hid' hs
  have HBY : Hid (chk c = 0 → Byt (cmdB c) ∧ (cmdB c).length ≤ 66000 ∧ cmdB c ≠ []) := fun hc => ⟨byt_cmd hc h.byt, len_cmd hc hn, by simp [cmdB]⟩
  have HP1 : Hid (∀ v w', chk c = 0 → Own w.heap.size w' v (l ++ cmdB c) → Below w.heap.size w w' → PAns l c w (.returned (.tuple #[v, .int .i64 0])) w') := fun v w' h1 h2 h3 => .inl ⟨h1, v, rfl, h2, h3⟩
  have HP2 : Hid (∀ q w', q = chk c → q ≠ 0 → Below w.heap.size w w' → PAns l c w (.returned (.tuple #[.slice none 0 0, .int .i64 q])) w') := fun q w' h1 h2 h3 => .inr ⟨by rw [← h1]; exact h2, by rw [h1], h3⟩
  unfold cmO at HB HX HCK
  unfold cmV at HCK HTD ⊢
  unfold cmA at HB HX HCK HTD ⊢
  clear h hn hb hs BA
  go_enter Try.func10, Try.ntmps10
  go_wp2_with fail
  refine HCK.out.mono ?_
  rintro e w1 ⟨rfl, hb1⟩
  have HB1 := hid' (bel_trans' HB.out hb1)
  have HX1 := hid' (HX.out.keep hb1)
  clear HCK HB HX hb1
  by_cases hc : chk c = 0
  · obtain ⟨k0, k1, k2, k3, k4, k5, k6, k7, k8⟩ := cm_cells HX1.out
    have HT := hid' (HTD.out w1 HB1.out hc)
    obtain ⟨hby, hln, hne⟩ := HBY.out hc
    have HBB := hid' hby
    rw [hc]
    clear HTD HBY hby hne
    go_wp2_with fail
    refine HT.out.mono ?_
    rintro e w2 ⟨v2, rfl, hnew, hb2⟩
    obtain ⟨g2, c2, rfl, hbt2⟩ := hnew.bts HBB.out
    have HB2 := hid' (bel_trans' HB1.out hb2)
    have HBT2 := hid' hbt2
    have hA : Below w2.heap.size w2 (w2.alloc (.cells #[.slice a l.length cap, .slice (some ⟨g2, 0, none⟩) (cmdB c).length c2] 22)) := (Below.refl _ _).alloc (Nat.le_refl _) _
    have HB3 := hid' (bel_trans' HB2.out hA)
    have HCC := hid' (concatB_any (w2.alloc (.cells #[.slice a l.length cap, .slice (some ⟨g2, 0, none⟩) (cmdB c).length c2] 22)) w2.heap.size l (cmdB c) a (some ⟨g2, 0, none⟩) cap c2 l.length (cmdB c).length rfl rfl ((Bx.new w2 _ _).cell 0) ((Bx.new w2 _ _).cell 1) (by simp) ((HBT.out.keep HB3.out).mono HB3.out.size) ((HBT2.out.keep hA).mono hA.size) HSH.out (fun e => by cases e) (by omega) (by omega) (by have := cmdB_pos c; omega))
    clear HT hnew hb2 hbt2 hA HBT2 HB2 HBT HSH
    generalize hcl : (cmdB c).length = cn at *
    generalize hll : l.length = ln at *
    go_wp2_with fail
    refine HCC.out.mono ?_
    rintro e w4 ⟨v4, rfl, ho4, hb4⟩
    have HF := hid' (HP1.out v4 w4 hc (ho4.base HB3.out.size) (bel_trans' HB3.out hb4))
    clear HCC ho4 hb4 HB3 HX1 k0 k1 k2 k3 k4 k5 k6 k7 k8
    go_wp2
    go_ret2
    exact HF.out
  · have HF := hid' (HP2.out (chk c) w1 rfl hc HB1.out)
    have hc' : (chk c != 0) = true := by simpa using hc
    generalize chk c = q at *
    clear HTD HBY HP1 HP2 HX1 HB1
    go_wp2
    go_ret2
    exact HF.out

theorem str3 : strOfNums [3, 4, 10] = ⟨#[3, 4, 10]⟩ := by decide

def c3 : Cm := ⟨3, 2, [], (0, 0), 0, [], 5, []⟩

theorem cmR0 (P : Nat → Prop) (w : World) (op node : Int) (t : T) (diff fuel : Int) : CmR P w ⟨op, node, [], t, diff, [], fuel, []⟩ s0 :=
  ⟨SP.nil _ _ _, SP.nil _ _ _, SP.nil _ _ _, fun z hz => by simp at hz, Sh.nil, Sh.nil, Sh.nil⟩

theorem chk3 : chk c3 = 0 := by decide
theorem bytes3 : cmdB c3 = [3, 4, 10] := by decide

set_option maxHeartbeats 4000000 in
theorem live_any (w : World) : Calls Try.prog 9 #[] w fun e w' => e = .returned (.bool true) ∧ Below w.heap.size w w' := by
  have HP := hid' (wPut_any (fun _ => True) w none 0 [] c3 s0 (Bts.nil _ _ _) (fun _ => rfl) (by simp) (cmR0 _ _ _ _ _ _ _) ⟨by unfold R64 c3; simp, by unfold R64 c3; simp, r64_0, by unfold R64 c3; simp, ⟨r64_0, r64_0⟩, by simp [c3], by simp [c3]⟩)
  unfold cmV cmA s0 at HP
  have hc3 : c3 = ⟨3, 2, [], (0, 0), 0, [], 5, []⟩ := rfl
  rw [hc3] at HP
  simp only [List.length_nil] at HP
  go_enter Try.func9, Try.ntmps9
  go_wp2_with fail
  refine HP.out.mono ?_
  rintro e w1 (⟨_, v, rfl, ho, hb⟩ | ⟨h, _⟩)
  · rw [← hc3, bytes3, List.nil_append] at ho
    obtain ⟨a, c, rfl, hcap, hbt, _⟩ := ho.bts (fun z hz => by simp at hz; omega)
    have hcv := hbt.conv 3 c rfl
    rw [str3] at hcv
    have HB := hid' hb
    clear HP ho hb hbt
    simp only [List.length_cons, List.length_nil]
    go_wp2_with fail
    refine (code_any 0 _).mono ?_
    rintro e w2 ⟨rfl, rfl⟩
    go_wp2
    go_ret
    exact ⟨rfl, HB.out⟩
  · exact absurd chk3 h

end Go.Proofs.Ytgalmkhgbokidaa
