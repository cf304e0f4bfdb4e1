/-
  What is proved here: hasTooMany, hasTooLong and Check of the program: which plans may be told.
-/
import Derived.Test.YtjpjeledbjpaeaaPuts
import Derived.Test.YtjpjeledbjpaeaaLong
namespace Go.Proofs.Ytjpjeledbjpaeaa
open Go.RowKit Go.Proofs
set_option maxRecDepth 20000
set_option linter.unusedVariables false
set_option linter.unusedSimpArgs false

def manyT (e : List V) : Bool := decide (64 < e.length)
def longS (t : V) : Bool := decide (4096 < t.2.2.size)
def longT (e : List V) : Bool := e.any longS
/-- Is a list of the node longer than may be? -/
def ndMany (x : Nd) : Bool := decide (8 < x.ins.length) || (decide (16 < x.kinds.length) || (decide (16 < x.exprs.length) || (decide (16 < x.cols.length) || x.exprs.any manyT)))
/-- Is a text of the node longer than may be? -/
def ndLong (x : Nd) : Bool := x.exprs.any longT
/-- What is wrong with a node. -/
def ndChk (x : Nd) : Int := if ndMany x = true then 3 else if ndLong x = true then 2 else 0
/-- What is wrong with the first of the nodes that something is wrong with. -/
def nodesChk : List Nd → Int
  | [] => 0
  | x :: l => if ndChk x = 0 then nodesChk l else ndChk x
/-- What is wrong with a plan. -/
def plChk (p : Pl) : Int := if 64 < p.nodes.length ∨ 8 < p.outs.length then 3 else nodesChk p.nodes

theorem nodesChk_take {l : List Nd} {j : Nat} (hj : j < l.length) (h : nodesChk (l.take j) = 0) : nodesChk (l.take (j + 1)) = ndChk (l.getD j n0) := by
  induction l generalizing j with
  | nil => simp at hj
  | cons x l ih =>
    cases j with
    | zero =>
      simp only [Nat.zero_add, List.take_succ_cons, List.take_zero, nodesChk, List.getD_cons_zero]
      by_cases h0 : ndChk x = 0
      · rw [if_pos h0, h0]
      · rw [if_neg h0]
    | succ j =>
      simp only [List.take_succ_cons, nodesChk, List.getD_cons_succ] at h ⊢
      by_cases h0 : ndChk x = 0
      · rw [if_pos h0] at h ⊢
        exact ih (by simpa using hj) h
      · rw [if_neg h0] at h
        exact absurd h h0

theorem nodesChk_found {l : List Nd} {j : Nat} (hj : j < l.length) (h : nodesChk (l.take j) = 0) (hn : ndChk (l.getD j n0) ≠ 0) : nodesChk l = ndChk (l.getD j n0) := by
  induction l generalizing j with
  | nil => simp at hj
  | cons x l ih =>
    cases j with
    | zero =>
      simp only [List.getD_cons_zero] at hn ⊢
      simp only [nodesChk, if_neg hn]
    | succ j =>
      simp only [List.take_succ_cons, nodesChk, List.getD_cons_succ] at h hn ⊢
      by_cases h0 : ndChk x = 0
      · rw [if_pos h0] at h ⊢
        exact ih (by simpa using hj) h hn
      · rw [if_neg h0] at h
        exact absurd h h0

theorem any_step {α : Type} {l : List α} {q : α → Bool} {j : Nat} {d : α} (hj : j < l.length) (h : (l.take j).any q = false) (hq : q (l.getD j d) = false) : (l.take (j + 1)).any q = false := by
  rw [List.take_add_one, List.getElem?_eq_getElem hj, List.any_append, h, Option.toList_some]
  simp only [List.any_cons, List.any_nil, Bool.or_false, Bool.false_or]
  rwa [getD_at hj] at hq

theorem any_found {α : Type} {l : List α} {q : α → Bool} {j : Nat} {d : α} (hj : j < l.length) (hq : q (l.getD j d) = true) : l.any q = true := List.any_eq_true.2 ⟨_, getD_mem hj, hq⟩

/-- What IndexFunc answers: where it is told, or -1. -/
def IdxAns (b : Bool) (w : World) (e : Ending) (w' : World) : Prop := ∃ z : Int, e = .returned (.int .i64 z) ∧ decide (0 ≤ z) = b ∧ Gr w w'

theorem many1_any (w : World) (a : Option Addr) (n c : Nat) : Calls Try.prog 44 #[.slice a n c] w fun e w' => e = .returned (.bool (decide (64 < n))) ∧ w' = w := by
  by_cases h : 64 < n
  all_goals
    go_enter Try.func44, Try.ntmps44
    go_wp2
    go_ret
    exact ⟨by simp [h]; omega, rfl⟩

theorem long1_any (w : World) (t : V) : Calls Try.prog 45 #[.agg #[.int .i64 t.1, .int .i64 t.2.1, .string t.2.2]] w fun e w' => e = .returned (.bool (longS t)) ∧ Gr w w' := by
  unfold longS
  by_cases h : 4096 < t.2.2.size
  all_goals
    go_enter Try.func45, Try.ntmps45
    go_wp2
    go_ret
    exact ⟨by simp [h]; omega, (Gr.refl w).alloc _⟩

set_option maxHeartbeats 2000000 in
theorem IndexT_any (w : World) (a : Option Addr) (cap : Nat) (l : List V) (hx : Vs w.heap.size w a l) (hl : l.length ≤ 1000000000) :
    Calls Try.prog 66 #[.slice a l.length cap, .func (.func 45) #[] #[]] w (IdxAns (l.any longS) w) := by
  have HX := hid' hx
  obtain ⟨n, hn⟩ : ∃ n, l.length = n := ⟨_, rfl⟩
  rw [hn] at hl ⊢
  have HN := hid' hn
  obtain ⟨q, hq⟩ : ∃ q, longS = q := ⟨_, rfl⟩
  have HQ := hid' hq
  rw [hq]
  clear hn hx hq
  go_enter Try.func66, Try.ntmps66
  go_wp2
  go_loopg [8] n (fun k i wr => ∃ j : Nat, j + k = n ∧ i = .int .i64 (j : Int) ∧ (l.take j).any q = false ∧ Gr w wr)
  case atStart => exact ⟨0, by omega, rfl, by simp, Gr.refl _⟩
  case round =>
    obtain ⟨j, hj, rfl, ht, hg⟩ := hrel
    have HT := hid' ht
    clear ht
    cases gk with
    | zero =>
      obtain rfl : j = n := by omega
      have HF : Hid (IdxAns (l.any q) w (.returned (.int .i64 (-1))) wr) := ⟨-1, rfl, by
        have := HT.out
        rw [List.take_of_length_le (Nat.le_of_eq HN.out)] at this
        rw [this]; rfl, hg⟩
      go_wp2
      go_ret
      exact HF.out
    | succ k =>
      have hjl : j < l.length := by rw [HN.out]; omega
      obtain ⟨b1, o1, rfl, hB1, hc1⟩ := HX.out.cells (by rintro rfl; simp at hjl)
      have HS := hid' (any_step (d := d0) hjl HT.out)
      have HU := hid' (any_found (q := q) (d := d0) hjl)
      have p1 := (hg.below.cell (p := ⟨b1, o1 + j * 3, none⟩) hB1).trans (hc1 j hjl).1
      have p2 := (hg.below.cell (p := ⟨b1, o1 + j * 3 + 1, none⟩) hB1).trans (hc1 j hjl).2.1
      have p3 := (hg.below.cell (p := ⟨b1, o1 + j * 3 + 2, none⟩) hB1).trans (hc1 j hjl).2.2
      have H := hid' (long1_any wr (l.getD j d0))
      rw [HQ.out] at H
      generalize l.getD j d0 = x at *
      clear hc1 hjl HT
      by_cases hqx : q x = true
      · rw [hqx] at H
        have HB := hid' (HU.out hqx)
        clear HS HU hqx
        go_wp2_with fail
        refine H.out.mono ?_
        rintro e w2 ⟨rfl, hg2⟩
        have HF : Hid (IdxAns (l.any q) w (.returned (.int .i64 (j : Int))) w2) := ⟨j, rfl, by rw [HB.out]; simp, hg.trans hg2⟩
        go_wp2
        go_ret
        exact HF.out
      · have hqx : q x = false := by simpa using hqx
        rw [hqx] at H
        have HB := hid' (HS.out hqx)
        clear HS HU hqx
        go_wp2_with fail
        refine H.out.mono ?_
        rintro e w2 ⟨rfl, hg2⟩
        go_wp2
        go_roundg k
        case measure => omega
        case rel => exact ⟨j + 1, by omega, by simp, HB.out, hg.trans hg2⟩

theorem ContT_any (w : World) (a : Option Addr) (cap : Nat) (l : List V) (hx : Vs w.heap.size w a l) (hl : l.length ≤ 1000000000) :
    Calls Try.prog 47 #[.slice a l.length cap, .func (.func 45) #[] #[]] w fun e w' => e = .returned (.bool (l.any longS)) ∧ Gr w w' := by
  have H := hid' (IndexT_any w a cap l hx hl)
  generalize l.any longS = b at H
  go_enter Try.func47, Try.ntmps47
  go_wp2_with fail
  refine H.out.mono ?_
  rintro e w2 ⟨z, rfl, hz, hg⟩
  subst hz
  go_wp2
  go_ret
  exact ⟨rfl, hg⟩

theorem long2_any (w : World) (a : Option Addr) (cap : Nat) (l : List V) (g : Nat) (hx : Vs w.heap.size w a l) (hl : l.length ≤ 1000000000) (hb : Bx w g #[.func (.func 45) #[] #[]] 79) :
    Calls Try.prog 46 #[.slice a l.length cap, .pointer (some ⟨g, 0, none⟩)] w fun e w' => e = .returned (.bool (longT l)) ∧ Gr w w' := by
  have H := hid' (ContT_any w a cap l hx hl)
  rw [show l.any longS = longT l from rfl] at H
  have c0 : w.cell? ⟨g, 0, none⟩ = some (.func (.func 45) #[] #[]) := hb.cell 0
  generalize longT l = b at H
  clear hb hx
  go_enter Try.func46, Try.ntmps46
  go_wp2_with fail
  refine H.out.mono ?_
  rintro e w2 ⟨rfl, hg⟩
  go_wp2
  go_ret
  exact ⟨rfl, hg⟩

theorem Bx.gr {w w' : World} {b : Nat} {cs : Array Value} {t : TypeId} (h : Bx w b cs t) (hg : Gr w w') : Bx w' b cs t := (hg.below.block b h.lt).trans h

set_option maxHeartbeats 2000000 in
theorem IndexM_any (w : World) (a : Option Addr) (cap : Nat) (l : List (List V)) (hx : Es w.heap.size w a l) (hl : l.length ≤ 1000000000) :
    Calls Try.prog 65 #[.slice a l.length cap, .func (.func 44) #[] #[]] w (IdxAns (l.any manyT) w) := by
  have HX := hid' hx
  obtain ⟨n, hn⟩ : ∃ n, l.length = n := ⟨_, rfl⟩
  rw [hn] at hl ⊢
  have HN := hid' hn
  obtain ⟨q, hq⟩ : ∃ q, manyT = q := ⟨_, rfl⟩
  have HQ := hid' hq
  rw [hq]
  clear hn hx hq
  go_enter Try.func65, Try.ntmps65
  go_wp2
  go_loopg [8] n (fun k i wr => ∃ j : Nat, j + k = n ∧ i = .int .i64 (j : Int) ∧ (l.take j).any q = false ∧ Gr w wr)
  case atStart => exact ⟨0, by omega, rfl, by simp, Gr.refl _⟩
  case round =>
    obtain ⟨j, hj, rfl, ht, hg⟩ := hrel
    have HT := hid' ht
    clear ht
    cases gk with
    | zero =>
      obtain rfl : j = n := by omega
      have HF : Hid (IdxAns (l.any q) w (.returned (.int .i64 (-1))) wr) := ⟨-1, rfl, by
        have := HT.out
        rw [List.take_of_length_le (Nat.le_of_eq HN.out)] at this
        rw [this]; rfl, hg⟩
      go_wp2
      go_ret
      exact HF.out
    | succ k =>
      have hjl : j < l.length := by rw [HN.out]; omega
      obtain ⟨b1, o1, rfl, hB1, hc1⟩ := HX.out.cells (by rintro rfl; simp at hjl)
      have HS := hid' (any_step (d := []) hjl HT.out)
      have HU := hid' (any_found (q := q) (d := []) hjl)
      obtain ⟨x1, c1, p1, v1⟩ := hc1 j hjl
      have p1 := (hg.below.cell (p := ⟨b1, o1 + j, none⟩) hB1).trans p1
      have H : Hid (Calls Try.prog 44 #[.slice x1 (l.getD j []).length c1] wr fun e w' => e = .returned (.bool (manyT (l.getD j []))) ∧ Gr wr w') := (many1_any wr x1 (l.getD j []).length c1).mono (fun e w' ⟨he, hw⟩ => ⟨he, by rw [hw]; exact Gr.refl _⟩)
      rw [HQ.out] at H
      generalize l.getD j [] = x at *
      clear v1
      clear hc1 hjl HT
      by_cases hqx : q x = true
      · rw [hqx] at H
        have HB := hid' (HU.out hqx)
        clear HS HU hqx
        go_wp2_with fail
        refine H.out.mono ?_
        rintro e w2 ⟨rfl, hg2⟩
        have HF : Hid (IdxAns (l.any q) w (.returned (.int .i64 (j : Int))) w2) := ⟨j, rfl, by rw [HB.out]; simp, hg.trans hg2⟩
        go_wp2
        go_ret
        exact HF.out
      · have hqx : q x = false := by simpa using hqx
        rw [hqx] at H
        have HB := hid' (HS.out hqx)
        clear HS HU hqx
        go_wp2_with fail
        refine H.out.mono ?_
        rintro e w2 ⟨rfl, hg2⟩
        go_wp2
        go_roundg k
        case measure => omega
        case rel => exact ⟨j + 1, by omega, by simp, HB.out, hg.trans hg2⟩

theorem ContM_any (w : World) (a : Option Addr) (cap : Nat) (l : List (List V)) (hx : Es w.heap.size w a l) (hl : l.length ≤ 1000000000) :
    Calls Try.prog 43 #[.slice a l.length cap, .func (.func 44) #[] #[]] w fun e w' => e = .returned (.bool (l.any manyT)) ∧ Gr w w' := by
  have H := hid' (IndexM_any w a cap l hx hl)
  generalize l.any manyT = b at H
  go_enter Try.func43, Try.ntmps43
  go_wp2_with fail
  refine H.out.mono ?_
  rintro e w2 ⟨z, rfl, hz, hg⟩
  subst hz
  go_wp2
  go_ret
  exact ⟨rfl, hg⟩

set_option maxHeartbeats 2000000 in
theorem IndexL_any (w : World) (a : Option Addr) (cap : Nat) (l : List (List V)) (hx : Es w.heap.size w a l) (hl : l.length ≤ 1000000000) (hs : ∀ e ∈ l, e.length ≤ 1000000000) (g : Nat) (hb : Bx w g #[.func (.func 45) #[] #[]] 79) :
    Calls Try.prog 65 #[.slice a l.length cap, .func (.func 46) #[] #[.pointer (some ⟨g, 0, none⟩)]] w (IdxAns (l.any longT) w) := by
  have HX := hid' hx
  obtain ⟨n, hn⟩ : ∃ n, l.length = n := ⟨_, rfl⟩
  rw [hn] at hl ⊢
  have HN := hid' hn
  obtain ⟨q, hq⟩ : ∃ q, longT = q := ⟨_, rfl⟩
  have HQ := hid' hq
  rw [hq]
  clear hn hx hq
  go_enter Try.func65, Try.ntmps65
  go_wp2
  go_loopg [8] n (fun k i wr => ∃ j : Nat, j + k = n ∧ i = .int .i64 (j : Int) ∧ (l.take j).any q = false ∧ Gr w wr)
  case atStart => exact ⟨0, by omega, rfl, by simp, Gr.refl _⟩
  case round =>
    obtain ⟨j, hj, rfl, ht, hg⟩ := hrel
    have HT := hid' ht
    clear ht
    cases gk with
    | zero =>
      obtain rfl : j = n := by omega
      have HF : Hid (IdxAns (l.any q) w (.returned (.int .i64 (-1))) wr) := ⟨-1, rfl, by
        have := HT.out
        rw [List.take_of_length_le (Nat.le_of_eq HN.out)] at this
        rw [this]; rfl, hg⟩
      go_wp2
      go_ret
      exact HF.out
    | succ k =>
      have hjl : j < l.length := by rw [HN.out]; omega
      obtain ⟨b1, o1, rfl, hB1, hc1⟩ := HX.out.cells (by rintro rfl; simp at hjl)
      have HS := hid' (any_step (d := []) hjl HT.out)
      have HU := hid' (any_found (q := q) (d := []) hjl)
      obtain ⟨x1, c1, p1, v1⟩ := hc1 j hjl
      have p1 := (hg.below.cell (p := ⟨b1, o1 + j, none⟩) hB1).trans p1
      have H := hid' (long2_any wr x1 c1 (l.getD j []) g (v1.gr hg) (hs _ (getD_mem hjl)) (hb.gr hg))
      rw [HQ.out] at H
      generalize l.getD j [] = x at *
      clear v1
      clear hc1 hjl HT
      by_cases hqx : q x = true
      · rw [hqx] at H
        have HB := hid' (HU.out hqx)
        clear HS HU hqx
        go_wp2_with fail
        refine H.out.mono ?_
        rintro e w2 ⟨rfl, hg2⟩
        have HF : Hid (IdxAns (l.any q) w (.returned (.int .i64 (j : Int))) w2) := ⟨j, rfl, by rw [HB.out]; simp, hg.trans hg2⟩
        go_wp2
        go_ret
        exact HF.out
      · have hqx : q x = false := by simpa using hqx
        rw [hqx] at H
        have HB := hid' (HS.out hqx)
        clear HS HU hqx
        go_wp2_with fail
        refine H.out.mono ?_
        rintro e w2 ⟨rfl, hg2⟩
        go_wp2
        go_roundg k
        case measure => omega
        case rel => exact ⟨j + 1, by omega, by simp, HB.out, hg.trans hg2⟩

theorem ContL_any (w : World) (a : Option Addr) (cap : Nat) (l : List (List V)) (hx : Es w.heap.size w a l) (hl : l.length ≤ 1000000000) (hs : ∀ e ∈ l, e.length ≤ 1000000000) (g : Nat) (hb : Bx w g #[.func (.func 45) #[] #[]] 79) :
    Calls Try.prog 43 #[.slice a l.length cap, .func (.func 46) #[] #[.pointer (some ⟨g, 0, none⟩)]] w fun e w' => e = .returned (.bool (l.any longT)) ∧ Gr w w' := by
  have H := hid' (IndexL_any w a cap l hx hl hs g hb)
  generalize l.any longT = b at H
  go_enter Try.func43, Try.ntmps43
  go_wp2_with fail
  refine H.out.mono ?_
  rintro e w2 ⟨z, rfl, hz, hg⟩
  subst hz
  go_wp2
  go_ret
  exact ⟨rfl, hg⟩

end Go.Proofs.Ytjpjeledbjpaeaa
