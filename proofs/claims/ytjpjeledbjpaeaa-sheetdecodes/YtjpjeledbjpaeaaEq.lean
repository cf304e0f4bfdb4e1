/-
  What is proved here: slices.Equal of numbers and of steps, the document's same of numbers, slices.EqualFunc of expressions: each answers whether the lists are the same.
-/
import Derived.Test.YtjpjeledbjpaeaaBase
namespace Go.Proofs.Ytjpjeledbjpaeaa
open Go.RowKit Go.Proofs
set_option maxRecDepth 20000
set_option linter.unusedVariables false
set_option linter.unusedSimpArgs false

theorem str_eq {s t : ByteArray} (h : s.toList = t.toList) : s = t := by
  rw [ByteArray.toList_eq, ByteArray.toList_eq] at h
  apply ByteArray.ext
  apply Array.ext'
  exact h

set_option maxHeartbeats 2000000 in
theorem EqInts_any (w : World) (a b : Option Addr) (ca cb : Nat) (l r : List Int) (ha : Ns w.heap.size w a l) (hb : Ns w.heap.size w b r) (hl : l.length < 4611686018427387904) (hr : r.length < 4611686018427387904) :
    Calls Try.prog 35 #[.slice a l.length ca, .slice b r.length cb] w fun e w' => e = .returned (.bool (decide (l = r))) ∧ Gr w w' := by
  by_cases hlen : l.length = r.length
  · generalize hd : decide (l = r) = d
    have HD := hid' hd
    clear hd
    obtain ⟨n, hn⟩ : ∃ n, l.length = n := ⟨_, rfl⟩
    rw [← hlen, hn]
    rw [hn] at hl hlen
    have HL := hid' hn
    have HR := hid' hlen
    clear hn hlen
    go_enter Try.func35, Try.ntmps35
    go_wp2
    go_loopg [13] n (fun k i wr => ∃ j : Nat, j + k = n ∧ i = .int .i64 (j : Int) ∧ l.take j = r.take j ∧ Gr w wr)
    case atStart => exact ⟨0, by omega, rfl, by simp, Gr.refl _⟩
    case round =>
      obtain ⟨j, hj, rfl, ht, hg⟩ := hrel
      have HT := hid' ht
      clear ht
      cases gk with
      | zero =>
        obtain rfl : j = n := by omega
        have hlr : Hid (l = r) := take_all HT.out (Nat.le_of_eq HL.out) (Nat.le_of_eq HR.out.symm)
        go_wp2
        go_ret
        refine ⟨congrArg (fun z => Ending.returned (Value.bool z)) ?_, hg⟩
        rw [← HD.out, hlr.out]; simp
      | succ k =>
        have hjl : j < l.length := by rw [HL.out]; omega
        have hjr : j < r.length := by rw [← HR.out]; omega
        obtain ⟨b1, o1, rfl, hB1, hc1⟩ := ha.cells (by rintro rfl; simp at hjl)
        obtain ⟨b2, o2, rfl, hB2, hc2⟩ := hb.cells (by rintro rfl; simp at hjr)
        have HS := hid' (fun he => take_step (d := 0) HT.out hjl hjr he)
        have HE := hid' (show l = r → l.getD j 0 = r.getD j 0 from fun h => by rw [h])
        have p1 := (hg.below.cell (p := ⟨b1, o1 + j, none⟩) hB1).trans (hc1 j hjl)
        have q1 := (hg.below.cell (p := ⟨b2, o2 + j, none⟩) hB2).trans (hc2 j hjr)
        generalize l.getD j 0 = x at p1 HS HE
        generalize r.getD j 0 = y at q1 HS HE
        clear hc1 hc2 ha hb hjl hjr
        by_cases e1 : x = y
        · subst e1
          go_wp2_with fail
          go_quiet (fail)
          go_wp2
          go_roundg k
          case measure => omega
          case rel => exact ⟨j + 1, by omega, by simp, (by first | exact HS.out rfl | exact HS.out trivial), hg.drewN _⟩
        · go_wp2_with fail
          go_quiet (fail)
          go_wp2
          go_ret
          refine ⟨congrArg (fun z => Ending.returned (Value.bool z)) ?_, hg.drewN _⟩
          rw [← HD.out]; simp; intro h; exact e1 (HE.out h)
  · go_enter Try.func35, Try.ntmps35
    go_wp2
    go_ret
    exact ⟨by simp; intro h; exact hlen (by rw [h]), Gr.refl _⟩

set_option maxHeartbeats 2000000 in
theorem psame_any (w : World) (a b : Option Addr) (ca cb : Nat) (l r : List Int) (ha : Ns w.heap.size w a l) (hb : Ns w.heap.size w b r) (hl : l.length < 4611686018427387904) (hr : r.length < 4611686018427387904) :
    Calls Try.prog 55 #[.slice a l.length ca, .slice b r.length cb] w fun e w' => e = .returned (.bool (decide (l = r))) ∧ Gr w w' := by
  by_cases hlen : l.length = r.length
  · generalize hd : decide (l = r) = d
    have HD := hid' hd
    clear hd
    obtain ⟨n, hn⟩ : ∃ n, l.length = n := ⟨_, rfl⟩
    rw [← hlen, hn]
    rw [hn] at hl hlen
    have HL := hid' hn
    have HR := hid' hlen
    clear hn hlen
    go_enter Try.func55, Try.ntmps55
    go_wp2
    go_loopg [5] n (fun k i wr => ∃ j : Nat, j + k = n ∧ i = .int .i64 (j : Int) ∧ l.take j = r.take j ∧ Gr w wr)
    case atStart => exact ⟨0, by omega, rfl, by simp, Gr.refl _⟩
    case round =>
      obtain ⟨j, hj, rfl, ht, hg⟩ := hrel
      have HT := hid' ht
      clear ht
      cases gk with
      | zero =>
        obtain rfl : j = n := by omega
        have hlr : Hid (l = r) := take_all HT.out (Nat.le_of_eq HL.out) (Nat.le_of_eq HR.out.symm)
        go_wp2
        go_ret
        refine ⟨congrArg (fun z => Ending.returned (Value.bool z)) ?_, hg⟩
        rw [← HD.out, hlr.out]; simp
      | succ k =>
        have hjl : j < l.length := by rw [HL.out]; omega
        have hjr : j < r.length := by rw [← HR.out]; omega
        obtain ⟨b1, o1, rfl, hB1, hc1⟩ := ha.cells (by rintro rfl; simp at hjl)
        obtain ⟨b2, o2, rfl, hB2, hc2⟩ := hb.cells (by rintro rfl; simp at hjr)
        have HS := hid' (fun he => take_step (d := 0) HT.out hjl hjr he)
        have HE := hid' (show l = r → l.getD j 0 = r.getD j 0 from fun h => by rw [h])
        have p1 := (hg.below.cell (p := ⟨b1, o1 + j, none⟩) hB1).trans (hc1 j hjl)
        have q1 := (hg.below.cell (p := ⟨b2, o2 + j, none⟩) hB2).trans (hc2 j hjr)
        generalize l.getD j 0 = x at p1 HS HE
        generalize r.getD j 0 = y at q1 HS HE
        clear hc1 hc2 ha hb hjl hjr
        by_cases e1 : x = y
        · subst e1
          go_wp2_with fail
          go_quiet (fail)
          go_wp2
          go_roundg k
          case measure => omega
          case rel => exact ⟨j + 1, by omega, by simp, (by first | exact HS.out rfl | exact HS.out trivial), hg.drewN _⟩
        · go_wp2_with fail
          go_quiet (fail)
          go_wp2
          go_ret
          refine ⟨congrArg (fun z => Ending.returned (Value.bool z)) ?_, hg.drewN _⟩
          rw [← HD.out]; simp; intro h; exact e1 (HE.out h)
  · go_enter Try.func55, Try.ntmps55
    go_wp2
    go_ret
    exact ⟨by simp; intro h; exact hlen (by rw [h]), Gr.refl _⟩

set_option maxHeartbeats 2000000 in
theorem EqTerms_any (w : World) (a b : Option Addr) (ca cb : Nat) (l r : List V) (ha : Vs w.heap.size w a l) (hb : Vs w.heap.size w b r) (hl : l.length < 4611686018427387904) (hr : r.length < 4611686018427387904) :
    Calls Try.prog 60 #[.slice a l.length ca, .slice b r.length cb] w fun e w' => e = .returned (.bool (decide (l = r))) ∧ Gr w w' := by
  by_cases hlen : l.length = r.length
  · generalize hd : decide (l = r) = d
    have HD := hid' hd
    clear hd
    obtain ⟨n, hn⟩ : ∃ n, l.length = n := ⟨_, rfl⟩
    rw [← hlen, hn]
    rw [hn] at hl hlen
    have HL := hid' hn
    have HR := hid' hlen
    clear hn hlen
    go_enter Try.func60, Try.ntmps60
    go_wp2
    go_loopg [13] n (fun k i wr => ∃ j : Nat, j + k = n ∧ i = .int .i64 (j : Int) ∧ l.take j = r.take j ∧ Gr w wr)
    case atStart => exact ⟨0, by omega, rfl, by simp, Gr.refl _⟩
    case round =>
      obtain ⟨j, hj, rfl, ht, hg⟩ := hrel
      have HT := hid' ht
      clear ht
      cases gk with
      | zero =>
        obtain rfl : j = n := by omega
        have hlr : Hid (l = r) := take_all HT.out (Nat.le_of_eq HL.out) (Nat.le_of_eq HR.out.symm)
        go_wp2
        go_ret
        refine ⟨congrArg (fun z => Ending.returned (Value.bool z)) ?_, hg⟩
        rw [← HD.out, hlr.out]; simp
      | succ k =>
        have hjl : j < l.length := by rw [HL.out]; omega
        have hjr : j < r.length := by rw [← HR.out]; omega
        obtain ⟨b1, o1, rfl, hB1, hc1⟩ := ha.cells (by rintro rfl; simp at hjl)
        obtain ⟨b2, o2, rfl, hB2, hc2⟩ := hb.cells (by rintro rfl; simp at hjr)
        have HS := hid' (fun he => take_step (d := d0) HT.out hjl hjr he)
        have HE := hid' (show l = r → l.getD j d0 = r.getD j d0 from fun h => by rw [h])
        have p1 := (hg.below.cell (p := ⟨b1, o1 + j * 3, none⟩) hB1).trans (hc1 j hjl).1
        have p2 := (hg.below.cell (p := ⟨b1, o1 + j * 3 + 1, none⟩) hB1).trans (hc1 j hjl).2.1
        have p3 := (hg.below.cell (p := ⟨b1, o1 + j * 3 + 2, none⟩) hB1).trans (hc1 j hjl).2.2
        have q1 := (hg.below.cell (p := ⟨b2, o2 + j * 3, none⟩) hB2).trans (hc2 j hjr).1
        have q2 := (hg.below.cell (p := ⟨b2, o2 + j * 3 + 1, none⟩) hB2).trans (hc2 j hjr).2.1
        have q3 := (hg.below.cell (p := ⟨b2, o2 + j * 3 + 2, none⟩) hB2).trans (hc2 j hjr).2.2
        generalize l.getD j d0 = x at p1 p2 p3 HS HE
        generalize r.getD j d0 = y at q1 q2 q3 HS HE
        obtain ⟨x1, x2, x3⟩ := x
        obtain ⟨y1, y2, y3⟩ := y
        clear hc1 hc2 ha hb hjl hjr
        by_cases e1 : x1 = y1
        · subst e1
          by_cases e2 : x2 = y2
          · subst e2
            by_cases e3 : x3 = y3
            · subst e3
              go_wp2_with fail
              go_quiet (fail)
              go_wp2
              go_roundg k
              case measure => omega
              case rel => exact ⟨j + 1, by omega, by simp, (by first | exact HS.out rfl | exact HS.out trivial), hg.drewN _⟩
            · have e4 : ¬ x3.toList = y3.toList := fun h => e3 (str_eq h)
              go_wp2_with fail
              go_quiet (fail)
              go_wp2
              go_ret
              refine ⟨congrArg (fun z => Ending.returned (Value.bool z)) ?_, hg.drewN _⟩
              rw [← HD.out]; simp; intro h; have := HE.out h; simp at this; exact e3 (by simp_all)
          · go_wp2_with fail
            go_quiet (fail)
            go_wp2
            go_ret
            refine ⟨congrArg (fun z => Ending.returned (Value.bool z)) ?_, hg.drewN _⟩
            rw [← HD.out]; simp; intro h; have := HE.out h; simp at this; exact e2 (by simp_all)
        · go_wp2_with fail
          go_quiet (fail)
          go_wp2
          go_ret
          refine ⟨congrArg (fun z => Ending.returned (Value.bool z)) ?_, hg.drewN _⟩
          rw [← HD.out]; simp; intro h; have := HE.out h; simp at this; exact e1 (by simp_all)
  · go_enter Try.func60, Try.ntmps60
    go_wp2
    go_ret
    exact ⟨by simp; intro h; exact hlen (by rw [h]), Gr.refl _⟩

theorem pSame_any (w : World) (a b : Option Addr) (ca cb : Nat) (l r : List Int) (ha : Ns w.heap.size w a l) (hb : Ns w.heap.size w b r) (hl : l.length < 4611686018427387904) (hr : r.length < 4611686018427387904) :
    Calls Try.prog 30 #[.slice a l.length ca, .slice b r.length cb] w fun e w' => e = .returned (.bool (decide (l = r))) ∧ Gr w w' := by
  have H := hid' (psame_any w a b ca cb l r ha hb hl hr)
  generalize decide (l = r) = d at H
  go_enter Try.func30, Try.ntmps30
  go_wp2_with fail
  refine H.out.mono ?_
  rintro e w' ⟨rfl, hg⟩
  go_wp2
  go_ret
  exact ⟨rfl, hg⟩

/-- Lists of lists that are not too long to be counted. -/
def Cnt (l : List (List V)) : Prop := l.length < 4611686018427387904 ∧ ∀ e ∈ l, e.length < 4611686018427387904

set_option maxHeartbeats 2000000 in
theorem EqExprs_any (w : World) (a b : Option Addr) (ca cb : Nat) (l r : List (List V)) (ha : Es w.heap.size w a l) (hb : Es w.heap.size w b r) (hl : Cnt l) (hr : Cnt r) :
    Calls Try.prog 59 #[.slice a l.length ca, .slice b r.length cb, .func (.func 60) #[] #[]] w fun e w' => e = .returned (.bool (decide (l = r))) ∧ Gr w w' := by
  by_cases hlen : l.length = r.length
  · generalize hd : decide (l = r) = d
    have HD := hid' hd
    clear hd
    have HCl := hid' hl
    have HCr := hid' hr
    replace hl := hl.1
    obtain ⟨n, hn⟩ : ∃ n, l.length = n := ⟨_, rfl⟩
    rw [← hlen, hn]
    rw [hn] at hl hlen
    have HL := hid' hn
    have HR := hid' hlen
    clear hn hlen hr
    go_enter Try.func59, Try.ntmps59
    go_wp2
    go_loopg [17] n (fun k i wr => ∃ j : Nat, j + k = n ∧ i = .int .i64 (j : Int) ∧ l.take j = r.take j ∧ Gr w wr)
    case atStart => exact ⟨0, by omega, rfl, by simp, Gr.refl _⟩
    case round =>
      obtain ⟨j, hj, rfl, ht, hg⟩ := hrel
      have HT := hid' ht
      clear ht
      cases gk with
      | zero =>
        obtain rfl : j = n := by omega
        have hlr : Hid (l = r) := take_all HT.out (Nat.le_of_eq HL.out) (Nat.le_of_eq HR.out.symm)
        go_wp2
        go_ret
        refine ⟨congrArg (fun z => Ending.returned (Value.bool z)) ?_, hg⟩
        rw [← HD.out, hlr.out]; simp
      | succ k =>
        have hjl : j < l.length := by rw [HL.out]; omega
        have hjr : j < r.length := by rw [← HR.out]; omega
        obtain ⟨b1, o1, rfl, hB1, hc1⟩ := ha.cells (by rintro rfl; simp at hjl)
        obtain ⟨b2, o2, rfl, hB2, hc2⟩ := hb.cells (by rintro rfl; simp at hjr)
        have HS := hid' (fun he => take_step (d := []) HT.out hjl hjr he)
        have HE := hid' (show l = r → l.getD j [] = r.getD j [] from fun h => by rw [h])
        obtain ⟨x1, c1, p1, v1⟩ := hc1 j hjl
        obtain ⟨x2, c2, q1, v2⟩ := hc2 j hjr
        have p1 := (hg.below.cell (p := ⟨b1, o1 + j, none⟩) hB1).trans p1
        have q1 := (hg.below.cell (p := ⟨b2, o2 + j, none⟩) hB2).trans q1
        have H := hid' (EqTerms_any wr x1 x2 c1 c2 _ _ (v1.gr hg) (v2.gr hg) (HCl.out.2 _ (getD_mem hjl)) (HCr.out.2 _ (getD_mem hjr)))
        generalize l.getD j [] = x at p1 HS HE H
        generalize r.getD j [] = y at q1 HS HE H
        clear hc1 hc2 ha hb hjl hjr v1 v2
        by_cases e1 : x = y
        · rw [decide_eq_true e1] at H
          have HSS := hid' (HS.out e1)
          clear HS HE e1
          go_wp2_with fail
          refine H.out.mono ?_
          rintro e w2 ⟨rfl, hg2⟩
          go_wp2
          go_roundg k
          case measure => omega
          case rel => exact ⟨j + 1, by omega, by simp, HSS.out, hg.trans hg2⟩
        · rw [decide_eq_false e1] at H
          have HN := hid' (show ¬ l = r from fun h => e1 (HE.out h))
          clear HS HE e1
          go_wp2_with fail
          refine H.out.mono ?_
          rintro e w2 ⟨rfl, hg2⟩
          go_wp2
          go_ret
          refine ⟨congrArg (fun z => Ending.returned (Value.bool z)) ?_, hg.trans hg2⟩
          rw [← HD.out, decide_eq_false HN.out]
  · go_enter Try.func59, Try.ntmps59
    go_wp2
    go_ret
    exact ⟨by simp; intro h; exact hlen (by rw [h]), Gr.refl _⟩

end Go.Proofs.Ytjpjeledbjpaeaa
