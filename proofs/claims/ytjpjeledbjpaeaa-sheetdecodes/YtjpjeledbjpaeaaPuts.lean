/-
  What is proved here: putStep, putSteps, putNumbers, putNode and putList of numbers, steps, expressions and nodes put the bytes behind bytes of their own.
-/
import Derived.Test.YtjpjeledbjpaeaaPB0
namespace Go.Proofs.Ytjpjeledbjpaeaa
open Go.RowKit Go.Proofs
set_option maxRecDepth 20000
set_option linter.unusedVariables false
set_option linter.unusedSimpArgs false

/-- Block b holds just these cells. -/
def Bx (w : World) (b : Nat) (cs : Array Value) (t : TypeId) : Prop := w.heap[b]? = some (.cells cs t (0, 0))

theorem Bx.lt {w : World} {b : Nat} {cs : Array Value} {t : TypeId} (h : Bx w b cs t) : b < w.heap.size := (Array.getElem?_eq_some_iff.1 h).1
theorem Bx.new (w : World) (cs : Array Value) (t : TypeId) : Bx (w.alloc (.cells cs t)) w.heap.size cs t := heap_alloc_new _ _
theorem Bx.kb {base : Nat} {w w' : World} {b : Nat} {cs : Array Value} {t : TypeId} (h : Bx w b cs t) (k : Kb base w w') (ht : t ≠ 5) : Bx w' b cs t :=
  (k.block b h.lt (.inr fun c z e => ht (by
    have e2 : some (Obj.cells cs t (0, 0)) = some (.cells c 5 z) := h.symm.trans e
    simp at e2
    exact e2.2.1))).trans h
theorem Bx.cell {w : World} {b : Nat} {cs : Array Value} {t : TypeId} (h : Bx w b cs t) (i : Nat) : w.cell? ⟨b, i, none⟩ = cs[i]? := cell_of_row w b i cs t (0, 0) h

theorem Own.kb_alloc {base : Nat} {w : World} {v : Value} {l : List Int} (h : Own base w v l) (o : Obj) : Own base (w.alloc o) v l := owns_below h ((Below.refl _ _).alloc (Nat.le_refl _) o)

theorem len_left {a b c : List Int} {n : Nat} (h : (a ++ (b ++ c)).length ≤ n) : (a ++ b).length ≤ n := by
  rw [List.length_append] at *
  rw [List.length_append] at h
  omega

theorem getD_at {α : Type} {xs : List α} {j : Nat} {d : α} (hj : j < xs.length) : xs.getD j d = xs[j] := by simp [List.getD, List.getElem?_eq_getElem hj]

theorem flat_split {α : Type} (f : α → List Int) (xs : List α) (j : Nat) (d : α) (hj : j < xs.length) : xs.flatMap f = (xs.take j).flatMap f ++ (f (xs.getD j d) ++ (xs.drop (j + 1)).flatMap f) := by
  have e0 : xs = xs.take j ++ (xs[j] :: xs.drop (j + 1)) := by rw [← List.drop_eq_getElem_cons hj, List.take_append_drop]
  conv => lhs; rw [e0]
  rw [List.flatMap_append, List.flatMap_cons, getD_at hj]

theorem len_take {α : Type} (f : α → List Int) (xs : List α) (a : List Int) (j : Nat) (d : α) {n : Nat} (hj : j < xs.length) (h : (a ++ listB f xs).length ≤ n) : ((a ++ (bytesOf xs.length ++ (xs.take j).flatMap f)) ++ f (xs.getD j d)).length ≤ n := by
  unfold listB at h
  rw [flat_split f xs j d hj] at h
  simp only [List.length_append] at h ⊢
  omega

theorem flat_step {α : Type} (f : α → List Int) (xs : List α) (a : List Int) (j : Nat) (d : α) (hj : j < xs.length) : (a ++ (bytesOf xs.length ++ (xs.take j).flatMap f)) ++ f (xs.getD j d) = a ++ (bytesOf xs.length ++ (xs.take (j + 1)).flatMap f) := by
  rw [List.take_add_one, List.getElem?_eq_getElem hj, getD_at hj, List.flatMap_append, Option.toList_some, List.flatMap_singleton]
  simp only [List.append_assoc]

set_option maxHeartbeats 2000000 in
theorem putStep_any (base : Nat) (w : World) (v : Value) (l : List Int) (t : V) (hB : base ≤ w.heap.size) (ho : Own base w v l) (ht : TOK t) (hl : (l ++ stepB t).length ≤ 1000000000) :
    Calls Try.prog 64 #[v, .agg #[.int .i64 t.1, .int .i64 t.2.1, .string t.2.2]] w (PutAns base w l (stepB t)) := by
  obtain ⟨i0, hi, hz0, hz1, hz2⟩ := info_parts Try.info5
  obtain ⟨t0, t1, t2⟩ := t
  obtain ⟨r0, r1, r2⟩ := ht
  simp only at r0 r1 r2
  unfold stepB at hl ⊢
  simp only at hl ⊢
  have HL1 := hid' (len_left hl)
  rw [← List.append_assoc] at hl
  have HL2 := hid' (len_left hl)
  rw [← List.append_assoc] at hl
  have HL3 := hid' hl
  have HO := hid' (ho.kb_alloc (Obj.cells #[.int .i64 t0, .int .i64 t1, .string t2] 64))
  have BX := hid' (Bx.new w #[.int .i64 t0, .int .i64 t1, .string t2] 64)
  have K := hid' ((Kb.refl base w).alloc (Obj.cells #[.int .i64 t0, .int .i64 t1, .string t2] 64))
  have hs2 : sz t2.size ≤ 10 := sz_le_ten _ (by omega)
  clear hl ho
  go_enter Try.func64, Try.ntmps64
  go_wp2_with fail
  refine (putNumber_any base _ v l t0 (by have := K.out.size; omega) HO.out r0 HL1.out).mono ?_
  rintro e w1 ⟨v1, rfl, o1, k1⟩
  replace BX := hid' (BX.out.kb k1 (by decide))
  replace K := hid' (K.out.trans k1)
  have c1 : w1.cell? ⟨w.heap.size, 1, none⟩ = some (.int .i64 t1) := BX.out.cell 1
  have O1 := hid' o1
  clear k1 HO o1
  go_wp2_with fail
  refine (putNumber_any base _ v1 _ t1 (by have := K.out.size; omega) O1.out r1 HL2.out).mono ?_
  rintro e w2 ⟨v2, rfl, o2, k2⟩
  replace BX := hid' (BX.out.kb k2 (by decide))
  replace K := hid' (K.out.trans k2)
  have c2 : w2.cell? ⟨w.heap.size, 2, none⟩ = some (.string t2) := BX.out.cell 2
  have O2 := hid' o2
  clear k2 O1 o2 c1
  have HT := hid' (putText_any w2 none 0 [] t2 (Bts.nil _ _ _) (by simp) (by omega))
  simp only [List.length_nil, Nat.zero_add, List.nil_append] at HT
  go_wp2_with fail
  refine HT.out.mono ?_
  rintro e w3 ⟨g, c, rfl, hc, hbt, hbel⟩
  have HW := hid' (owns_below O2.out hbel)
  have HBT := hid' hbt
  have HS : Hid (base ≤ w3.heap.size) := (by have := K.out.size; have := hbel.size; omega : base ≤ w3.heap.size)
  have HL4 : Hid (((l ++ oneB t0) ++ oneB t1).length + (sz t2.size + t2.size) ≤ 1000000000) := (by
    have h := HL3.out
    simp only [strB, List.length_append, length_bytesOf, nums_length] at h ⊢
    omega : _ ≤ _)
  clear hbt
  go_wp2_with (first
    | (at_builtin; refine wpList_append_own _ rfl (.tmp 13) (.tmp 16) 28 rfl base 5 i0 (.int .u8 0) 1 1 Try.underlying28 hi hz0 hz1 hz2 rfl (by decide) v2 ((l ++ oneB t0) ++ oneB t1).length (B8 ((l ++ oneB t0) ++ oneB t1)) rfl HW.out ⟨g, 0, none⟩ (sz t2.size + t2.size) c (B8 (strB t2)) rfl (by unfold strB; rw [length_B8, List.length_append, length_bytesOf, nums_length]; omega) (by obtain ⟨ad, he, h⟩ := HBT.out.src (by have := sz_pos t2.size; rw [length_B8, List.length_append, length_bytesOf]; omega); cases he; exact h) (B8_one _) (by have := HL4.out; unfold maxLen; omega) (by have := HL4.out; omega) HS.out ?_; intro v' w4 hown1 hgrow1 hnil1))
  have K2 := hid' (K.out.trans ((Kb.of_below (base := base) hbel).trans (Kb.grown hgrow1 HW.out)))
  have O : Hid (Own base w4 v' (l ++ (oneB t0 ++ (oneB t1 ++ strB t2)))) := (by
    have e : l ++ (oneB t0 ++ (oneB t1 ++ strB t2)) = ((l ++ oneB t0) ++ oneB t1) ++ strB t2 := by simp only [List.append_assoc]
    have e2 : (((l ++ oneB t0) ++ oneB t1) ++ strB t2).length = ((l ++ oneB t0) ++ oneB t1).length + (sz t2.size + t2.size) := by simp only [strB, List.length_append, length_bytesOf, nums_length]
    unfold Own
    rw [e, B8_append, e2]
    exact hown1 : Own _ _ _ _)
  clear hown1 hgrow1 hnil1 hbel HW
  go_wp2
  go_ret
  exact ⟨v', rfl, O.out, K2.out⟩

/-- What holds in the loop of putList. -/
def putIntsInv (base : Nat) (w : World) (l : List Int) (xs : List Int) (n k : Nat) (b i : Value) (wr : World) : Prop :=
  ∃ j : Nat, j + k = n ∧ i = .int .i64 (j : Int) ∧ Own base wr b (l ++ (bytesOf xs.length ++ (xs.take j).flatMap oneB)) ∧ Kb base w wr

set_option maxHeartbeats 4000000 in
theorem putInts_any (base : Nat) (w : World) (v : Value) (l : List Int) (a : Option Addr) (cap : Nat) (xs : List Int) (hB : base ≤ w.heap.size) (ho : Own base w v l) (hx : Ns base w a xs) (hok : ∀ x ∈ xs, R64 x) (hl : (l ++ listB oneB xs).length ≤ 1000000000) (hxs : xs.length ≤ 1000000000) :
    Calls Try.prog 39 #[v, .slice a xs.length cap, .func (.func 18) #[] #[]] w (PutAns base w l (listB oneB xs)) := by
  obtain ⟨i0, hi, hz0, hz1, hz2⟩ := info_parts Try.info5
  have HX := hid' hx
  have HOK := hid' hok
  have HL := hid' hl
  have HO := hid' ho
  have HA : Hid (∀ v' wr, Own base wr v' (l ++ (bytesOf xs.length ++ (xs.take xs.length).flatMap oneB)) → Kb base w wr → PutAns base w l (listB oneB xs) (.returned v') wr) := fun v' wr h k => ⟨v', rfl, by rw [List.take_length] at h; exact h, k⟩
  have HL0 : Hid (l.length + sz xs.length ≤ 1000000000) := (by
    simp only [listB, List.length_append, length_bytesOf] at hl
    omega : _ ≤ _)
  obtain ⟨n, hn⟩ : ∃ n, xs.length = n := ⟨_, rfl⟩
  have HI : Hid (∀ k b i wr, putIntsInv base w l xs n k b i wr → ∃ j : Nat, j + k = n ∧ i = .int .i64 (j : Int) ∧ Own base wr b (l ++ (bytesOf xs.length ++ (xs.take j).flatMap oneB)) ∧ Kb base w wr) := fun k b i wr h => h
  have HP := hid' (put_any w none 0 [] (n : Int) (Bts.nil _ _ _) (by simp) (by omega) (by omega))
  rw [hn] at HL0 HA hxs ⊢
  simp only [List.length_nil, Nat.zero_add, List.nil_append, Int.toNat_natCast] at HP
  have HN := hid' hn
  clear hx hok hl ho hn
  go_enter Try.func39, Try.ntmps39
  go_wp2_with fail
  refine HP.out.mono ?_
  rintro e w2 ⟨g, c, rfl, hown, hbel⟩
  have HW := hid' (owns_below HO.out hbel)
  have HS : Hid (base ≤ w2.heap.size) := (by have := hbel.size; omega : base ≤ w2.heap.size)
  go_wp2_with (first
    | (at_builtin; refine wpList_append_own _ rfl (.tmp 9) (.tmp 13) 28 rfl base 5 i0 (.int .u8 0) 1 1 Try.underlying28 hi hz0 hz1 hz2 rfl (by decide) v l.length (B8 l) rfl HW.out ⟨g, 0, none⟩ (sz n) c (B8 (bytesOf n)) rfl (by rw [length_B8, length_bytesOf]; omega) (hown.cells rfl) (B8_one _) (by have := HL0.out; unfold maxLen; omega) (by have := HL0.out; omega) HS.out ?_; intro v' w1 hown1 hgrow1 hnil1))
  have K0 := hid' ((Kb.of_below (base := base) hbel).trans (Kb.grown hgrow1 HW.out))
  have O0 : Hid (Own base w1 v' (l ++ (bytesOf xs.length ++ (xs.take 0).flatMap oneB))) := (by
    rw [HN.out]
    simp only [List.take_zero, List.flatMap_nil, List.append_nil]
    unfold Own
    rw [B8_append, List.length_append, length_bytesOf]
    exact hown1 : Own _ _ _ _)
  clear hown1 hgrow1 hnil1 hown hbel HW HO
  go_loopg [0, 17] n (fun k b i wr => putIntsInv base w l xs n k b i wr)
  case atStart => exact ⟨0, by omega, rfl, O0.out, K0.out⟩
  case round =>
    obtain ⟨j, hj, rfl, hown, hk⟩ := HI.out _ _ _ _ hrel
    clear hrel
    cases gk with
    | zero =>
      obtain rfl : j = n := by omega
      have HF := hid' (HA.out _ _ (by rw [HN.out] at hown; exact hown) hk)
      go_wp2
      go_ret
      exact HF.out
    | succ k =>
      have hjl : j < xs.length := by rw [HN.out]; omega
      obtain ⟨b1, o1, rfl, hB1, hc1⟩ := HX.out.cells (by rintro rfl; simp at hjl)
      have hkb := hk.below hB
      have hW : base ≤ wr.heap.size := Nat.le_trans hB hk.size
      have HLj := hid' (len_take oneB xs l j 0 hjl HL.out)
      have HSj := hid' (flat_step oneB xs l j 0 hjl)
      have HKj := hid' (HOK.out _ (getD_mem (d := 0) hjl))
      have p1 := (hkb.cell (p := ⟨b1, o1 + j, none⟩) hB1).trans (hc1 j hjl)
      have H := hid' (putNumber_any base wr _ _ (xs.getD j 0) hW hown HKj.out HLj.out)
      generalize hx : xs.getD j 0 = x at *
      have HSx := hx
      replace HSx := hid' HSx
      clear hc1 HKj HLj hown hx hkb
      go_wp2_with fail
      refine H.out.mono ?_
      rintro e w3 ⟨v3, rfl, hown3, hk3⟩
      have R : Hid (putIntsInv base w l xs n k v3 (.int .i64 ((j : Int) + 1)) w3) := ⟨j + 1, by omega, by simp, by rw [← HSj.out]; exact hown3, hk.trans hk3⟩
      clear H hown3 hk3
      go_wp2
      go_roundg k
      case measure => omega
      case rel => exact R.out

theorem putNumbers_any (base : Nat) (w : World) (v : Value) (l : List Int) (a : Option Addr) (cap : Nat) (xs : List Int) (hB : base ≤ w.heap.size) (ho : Own base w v l) (hx : Ns base w a xs) (hok : xs.length ≤ 16 ∧ ∀ x ∈ xs, R64 x) (hl : (l ++ listB oneB xs).length ≤ 1000000000) :
    Calls Try.prog 19 #[v, .slice a xs.length cap] w (PutAns base w l (listB oneB xs)) := by
  have H := hid' (putInts_any base w v l a cap xs hB ho hx hok.2 hl (by have := hok.1; omega))
  have HQ : Hid (∀ v' w', Own base w' v' (l ++ listB oneB xs) → Kb base w w' → PutAns base w l (listB oneB xs) (.returned v') w') := fun v' w' h k => ⟨v', rfl, h, k⟩
  have HE : Hid (∀ e w', PutAns base w l (listB oneB xs) e w' → ∃ v', e = .returned v' ∧ PutAns base w l (listB oneB xs) (.returned v') w') := fun e w' h => by
    obtain ⟨v', rfl, h⟩ := h
    exact ⟨v', rfl, v', rfl, h⟩
  clear ho hx hok hl HQ
  go_enter Try.func19, Try.ntmps19
  go_wp2_with fail
  refine H.out.mono ?_
  intro e w1 hq
  obtain ⟨v1, rfl, hq⟩ := HE.out _ _ hq
  go_wp2
  go_ret
  exact hq

/-- What holds in the loop of putList. -/
def putTermsInv (base : Nat) (w : World) (l : List Int) (xs : List V) (n k : Nat) (b i : Value) (wr : World) : Prop :=
  ∃ j : Nat, j + k = n ∧ i = .int .i64 (j : Int) ∧ Own base wr b (l ++ (bytesOf xs.length ++ (xs.take j).flatMap stepB)) ∧ Kb base w wr

set_option maxHeartbeats 4000000 in
theorem putTerms_any (base : Nat) (w : World) (v : Value) (l : List Int) (a : Option Addr) (cap : Nat) (xs : List V) (hB : base ≤ w.heap.size) (ho : Own base w v l) (hx : Vs base w a xs) (hok : ∀ x ∈ xs, TOK x) (hl : (l ++ listB stepB xs).length ≤ 1000000000) (hxs : xs.length ≤ 1000000000) :
    Calls Try.prog 63 #[v, .slice a xs.length cap, .func (.func 64) #[] #[]] w (PutAns base w l (listB stepB xs)) := by
  obtain ⟨i0, hi, hz0, hz1, hz2⟩ := info_parts Try.info5
  have HX := hid' hx
  have HOK := hid' hok
  have HL := hid' hl
  have HO := hid' ho
  have HA : Hid (∀ v' wr, Own base wr v' (l ++ (bytesOf xs.length ++ (xs.take xs.length).flatMap stepB)) → Kb base w wr → PutAns base w l (listB stepB xs) (.returned v') wr) := fun v' wr h k => ⟨v', rfl, by rw [List.take_length] at h; exact h, k⟩
  have HL0 : Hid (l.length + sz xs.length ≤ 1000000000) := (by
    simp only [listB, List.length_append, length_bytesOf] at hl
    omega : _ ≤ _)
  obtain ⟨n, hn⟩ : ∃ n, xs.length = n := ⟨_, rfl⟩
  have HI : Hid (∀ k b i wr, putTermsInv base w l xs n k b i wr → ∃ j : Nat, j + k = n ∧ i = .int .i64 (j : Int) ∧ Own base wr b (l ++ (bytesOf xs.length ++ (xs.take j).flatMap stepB)) ∧ Kb base w wr) := fun k b i wr h => h
  have HP := hid' (put_any w none 0 [] (n : Int) (Bts.nil _ _ _) (by simp) (by omega) (by omega))
  rw [hn] at HL0 HA hxs ⊢
  simp only [List.length_nil, Nat.zero_add, List.nil_append, Int.toNat_natCast] at HP
  have HN := hid' hn
  clear hx hok hl ho hn
  go_enter Try.func63, Try.ntmps63
  go_wp2_with fail
  refine HP.out.mono ?_
  rintro e w2 ⟨g, c, rfl, hown, hbel⟩
  have HW := hid' (owns_below HO.out hbel)
  have HS : Hid (base ≤ w2.heap.size) := (by have := hbel.size; omega : base ≤ w2.heap.size)
  go_wp2_with (first
    | (at_builtin; refine wpList_append_own _ rfl (.tmp 9) (.tmp 13) 28 rfl base 5 i0 (.int .u8 0) 1 1 Try.underlying28 hi hz0 hz1 hz2 rfl (by decide) v l.length (B8 l) rfl HW.out ⟨g, 0, none⟩ (sz n) c (B8 (bytesOf n)) rfl (by rw [length_B8, length_bytesOf]; omega) (hown.cells rfl) (B8_one _) (by have := HL0.out; unfold maxLen; omega) (by have := HL0.out; omega) HS.out ?_; intro v' w1 hown1 hgrow1 hnil1))
  have K0 := hid' ((Kb.of_below (base := base) hbel).trans (Kb.grown hgrow1 HW.out))
  have O0 : Hid (Own base w1 v' (l ++ (bytesOf xs.length ++ (xs.take 0).flatMap stepB))) := (by
    rw [HN.out]
    simp only [List.take_zero, List.flatMap_nil, List.append_nil]
    unfold Own
    rw [B8_append, List.length_append, length_bytesOf]
    exact hown1 : Own _ _ _ _)
  clear hown1 hgrow1 hnil1 hown hbel HW HO
  go_loopg [0, 17] n (fun k b i wr => putTermsInv base w l xs n k b i wr)
  case atStart => exact ⟨0, by omega, rfl, O0.out, K0.out⟩
  case round =>
    obtain ⟨j, hj, rfl, hown, hk⟩ := HI.out _ _ _ _ hrel
    clear hrel
    cases gk with
    | zero =>
      obtain rfl : j = n := by omega
      have HF := hid' (HA.out _ _ (by rw [HN.out] at hown; exact hown) hk)
      go_wp2
      go_ret
      exact HF.out
    | succ k =>
      have hjl : j < xs.length := by rw [HN.out]; omega
      obtain ⟨b1, o1, rfl, hB1, hc1⟩ := HX.out.cells (by rintro rfl; simp at hjl)
      have hkb := hk.below hB
      have hW : base ≤ wr.heap.size := Nat.le_trans hB hk.size
      have HLj := hid' (len_take stepB xs l j d0 hjl HL.out)
      have HSj := hid' (flat_step stepB xs l j d0 hjl)
      have HKj := hid' (HOK.out _ (getD_mem (d := d0) hjl))
      have p1 := (hkb.cell (p := ⟨b1, o1 + j * 3, none⟩) hB1).trans (hc1 j hjl).1
      have p2 := (hkb.cell (p := ⟨b1, o1 + j * 3 + 1, none⟩) hB1).trans (hc1 j hjl).2.1
      have p3 := (hkb.cell (p := ⟨b1, o1 + j * 3 + 2, none⟩) hB1).trans (hc1 j hjl).2.2
      have HK2 := hid' (hk.alloc (Obj.cells #[.int .i64 (xs.getD j d0).1, .int .i64 (xs.getD j d0).2.1, .string (xs.getD j d0).2.2] 64))
      have H := hid' (putStep_any base (wr.alloc (Obj.cells #[.int .i64 (xs.getD j d0).1, .int .i64 (xs.getD j d0).2.1, .string (xs.getD j d0).2.2] 64)) _ _ (xs.getD j d0) (by simp; omega) (hown.kb_alloc _) HKj.out HLj.out)
      generalize hx : xs.getD j d0 = x at *
      have HSx := hx
      replace HSx := hid' HSx
      clear hc1 HKj HLj hown hx hkb
      go_wp2_with fail
      refine H.out.mono ?_
      rintro e w3 ⟨v3, rfl, hown3, hk3⟩
      have R : Hid (putTermsInv base w l xs n k v3 (.int .i64 ((j : Int) + 1)) w3) := ⟨j + 1, by omega, by simp, by rw [← HSj.out]; exact hown3, HK2.out.trans hk3⟩
      clear H hown3 hk3
      go_wp2
      go_roundg k
      case measure => omega
      case rel => exact R.out

theorem putSteps_any (base : Nat) (w : World) (v : Value) (l : List Int) (a : Option Addr) (cap : Nat) (xs : List V) (hB : base ≤ w.heap.size) (ho : Own base w v l) (hx : Vs base w a xs) (hok : xs.length ≤ 64 ∧ ∀ x ∈ xs, TOK x) (hl : (l ++ listB stepB xs).length ≤ 1000000000) :
    Calls Try.prog 42 #[v, .slice a xs.length cap] w (PutAns base w l (listB stepB xs)) := by
  have H := hid' (putTerms_any base w v l a cap xs hB ho hx hok.2 hl (by have := hok.1; omega))
  have HQ : Hid (∀ v' w', Own base w' v' (l ++ listB stepB xs) → Kb base w w' → PutAns base w l (listB stepB xs) (.returned v') w') := fun v' w' h k => ⟨v', rfl, h, k⟩
  have HE : Hid (∀ e w', PutAns base w l (listB stepB xs) e w' → ∃ v', e = .returned v' ∧ PutAns base w l (listB stepB xs) (.returned v') w') := fun e w' h => by
    obtain ⟨v', rfl, h⟩ := h
    exact ⟨v', rfl, v', rfl, h⟩
  clear ho hx hok hl HQ
  go_enter Try.func42, Try.ntmps42
  go_wp2_with fail
  refine H.out.mono ?_
  intro e w1 hq
  obtain ⟨v1, rfl, hq⟩ := HE.out _ _ hq
  go_wp2
  go_ret
  exact hq

/-- What holds in the loop of putList. -/
def putExprsInv (base : Nat) (w : World) (l : List Int) (xs : List (List V)) (n k : Nat) (b i : Value) (wr : World) : Prop :=
  ∃ j : Nat, j + k = n ∧ i = .int .i64 (j : Int) ∧ Own base wr b (l ++ (bytesOf xs.length ++ (xs.take j).flatMap stepsB)) ∧ Kb base w wr

set_option maxHeartbeats 4000000 in
theorem putExprs_any (base : Nat) (w : World) (v : Value) (l : List Int) (a : Option Addr) (cap : Nat) (xs : List (List V)) (hB : base ≤ w.heap.size) (ho : Own base w v l) (hx : Es base w a xs) (hok : ∀ x ∈ xs, (x.length ≤ 64 ∧ ∀ t ∈ x, TOK t)) (hl : (l ++ listB stepsB xs).length ≤ 1000000000) (hxs : xs.length ≤ 1000000000) :
    Calls Try.prog 41 #[v, .slice a xs.length cap, .func (.func 42) #[] #[]] w (PutAns base w l (listB stepsB xs)) := by
  obtain ⟨i0, hi, hz0, hz1, hz2⟩ := info_parts Try.info5
  have HX := hid' hx
  have HOK := hid' hok
  have HL := hid' hl
  have HO := hid' ho
  have HA : Hid (∀ v' wr, Own base wr v' (l ++ (bytesOf xs.length ++ (xs.take xs.length).flatMap stepsB)) → Kb base w wr → PutAns base w l (listB stepsB xs) (.returned v') wr) := fun v' wr h k => ⟨v', rfl, by rw [List.take_length] at h; exact h, k⟩
  have HL0 : Hid (l.length + sz xs.length ≤ 1000000000) := (by
    simp only [listB, List.length_append, length_bytesOf] at hl
    omega : _ ≤ _)
  obtain ⟨n, hn⟩ : ∃ n, xs.length = n := ⟨_, rfl⟩
  have HI : Hid (∀ k b i wr, putExprsInv base w l xs n k b i wr → ∃ j : Nat, j + k = n ∧ i = .int .i64 (j : Int) ∧ Own base wr b (l ++ (bytesOf xs.length ++ (xs.take j).flatMap stepsB)) ∧ Kb base w wr) := fun k b i wr h => h
  have HP := hid' (put_any w none 0 [] (n : Int) (Bts.nil _ _ _) (by simp) (by omega) (by omega))
  rw [hn] at HL0 HA hxs ⊢
  simp only [List.length_nil, Nat.zero_add, List.nil_append, Int.toNat_natCast] at HP
  have HN := hid' hn
  clear hx hok hl ho hn
  go_enter Try.func41, Try.ntmps41
  go_wp2_with fail
  refine HP.out.mono ?_
  rintro e w2 ⟨g, c, rfl, hown, hbel⟩
  have HW := hid' (owns_below HO.out hbel)
  have HS : Hid (base ≤ w2.heap.size) := (by have := hbel.size; omega : base ≤ w2.heap.size)
  go_wp2_with (first
    | (at_builtin; refine wpList_append_own _ rfl (.tmp 9) (.tmp 13) 28 rfl base 5 i0 (.int .u8 0) 1 1 Try.underlying28 hi hz0 hz1 hz2 rfl (by decide) v l.length (B8 l) rfl HW.out ⟨g, 0, none⟩ (sz n) c (B8 (bytesOf n)) rfl (by rw [length_B8, length_bytesOf]; omega) (hown.cells rfl) (B8_one _) (by have := HL0.out; unfold maxLen; omega) (by have := HL0.out; omega) HS.out ?_; intro v' w1 hown1 hgrow1 hnil1))
  have K0 := hid' ((Kb.of_below (base := base) hbel).trans (Kb.grown hgrow1 HW.out))
  have O0 : Hid (Own base w1 v' (l ++ (bytesOf xs.length ++ (xs.take 0).flatMap stepsB))) := (by
    rw [HN.out]
    simp only [List.take_zero, List.flatMap_nil, List.append_nil]
    unfold Own
    rw [B8_append, List.length_append, length_bytesOf]
    exact hown1 : Own _ _ _ _)
  clear hown1 hgrow1 hnil1 hown hbel HW HO
  go_loopg [0, 17] n (fun k b i wr => putExprsInv base w l xs n k b i wr)
  case atStart => exact ⟨0, by omega, rfl, O0.out, K0.out⟩
  case round =>
    obtain ⟨j, hj, rfl, hown, hk⟩ := HI.out _ _ _ _ hrel
    clear hrel
    cases gk with
    | zero =>
      obtain rfl : j = n := by omega
      have HF := hid' (HA.out _ _ (by rw [HN.out] at hown; exact hown) hk)
      go_wp2
      go_ret
      exact HF.out
    | succ k =>
      have hjl : j < xs.length := by rw [HN.out]; omega
      obtain ⟨b1, o1, rfl, hB1, hc1⟩ := HX.out.cells (by rintro rfl; simp at hjl)
      have hkb := hk.below hB
      have hW : base ≤ wr.heap.size := Nat.le_trans hB hk.size
      have HLj := hid' (len_take stepsB xs l j [] hjl HL.out)
      have HSj := hid' (flat_step stepsB xs l j [] hjl)
      have HKj := hid' (HOK.out _ (getD_mem (d := []) hjl))
      obtain ⟨x1, c1, p1, v1⟩ := hc1 j hjl
      have p1 := (hkb.cell (p := ⟨b1, o1 + j, none⟩) hB1).trans p1
      have H := hid' (putSteps_any base wr _ _ x1 c1 (xs.getD j []) hW hown (v1.keep hkb) HKj.out HLj.out)
      generalize hx : xs.getD j [] = x at *
      have HSx := hx
      replace HSx := hid' HSx
      clear hc1 HKj HLj hown hx v1 hkb
      go_wp2_with fail
      refine H.out.mono ?_
      rintro e w3 ⟨v3, rfl, hown3, hk3⟩
      have R : Hid (putExprsInv base w l xs n k v3 (.int .i64 ((j : Int) + 1)) w3) := ⟨j + 1, by omega, by simp, by rw [← HSj.out]; exact hown3, hk.trans hk3⟩
      clear H hown3 hk3
      go_wp2
      go_roundg k
      case measure => omega
      case rel => exact R.out

set_option maxHeartbeats 4000000 in
theorem putNode_any (base : Nat) (w : World) (v : Value) (l : List Int) (x : Nd) (s : NdS) (hB : base ≤ w.heap.size) (ho : Own base w v l) (hx : NdR base w x s) (hok : NdOK x) (hl : (l ++ nodeB x).length ≤ 1000000000) :
    Calls Try.prog 21 #[v, ndV x s] w (PutAns base w l (nodeB x)) := by
  have HA : Hid (∀ v' w', Own base w' v' (((((((((l ++ oneB x.kind) ++ listB oneB x.ins) ++ listB oneB x.kinds) ++ listB stepsB x.exprs) ++ listB oneB x.cols) ++ oneB x.key) ++ oneB x.n) ++ oneB x.size) ++ oneB x.slide) → Kb base w w' → PutAns base w l (nodeB x) (.returned v') w') := fun v' w' h k => ⟨v', rfl, (by
    simp only [List.append_assoc] at h
    exact h), k⟩
  have HX := hid' hx
  have HOK := hid' hok
  unfold nodeB numsB exprsB at hl
  have HL0 := hid' (len_left hl)
  rw [← List.append_assoc] at hl
  have HL1 := hid' (len_left hl)
  rw [← List.append_assoc] at hl
  have HL2 := hid' (len_left hl)
  rw [← List.append_assoc] at hl
  have HL3 := hid' (len_left hl)
  rw [← List.append_assoc] at hl
  have HL4 := hid' (len_left hl)
  rw [← List.append_assoc] at hl
  have HL5 := hid' (len_left hl)
  rw [← List.append_assoc] at hl
  have HL6 := hid' (len_left hl)
  rw [← List.append_assoc] at hl
  have HL7 := hid' (len_left hl)
  rw [← List.append_assoc] at hl
  have HL8 := hid' hl
  have O := hid' (ho.kb_alloc (ndObj x s))
  have K := hid' ((Kb.refl base w).alloc (ndObj x s))
  unfold ndObj at O K
  have BX := hid' (Bx.new w #[.int .i64 x.kind, .slice s.a1 x.ins.length s.c1, .slice s.a2 x.kinds.length s.c2, .slice s.a3 x.exprs.length s.c3, .slice s.a4 x.cols.length s.c4, .int .i64 x.key, .int .i64 x.n, .int .i64 x.size, .int .i64 x.slide] 44)
  clear hx hok hl ho
  unfold ndV
  go_enter Try.func21, Try.ntmps21
  go_wp2_with fail
  refine (putNumber_any base _ _ _ x.kind (by have := K.out.size; omega) O.out HOK.out.kind HL0.out).mono ?_
  rintro e w1 ⟨v1, rfl, o1, k1⟩
  replace K := hid' (K.out.trans k1)
  replace BX := hid' (BX.out.kb k1 (by decide))
  replace O := hid' o1
  clear k1 o1
  have c1 : w1.cell? ⟨w.heap.size, 1, none⟩ = some (.slice s.a1 x.ins.length s.c1) := BX.out.cell 1
  go_wp2_with fail
  refine (putNumbers_any base _ _ _ s.a1 s.c1 x.ins (by have := K.out.size; omega) O.out (HX.out.ins.keep (K.out.below hB)) ⟨(by have := HOK.out.n1; omega), HOK.out.ins⟩ HL1.out).mono ?_
  rintro e w2 ⟨v2, rfl, o2, k2⟩
  replace K := hid' (K.out.trans k2)
  replace BX := hid' (BX.out.kb k2 (by decide))
  replace O := hid' o2
  clear k2 o2 c1
  have c2 : w2.cell? ⟨w.heap.size, 2, none⟩ = some (.slice s.a2 x.kinds.length s.c2) := BX.out.cell 2
  go_wp2_with fail
  refine (putNumbers_any base _ _ _ s.a2 s.c2 x.kinds (by have := K.out.size; omega) O.out (HX.out.kinds.keep (K.out.below hB)) ⟨(by have := HOK.out.n2; omega), HOK.out.kinds⟩ HL2.out).mono ?_
  rintro e w3 ⟨v3, rfl, o3, k3⟩
  replace K := hid' (K.out.trans k3)
  replace BX := hid' (BX.out.kb k3 (by decide))
  replace O := hid' o3
  clear k3 o3 c2
  have c3 : w3.cell? ⟨w.heap.size, 3, none⟩ = some (.slice s.a3 x.exprs.length s.c3) := BX.out.cell 3
  go_wp2_with fail
  refine (putExprs_any base _ _ _ s.a3 s.c3 x.exprs (by have := K.out.size; omega) O.out (HX.out.exprs.keep (K.out.below hB)) HOK.out.exprs HL3.out (by have := HOK.out.n3; omega)).mono ?_
  rintro e w4 ⟨v4, rfl, o4, k4⟩
  replace K := hid' (K.out.trans k4)
  replace BX := hid' (BX.out.kb k4 (by decide))
  replace O := hid' o4
  clear k4 o4 c3
  have c4 : w4.cell? ⟨w.heap.size, 4, none⟩ = some (.slice s.a4 x.cols.length s.c4) := BX.out.cell 4
  go_wp2_with fail
  refine (putNumbers_any base _ _ _ s.a4 s.c4 x.cols (by have := K.out.size; omega) O.out (HX.out.cols.keep (K.out.below hB)) ⟨(by have := HOK.out.n4; omega), HOK.out.cols⟩ HL4.out).mono ?_
  rintro e w5 ⟨v5, rfl, o5, k5⟩
  replace K := hid' (K.out.trans k5)
  replace BX := hid' (BX.out.kb k5 (by decide))
  replace O := hid' o5
  clear k5 o5 c4
  have c5 : w5.cell? ⟨w.heap.size, 5, none⟩ = some (.int .i64 x.key) := BX.out.cell 5
  go_wp2_with fail
  refine (putNumber_any base _ _ _ x.key (by have := K.out.size; omega) O.out HOK.out.key HL5.out).mono ?_
  rintro e w6 ⟨v6, rfl, o6, k6⟩
  replace K := hid' (K.out.trans k6)
  replace BX := hid' (BX.out.kb k6 (by decide))
  replace O := hid' o6
  clear k6 o6 c5
  have c6 : w6.cell? ⟨w.heap.size, 6, none⟩ = some (.int .i64 x.n) := BX.out.cell 6
  go_wp2_with fail
  refine (putNumber_any base _ _ _ x.n (by have := K.out.size; omega) O.out HOK.out.n HL6.out).mono ?_
  rintro e w7 ⟨v7, rfl, o7, k7⟩
  replace K := hid' (K.out.trans k7)
  replace BX := hid' (BX.out.kb k7 (by decide))
  replace O := hid' o7
  clear k7 o7 c6
  have c7 : w7.cell? ⟨w.heap.size, 7, none⟩ = some (.int .i64 x.size) := BX.out.cell 7
  go_wp2_with fail
  refine (putNumber_any base _ _ _ x.size (by have := K.out.size; omega) O.out HOK.out.size HL7.out).mono ?_
  rintro e w8 ⟨v8, rfl, o8, k8⟩
  replace K := hid' (K.out.trans k8)
  replace BX := hid' (BX.out.kb k8 (by decide))
  replace O := hid' o8
  clear k8 o8 c7
  have c8 : w8.cell? ⟨w.heap.size, 8, none⟩ = some (.int .i64 x.slide) := BX.out.cell 8
  go_wp2_with fail
  refine (putNumber_any base _ _ _ x.slide (by have := K.out.size; omega) O.out HOK.out.slide HL8.out).mono ?_
  rintro e w9 ⟨v9, rfl, o9, k9⟩
  replace K := hid' (K.out.trans k9)
  replace O := hid' o9
  clear k9 o9 c8
  have HF := hid' (HA.out _ _ O.out K.out)
  go_wp2
  go_ret
  exact HF.out

/-- What holds in the loop of putList. -/
def putNodesInv (base : Nat) (w : World) (l : List Int) (xs : List Nd) (n k : Nat) (b i : Value) (wr : World) : Prop :=
  ∃ j : Nat, j + k = n ∧ i = .int .i64 (j : Int) ∧ Own base wr b (l ++ (bytesOf xs.length ++ (xs.take j).flatMap nodeB)) ∧ Kb base w wr

set_option maxHeartbeats 4000000 in
theorem putNodes_any (base : Nat) (w : World) (v : Value) (l : List Int) (a : Option Addr) (cap : Nat) (xs : List Nd) (hB : base ≤ w.heap.size) (ho : Own base w v l) (hx : Nds base w a xs) (hok : ∀ x ∈ xs, NdOK x) (hl : (l ++ listB nodeB xs).length ≤ 1000000000) (hxs : xs.length ≤ 1000000000) :
    Calls Try.prog 20 #[v, .slice a xs.length cap, .func (.func 21) #[] #[]] w (PutAns base w l (listB nodeB xs)) := by
  obtain ⟨i0, hi, hz0, hz1, hz2⟩ := info_parts Try.info5
  have HX := hid' hx
  have HOK := hid' hok
  have HL := hid' hl
  have HO := hid' ho
  have HA : Hid (∀ v' wr, Own base wr v' (l ++ (bytesOf xs.length ++ (xs.take xs.length).flatMap nodeB)) → Kb base w wr → PutAns base w l (listB nodeB xs) (.returned v') wr) := fun v' wr h k => ⟨v', rfl, by rw [List.take_length] at h; exact h, k⟩
  have HL0 : Hid (l.length + sz xs.length ≤ 1000000000) := (by
    simp only [listB, List.length_append, length_bytesOf] at hl
    omega : _ ≤ _)
  obtain ⟨n, hn⟩ : ∃ n, xs.length = n := ⟨_, rfl⟩
  have HI : Hid (∀ k b i wr, putNodesInv base w l xs n k b i wr → ∃ j : Nat, j + k = n ∧ i = .int .i64 (j : Int) ∧ Own base wr b (l ++ (bytesOf xs.length ++ (xs.take j).flatMap nodeB)) ∧ Kb base w wr) := fun k b i wr h => h
  have HP := hid' (put_any w none 0 [] (n : Int) (Bts.nil _ _ _) (by simp) (by omega) (by omega))
  rw [hn] at HL0 HA hxs ⊢
  simp only [List.length_nil, Nat.zero_add, List.nil_append, Int.toNat_natCast] at HP
  have HN := hid' hn
  clear hx hok hl ho hn
  go_enter Try.func20, Try.ntmps20
  go_wp2_with fail
  refine HP.out.mono ?_
  rintro e w2 ⟨g, c, rfl, hown, hbel⟩
  have HW := hid' (owns_below HO.out hbel)
  have HS : Hid (base ≤ w2.heap.size) := (by have := hbel.size; omega : base ≤ w2.heap.size)
  go_wp2_with (first
    | (at_builtin; refine wpList_append_own _ rfl (.tmp 9) (.tmp 13) 28 rfl base 5 i0 (.int .u8 0) 1 1 Try.underlying28 hi hz0 hz1 hz2 rfl (by decide) v l.length (B8 l) rfl HW.out ⟨g, 0, none⟩ (sz n) c (B8 (bytesOf n)) rfl (by rw [length_B8, length_bytesOf]; omega) (hown.cells rfl) (B8_one _) (by have := HL0.out; unfold maxLen; omega) (by have := HL0.out; omega) HS.out ?_; intro v' w1 hown1 hgrow1 hnil1))
  have K0 := hid' ((Kb.of_below (base := base) hbel).trans (Kb.grown hgrow1 HW.out))
  have O0 : Hid (Own base w1 v' (l ++ (bytesOf xs.length ++ (xs.take 0).flatMap nodeB))) := (by
    rw [HN.out]
    simp only [List.take_zero, List.flatMap_nil, List.append_nil]
    unfold Own
    rw [B8_append, List.length_append, length_bytesOf]
    exact hown1 : Own _ _ _ _)
  clear hown1 hgrow1 hnil1 hown hbel HW HO
  go_loopg [0, 17] n (fun k b i wr => putNodesInv base w l xs n k b i wr)
  case atStart => exact ⟨0, by omega, rfl, O0.out, K0.out⟩
  case round =>
    obtain ⟨j, hj, rfl, hown, hk⟩ := HI.out _ _ _ _ hrel
    clear hrel
    cases gk with
    | zero =>
      obtain rfl : j = n := by omega
      have HF := hid' (HA.out _ _ (by rw [HN.out] at hown; exact hown) hk)
      go_wp2
      go_ret
      exact HF.out
    | succ k =>
      have hjl : j < xs.length := by rw [HN.out]; omega
      obtain ⟨b1, o1, rfl, hB1, hc1⟩ := HX.out.cells (by rintro rfl; simp at hjl)
      have hkb := hk.below hB
      have hW : base ≤ wr.heap.size := Nat.le_trans hB hk.size
      have HLj := hid' (len_take nodeB xs l j n0 hjl HL.out)
      have HSj := hid' (flat_step nodeB xs l j n0 hjl)
      have HKj := hid' (HOK.out _ (getD_mem (d := n0) hjl))
      obtain ⟨s, C1, R1⟩ := hc1 j hjl
      have C1 := C1.keep hkb hB1
      have HK2 := hid' (hk.alloc (ndObj (xs.getD j n0) s))
      have H := hid' (putNode_any base (wr.alloc (ndObj (xs.getD j n0) s)) _ _ (xs.getD j n0) s (by simp; omega) (hown.kb_alloc _) (R1.keep (hkb.trans ((Below.refl _ _).alloc hW _))) HKj.out HLj.out)
      generalize hx : xs.getD j n0 = x at *
      obtain ⟨p0, p1, p2, p3, p4, p5, p6, p7, p8⟩ := C1
      clear R1
      unfold ndV ndObj at H
      unfold ndObj at HK2
      have HSx := hx
      replace HSx := hid' HSx
      clear hc1 HKj HLj hown hx hkb
      go_wp2_with fail
      refine H.out.mono ?_
      rintro e w3 ⟨v3, rfl, hown3, hk3⟩
      have R : Hid (putNodesInv base w l xs n k v3 (.int .i64 ((j : Int) + 1)) w3) := ⟨j + 1, by omega, by simp, by rw [← HSj.out]; exact hown3, HK2.out.trans hk3⟩
      clear H hown3 hk3
      go_wp2
      go_roundg k
      case measure => omega
      case rel => exact R.out

end Go.Proofs.Ytjpjeledbjpaeaa
