/-
  What is proved here: putTime and PutFront put a time's, a frontier's bytes behind bytes.
  What is proved here: row.Check, row.Put and the document's Check of rows.
  What is proved here: row.Put.
  What is proved here: Check of commands, by the program and by the document.
-/
import Derived.Test.YtgalmkhgbokidaaMgD

namespace Go.Proofs.Ytgalmkhgbokidaa
open Go.RowKit Go.Proofs
set_option maxRecDepth 20000
set_option linter.unusedVariables false
set_option linter.unusedSimpArgs false

theorem len_left {a b c : List Int} {n : Nat} (h : (a ++ (b ++ c)).length ≤ n) : (a ++ b).length ≤ n := by
  rw [List.length_append] at *
  rw [List.length_append] at h
  omega

def ptVal (v : Value) (g : Nat) (x y : Int) (i : Nat) : Option Value := [some v, some (.pointer (some ⟨g, 0, none⟩)), some (.int .i64 x), none, some (.pointer (some ⟨g, 1, none⟩)), some (.int .i64 y), none, none].getD i none

/-- What holds while putTime goes on. -/
def ptInv (base : Nat) (w : World) (v : Value) (l : List Int) (g : Nat) (x y : Int) (vs : List Value) (W : World) : Prop :=
  Bx W g #[.int .i64 x, .int .i64 y] 26 ∧ Kb base w W ∧ match vs with
    | [] => Own base W v l
    | [p] => Own base W p (l ++ oneB x)
    | [_, p] => Own base W p ((l ++ oneB x) ++ oneB y)
    | [_, p, q] => q = p ∧ Own base W p ((l ++ oneB x) ++ oneB y)
    | _ => False

set_option maxHeartbeats 2000000 in
theorem putTime_any (base : Nat) (w : World) (v : Value) (l : List Int) (t : T) (hB : base ≤ w.heap.size) (ho : Own base w v l) (ht : RT t) (hl : (l ++ timeB t).length ≤ 1000000000) :
    Calls Try.prog 53 #[v, .agg #[.int .i64 t.1, .int .i64 t.2]] w (PutAns base w l (timeB t)) := by
  obtain ⟨x, y⟩ := t
  obtain ⟨r0, r1⟩ := ht
  unfold timeB at hl ⊢
  simp only at hl r0 r1 ⊢
  have HL1 := hid' (len_left hl)
  rw [← List.append_assoc] at hl
  have HL2 := hid' hl
  have HI : Hid (ptInv base w v l w.heap.size x y [] (w.alloc (.cells #[.int .i64 x, .int .i64 y] 26))) := ⟨Bx.new _ _ _, (Kb.refl base w).alloc _, ho.kb_alloc _⟩
  have HID : Hid (∀ W, ptInv base w v l w.heap.size x y [] W → ptInv base w v l w.heap.size x y [] W.drew) := fun W ⟨a, b, c⟩ => ⟨a.keep (Below.refl _ _).drew, b.trans (Kb.of_below (Below.refl _ _).drew), Own.below c (Below.refl _ _).drew⟩
  clear hl ho
  go_enter Try.func53, Try.ntmps53
  go_wp2_with fail
  refine PQ.wp_region_quiet (ptVal v w.heap.size x y) (ptInv base w v l w.heap.size x y) mixed' (by kernel_rfl) (HID.out _ HI.out) ?_ ?_
  · refine ⟨?_, ?_, ?_, ?_, ?_, ?_, ?_, ?_, trivial⟩
    · intro vs A W hI hC
      exact ⟨PB.wanted_free rfl, run_moveD W (hC.outer 0 rfl)⟩
    · intro vs A W hI hC
      exact ⟨PB.wanted_free rfl, run_faTime0 W (hC.outer 3 rfl)⟩
    · intro vs A W hI hC
      exact ⟨PB.wanted_free rfl, run_loadZ W (hC.left 1 rfl) (hI.1.cell 0)⟩
    · intro vs A W hk hI hC
      obtain rfl : vs = [] := List.length_eq_zero_iff.1 hk
      refine ⟨PB.wanted_free rfl, PQ.loud_call #[v, .int .i64 x] rfl Try.func56 rfl rfl ?_ ?_⟩
      · show [PB.slot A 5, PB.slot A 7] = _
        rw [show PB.slot A 5 = v from hC.left 0 rfl, show PB.slot A 7 = .int .i64 x from hC.left 2 rfl]
      · refine (putNumber_any base W v l x (by have := hI.2.1.size; omega) hI.2.2 r0 HL1.out).mono ?_
        rintro e W2 ⟨p, rfl, o1, k1⟩
        exact ⟨p, rfl, hI.1.kb k1 (by decide), hI.2.1.trans k1, o1⟩
    · intro vs A W hI hC
      exact ⟨PB.wanted_free rfl, run_faTime1 W (hC.outer 3 rfl)⟩
    · intro vs A W hI hC
      exact ⟨PB.wanted_free rfl, run_loadZ W (hC.left 4 rfl) (hI.1.cell 1)⟩
    · intro vs A W hk hI hC
      match vs, hk, hI, hC with
      | [p], _, hI, hC =>
        refine ⟨PB.wanted_free rfl, PQ.loud_call #[p, .int .i64 y] rfl Try.func56 rfl rfl ?_ ?_⟩
        · show [PB.slot A 8, PB.slot A 10] = _
          rw [show PB.slot A 8 = p from hC.left 3 rfl, show PB.slot A 10 = .int .i64 y from hC.left 5 rfl]
        · refine (putNumber_any base W p _ y (by have := hI.2.1.size; omega) hI.2.2 r1 HL2.out).mono ?_
          rintro e W2 ⟨q, rfl, o1, k1⟩
          exact ⟨q, rfl, hI.1.kb k1 (by decide), hI.2.1.trans k1, o1⟩
    · intro vs A W hk hI hC
      match vs, hk, hI, hC with
      | [p, q], _, hI, hC =>
        exact ⟨PB.wanted_free rfl, PQ.loud_value (run_assD W (hC.left 6 rfl)) ⟨hI.1, hI.2.1, rfl, hI.2.2⟩⟩
  · intro vs A W hk hI hE
    match vs, hk, hI, hE with
    | [p, q, r], _, hI, hE =>
      have h4 : PB.slot A 4 = r := hE.left 7
      obtain ⟨tmps, defers⟩ := A
      have hd : defers = [] := hE.defers
      subst hd
      obtain ⟨_, hK, hr, hO⟩ := hI
      have HO := hid' hO
      have HK := hid' hK
      clear hO hK hE
      go_wp2
      go_ret
      exact ⟨q, by rw [← hr]; exact congrArg Ending.returned h4, by rw [← List.append_assoc]; exact HO.out, HK.out⟩

theorem getD_at {α : Type} {xs : List α} {j : Nat} {d : α} (hj : j < xs.length) : xs.getD j d = xs[j] := by simp [List.getD, List.getElem?_eq_getElem hj]

theorem flat_split {α : Type} (f : α → List Int) (xs : List α) (j : Nat) (d : α) (hj : j < xs.length) : xs.flatMap f = (xs.take j).flatMap f ++ (f (xs.getD j d) ++ (xs.drop (j + 1)).flatMap f) := by
  have e0 : xs = xs.take j ++ (xs[j] :: xs.drop (j + 1)) := by rw [← List.drop_eq_getElem_cons hj, List.take_append_drop]
  conv => lhs; rw [e0]
  rw [List.flatMap_append, List.flatMap_cons, getD_at hj]

theorem len_take {α : Type} (f : α → List Int) (xs : List α) (a : List Int) (j : Nat) (d : α) {n : Nat} (hj : j < xs.length) (h : (a ++ listB f xs).length ≤ n) : ((a ++ (bytesOf xs.length ++ (xs.take j).flatMap f)) ++ f (xs.getD j d)).length ≤ n := by
  unfold listB at h
  rw [flat_split f xs j d hj] at h
  simp only [List.length_append] at h ⊢
  omega

theorem flat_step {α : Type} (f : α → List Int) (xs : List α) (a : List Int) (j : Nat) (d : α) (hj : j < xs.length) : (a ++ (bytesOf xs.length ++ (xs.take j).flatMap f)) ++ f (xs.getD j d) = a ++ (bytesOf xs.length ++ (xs.take (j + 1)).flatMap f) := by
  rw [List.take_add_one, List.getElem?_eq_getElem hj, getD_at hj, List.flatMap_append, Option.toList_some, List.flatMap_singleton]
  simp only [List.append_assoc]

/-- What a call answers that puts r behind bytes l that were handed in. -/
def NewAns (r : List Int) (w : World) (e : Ending) (w' : World) : Prop := ∃ v, e = .returned v ∧ Own w.heap.size w' v r ∧ Below w.heap.size w w'

theorem put_own (w : World) (a : Option Addr) (cap : Nat) (l : List Int) (n : Nat) (hb : Bts w.heap.size w a l) (hl : l.length ≤ 1000000000) (h1 : n ≤ 1000000000) :
    Calls Try.prog 52 #[.slice a l.length cap, .int .u64 (n : Int)] w (NewAns (l ++ bytesOf n) w) := by
  have h := put_any w a cap l (n : Int) hb hl (by omega) (by omega)
  rw [Int.toNat_natCast] at h
  refine h.mono ?_
  rintro e w2 ⟨g, c, rfl, ho, hb2⟩
  refine ⟨_, rfl, ?_, hb2⟩
  unfold Own
  rw [List.length_append, length_bytesOf]
  exact ho

/-- What holds in the loop of PutFront. -/
def pfInv (w : World) (l : List Int) (xs : List T) (n k : Nat) (b i : Value) (wr : World) : Prop :=
  ∃ j : Nat, j + k = n ∧ i = .int .i64 (j : Int) ∧ Own w.heap.size wr b (l ++ (bytesOf xs.length ++ (xs.take j).flatMap timeB)) ∧ Below w.heap.size w wr

set_option maxHeartbeats 4000000 in
theorem putFront_any (P : Nat → Prop) (w : World) (a : Option Addr) (cap : Nat) (l : List Int) (fa : Option Addr) (fc : Nat) (xs : List T) (hb : Bts w.heap.size w a l) (hx : TP P w fa xs) (hok : ∀ t ∈ xs, RT t) (hl : (l ++ frontB xs).length ≤ 1000000) (hxs : xs.length ≤ 1000000) :
    Calls Try.prog 23 #[.slice a l.length cap, .slice fa xs.length fc] w (NewAns (l ++ frontB xs) w) := by
  have HX := hid' hx
  have HOK := hid' hok
  have HL : Hid ((l ++ listB timeB xs).length ≤ 1000000000) := (Nat.le_trans hl (by omega) : _ ≤ _)
  have HA : Hid (∀ v' wr, Own w.heap.size wr v' (l ++ (bytesOf xs.length ++ (xs.take xs.length).flatMap timeB)) → Below w.heap.size w wr → NewAns (l ++ frontB xs) w (.returned v') wr) := fun v' wr h k => ⟨v', rfl, by rw [List.take_length] at h; exact h, k⟩
  obtain ⟨n, hn⟩ : ∃ n, xs.length = n := ⟨_, rfl⟩
  have HI : Hid (∀ k b i wr, pfInv w l xs n k b i wr → ∃ j : Nat, j + k = n ∧ i = .int .i64 (j : Int) ∧ Own w.heap.size wr b (l ++ (bytesOf xs.length ++ (xs.take j).flatMap timeB)) ∧ Below w.heap.size w wr) := fun k b i wr h => h
  have HP := hid' (put_own w a cap l n hb (by rw [List.length_append] at hl; omega) (by omega))
  rw [hn] at HA hxs ⊢
  have HN := hid' hn
  clear hx hok hl hn hb
  go_enter Try.func23, Try.ntmps23
  go_wp2_with fail
  refine HP.out.mono ?_
  rintro e w2 ⟨v0, rfl, hown, hbel⟩
  have H0 : Hid (pfInv w l xs n n v0 (.int .i64 0) w2) := ⟨0, by omega, rfl, by rw [HN.out]; simpa using hown, hbel⟩
  clear hown hbel HP
  go_wp2
  go_loopg [5, 15] n (fun k b i wr => pfInv w l xs n k b i wr)
  case atStart => exact H0.out
  case round =>
    obtain ⟨j, hj, rfl, hown, hbel⟩ := HI.out _ _ _ _ hrel
    cases gk with
    | zero =>
      obtain rfl : j = n := by omega
      have HF := hid' (HA.out _ _ (by rw [HN.out] at hown; exact hown) hbel)
      clear hrel hown hbel
      go_wp2
      go_ret
      exact HF.out
    | succ k =>
      have hjl : j < xs.length := by rw [HN.out]; omega
      obtain ⟨b1, o1, rfl⟩ := SP.lt HX.out (by rintro rfl; simp at hjl)
      have hx1 := SP.on HX.out hbel
      obtain ⟨c1, c2⟩ := TP.at hx1 hjl
      have hR := HOK.out _ (getD_mem (d := t0) hjl)
      have HC := hid' (fun W (hW : Below wr.heap.size wr W) => putTime_any w.heap.size W u5 _ (xs.getD j t0) (Nat.le_trans hbel.size hW.size) (Own.below hown hW) hR (len_take timeB xs l j t0 hjl HL.out))
      have HST := hid' (flat_step timeB xs l j t0 hjl)
      have HB := hid' hbel
      clear hown hbel hx1 hrel hjl hR
      generalize xs.getD j t0 = t at *
      obtain ⟨tx, ty⟩ := t
      simp only at c1 c2 HC
      go_wp2_with fail
      refine (HC.out _ ((Below.refl _ _).alloc (Nat.le_refl _) _)).mono ?_
      rintro e w3 ⟨v3, rfl, o3, k3⟩
      have H3 : Hid (pfInv w l xs n k v3 (.int .i64 ((j : Int) + 1)) w3) := ⟨j + 1, by omega, by simp, by rw [← HST.out]; exact o3, (bel_alloc HB.out _).trans (k3.below (by have := HB.out.size; simp; omega))⟩
      clear o3 k3 HC
      go_wp2
      go_roundg k
      case measure => omega
      case rel => exact H3.out

end Go.Proofs.Ytgalmkhgbokidaa

namespace Go.Proofs.Ytgalmkhgbokidaa
open Go.RowKit Go.Proofs
set_option maxRecDepth 20000
set_option linter.unusedVariables false
set_option linter.unusedSimpArgs false

set_option maxHeartbeats 1000000 in
theorem checkVal_any (v : V) (w : World) : Calls Try.prog 59 #[.agg #[.int .i64 v.1, .int .i64 v.2.1, .string v.2.2]] w fun e w' => e = .returned (.int .i64 (chkV v)) ∧ Below w.heap.size w w' := by
  obtain ⟨k, z, s⟩ := v
  have H : Hid (chkV (k, z, s) = if k = 1 then (if 4096 < s.size then 2 else 0) else if k = 0 then 0 else 8) := rfl
  simp only
  by_cases h1 : k = 1
  · subst h1
    by_cases h2 : 4096 < s.size
    · have E : Hid (chkV (1, z, s) = 2) := by unfold Hid; rw [H.out]; simp [h2]
      go_enter Try.func59, Try.ntmps59
      go_wp2
      go_ret
      exact ⟨by rw [E.out]; rfl, (Below.refl _ _).alloc (Nat.le_refl _) _⟩
    · have E : Hid (chkV (1, z, s) = 0) := by unfold Hid; rw [H.out]; simp [h2]
      go_enter Try.func59, Try.ntmps59
      go_wp2
      go_ret
      exact ⟨by rw [E.out]; rfl, (Below.refl _ _).alloc (Nat.le_refl _) _⟩
  · by_cases h0 : k = 0
    · subst h0
      go_enter Try.func59, Try.ntmps59
      go_wp2
      go_ret
      exact ⟨rfl, (Below.refl _ _).alloc (Nat.le_refl _) _⟩
    · have E : Hid (chkV (k, z, s) = 8) := by unfold Hid; rw [H.out]; simp [h1, h0]
      have b0 : (k == 0) = false := by simpa using h0
      have b1 : (k == 1) = false := by simpa using h1
      clear H
      go_enter Try.func59, Try.ntmps59
      go_wp2
      go_ret
      exact ⟨by rw [E.out]; rfl, (Below.refl _ _).alloc (Nat.le_refl _) _⟩

theorem chkL_step {l : List V} {j : Nat} (hj : j < l.length) : chkL (l.drop j) = if chkV (l.getD j d0) = 0 then chkL (l.drop (j + 1)) else chkV (l.getD j d0) := by
  rw [List.drop_eq_getElem_cons hj, getD_at hj]
  rfl

def rcInv (w : World) (l : List V) (n k : Nat) (i : Value) (wr : World) : Prop := ∃ j : Nat, j + k = n ∧ i = .int .i64 (j : Int) ∧ chkL l = chkL (l.drop j) ∧ Below w.heap.size w wr

set_option maxHeartbeats 2000000 in
theorem rowCheck_any (P : Nat → Prop) (w : World) (a : Option Addr) (c : Nat) (l : List V) (h : VP P w a l) :
    Calls Try.prog 35 #[.slice a l.length c] w fun e w' => e = .returned (.int .i64 (chkR l)) ∧ Below w.heap.size w w' := by
  have H : Hid (chkR l = if 16 < l.length then 3 else chkL l) := rfl
  obtain ⟨n, hn⟩ : ∃ n, l.length = n := ⟨_, rfl⟩
  have HN := hid' hn
  have HX := hid' h
  rw [hn] at H ⊢
  clear h hn
  by_cases h16 : 16 < n
  · have E : Hid (chkR l = 3) := by unfold Hid; rw [H.out]; simp [h16]
    clear H
    go_enter Try.func35, Try.ntmps35
    go_wp2
    go_ret
    exact ⟨by rw [E.out]; rfl, Below.refl _ _⟩
  · have E : Hid (chkR l = chkL l) := by unfold Hid; rw [H.out]; simp [h16]
    have HI : Hid (∀ k i wr, rcInv w l n k i wr → ∃ j : Nat, j + k = n ∧ i = .int .i64 (j : Int) ∧ chkL l = chkL (l.drop j) ∧ Below w.heap.size w wr) := fun k i wr h => h
    clear H
    go_enter Try.func35, Try.ntmps35
    go_wp2
    go_loopg [11] n (fun k i wr => rcInv w l n k i wr)
    case atStart => exact ⟨0, by omega, rfl, rfl, Below.refl _ _⟩
    case round =>
      obtain ⟨j, hj, rfl, hc, hbel⟩ := HI.out _ _ _ hrel
      clear hrel
      have HC := hid' hc
      have HB := hid' hbel
      clear hc
      cases gk with
      | zero =>
        obtain rfl : j = n := by omega
        have HF : Hid (chkR l = 0) := by unfold Hid; rw [E.out, HC.out, ← HN.out, List.drop_length]; rfl
        clear hbel
        go_wp2
        go_ret
        exact ⟨by rw [HF.out]; rfl, HB.out⟩
      | succ k =>
        have hjl : j < l.length := by rw [HN.out]; omega
        obtain ⟨b1, o1, rfl⟩ := SP.lt HX.out (by rintro rfl; simp at hjl)
        have hx1 := SP.on HX.out hbel
        obtain ⟨c1, c2, c3⟩ := VP.at hx1 hjl
        have HS := hid' (chkL_step hjl)
        have HCV := hid' (checkVal_any (l.getD j d0))
        clear hx1 hbel hjl
        generalize l.getD j d0 = v at *
        obtain ⟨vk, vi, vs⟩ := v
        simp only at c1 c2 c3 HCV
        go_wp2_with fail
        refine (HCV.out _).mono ?_
        rintro e w3 ⟨rfl, hb3⟩
        have HB3 := hid' ((bel_alloc HB.out _).trans (hb3.mono (by have := HB.out.size; simp; omega)))
        clear hb3 HCV
        by_cases hz : chkV (vk, vi, vs) = 0
        · have H3 : Hid (rcInv w l n k (.int .i64 ((j : Int) + 1)) w3) := ⟨j + 1, by omega, by simp, by rw [HC.out, HS.out, if_pos hz], HB3.out⟩
          rw [hz]
          go_wp2
          go_roundg k
          case measure => omega
          case rel => exact H3.out
        · have HF : Hid (chkR l = chkV (vk, vi, vs)) := by unfold Hid; rw [E.out, HC.out, HS.out, if_neg hz]
          have hz' : (chkV (vk, vi, vs) != 0) = true := by simpa using hz
          generalize chkV (vk, vi, vs) = q at *
          go_wp2
          go_ret
          exact ⟨by rw [HF.out]; rfl, HB3.out⟩

def ocInv (w : World) (l : List V) (n k : Nat) (i : Value) (wr : World) : Prop := ∃ j : Nat, j + k = n ∧ i = .int .i64 (j : Int) ∧ chkL l = chkL (l.drop j) ∧ wr = w

set_option maxHeartbeats 2000000 in
theorem oCheck_any (P : Nat → Prop) (w : World) (a : Option Addr) (c : Nat) (l : List V) (h : VP P w a l) :
    Calls Try.prog 32 #[.slice a l.length c] w fun e w' => e = .returned (.int .i64 (chkR l)) ∧ w' = w := by
  have H : Hid (chkR l = if 16 < l.length then 3 else chkL l) := rfl
  obtain ⟨n, hn⟩ : ∃ n, l.length = n := ⟨_, rfl⟩
  have HN := hid' hn
  have HX := hid' h
  rw [hn] at H ⊢
  clear h hn
  by_cases h16 : 16 < n
  · have E : Hid (chkR l = 3) := by unfold Hid; rw [H.out]; simp [h16]
    clear H
    go_enter Try.func32, Try.ntmps32
    go_wp2
    go_ret
    exact ⟨by rw [E.out]; rfl, rfl⟩
  · have E : Hid (chkR l = chkL l) := by unfold Hid; rw [H.out]; simp [h16]
    have HI : Hid (∀ k i wr, ocInv w l n k i wr → ∃ j : Nat, j + k = n ∧ i = .int .i64 (j : Int) ∧ chkL l = chkL (l.drop j) ∧ wr = w) := fun k i wr h => h
    clear H
    go_enter Try.func32, Try.ntmps32
    go_wp2
    go_loopg [3] n (fun k i wr => ocInv w l n k i wr)
    case atStart => exact ⟨0, by omega, rfl, rfl, rfl⟩
    case round =>
      obtain ⟨j, hj, rfl, hc, rfl⟩ := HI.out _ _ _ hrel
      clear hrel
      have HC := hid' hc
      clear hc
      cases gk with
      | zero =>
        obtain rfl : j = n := by omega
        have HF : Hid (chkR l = 0) := by unfold Hid; rw [E.out, HC.out, ← HN.out, List.drop_length]; rfl
        go_wp2
        go_ret
        exact ⟨by rw [HF.out]; rfl, rfl⟩
      | succ k =>
        have hjl : j < l.length := by rw [HN.out]; omega
        obtain ⟨b1, o1, rfl⟩ := SP.lt HX.out (by rintro rfl; simp at hjl)
        obtain ⟨c1, c2, c3⟩ := VP.at HX.out hjl
        have HS := hid' (chkL_step hjl)
        clear hjl c2
        generalize l.getD j d0 = v at *
        obtain ⟨vk, vi, vs⟩ := v
        simp only at c1 c3
        have HV : Hid (chkV (vk, vi, vs) = if vk = 1 then (if 4096 < vs.size then 2 else 0) else if vk = 0 then 0 else 8) := rfl
        by_cases h1 : vk = 1
        · subst h1
          by_cases h2 : 4096 < vs.size
          · have HF : Hid (chkR l = 2) := by unfold Hid; rw [E.out, HC.out, HS.out, HV.out]; simp [h2]
            clear HV HS HC
            go_wp2
            go_ret
            exact ⟨by rw [HF.out]; rfl, rfl⟩
          · have H3 : Hid (ocInv wr l n k (.int .i64 ((j : Int) + 1)) wr) := ⟨j + 1, by omega, by simp, by rw [HC.out, HS.out, HV.out]; simp [h2], rfl⟩
            clear HV HS HC
            go_wp2
            go_roundg k
            case measure => omega
            case rel => exact H3.out
        · by_cases h0 : vk = 0
          · subst h0
            have H3 : Hid (ocInv wr l n k (.int .i64 ((j : Int) + 1)) wr) := ⟨j + 1, by omega, by simp, by rw [HC.out, HS.out, HV.out]; simp, rfl⟩
            clear HV HS HC
            go_wp2
            go_roundg k
            case measure => omega
            case rel => exact H3.out
          · have HF : Hid (chkR l = 8) := by unfold Hid; rw [E.out, HC.out, HS.out, HV.out]; simp [h1, h0]
            have b0 : (vk != 0) = true := by simpa using h0
            have b1 : (vk != 1) = true := by simpa using h1
            clear HV HS HC
            go_wp2
            go_ret
            exact ⟨by rw [HF.out]; rfl, rfl⟩

/-- New bytes. -/
def NewB (r : List Int) (v : Value) (w : World) : Prop := ∃ g c, v = .slice (some ⟨g, 0, none⟩) r.length c ∧ g < w.heap.size ∧ ∀ j u, (B8 r)[j]? = some u → w.cell? ((⟨g, 0, none⟩ : Addr).add j) = some u

theorem NewB.of_bts {r : List Int} {w : World} {g c : Nat} (h : Bts w.heap.size w (some ⟨g, 0, none⟩) r) (hne : r ≠ []) : NewB r (.slice (some ⟨g, 0, none⟩) r.length c) w := by
  obtain ⟨b, off, e, hlt, _⟩ := h.cells hne
  cases e
  refine ⟨g, c, rfl, hlt, ?_⟩
  obtain ⟨ad, he, hs⟩ := h.src (by rw [length_B8]; exact List.length_pos_iff.2 hne)
  cases he
  exact hs

end Go.Proofs.Ytgalmkhgbokidaa

namespace Go.Proofs.Ytgalmkhgbokidaa
open Go.RowKit Go.Proofs
set_option maxRecDepth 20000
set_option linter.unusedVariables false
set_option linter.unusedSimpArgs false

theorem lit_own (w : World) (o : Obj) (B : Nat) (hB : B ≤ w.heap.size + 1) (d : Int) : Own B ((w.alloc o).alloc (.cells #[.int .u8 d] 5)) (.slice (some ⟨w.heap.size + 1, 0, none⟩) 1 1) [d] := by
  have e : w.heap.size + 1 = (w.alloc o).heap.size := (World.size_alloc w o).symm
  rw [e]
  exact owns_lit_one (w.alloc o) B (by rw [← e]; exact hB) d

theorem lit_bts (w : World) (o : Obj) (d : Int) (hd : 0 ≤ d ∧ d < 256) : Bts ((w.alloc o).alloc (.cells #[.int .u8 d] 5)).heap.size ((w.alloc o).alloc (.cells #[.int .u8 d] 5)) (some ⟨w.heap.size + 1, 0, none⟩) [d] := by
  have h := lit_own w o 0 (Nat.zero_le _) d
  exact Bts.of_owns h (fun y hy => by simp at hy; subst hy; exact hd)

set_option maxHeartbeats 2000000 in
theorem toldVal_any (v : V) (w : World) (hc : chkV v = 0) (hr : R64 v.2.1) : Calls Try.prog 74 #[.agg #[.int .i64 v.1, .int .i64 v.2.1, .string v.2.2]] w fun e w' => ∃ x, e = .returned x ∧ NewB (valB v) x w' ∧ Below w.heap.size w w' := by
  obtain ⟨k, z, s⟩ := v
  simp only at hr ⊢
  have hb2 : ∀ d : Int, Below w.heap.size w ((w.alloc (.cells #[.int .i64 k, .int .i64 z, .string s] 78)).alloc (.cells #[.int .u8 d] 5)) := fun d => bel_alloc ((Below.refl _ _).alloc (Nat.le_refl _) _) _
  have hbt := fun (d : Int) (hd : 0 ≤ d ∧ d < 256) => lit_bts w (.cells #[.int .i64 k, .int .i64 z, .string s] 78) d hd
  by_cases h1 : k = 1
  · subst h1
    have hs : s.size ≤ 4096 := by unfold chkV at hc; simp at hc; omega
    have HV : Hid (valB (1, z, s) = [1] ++ (bytesOf s.size ++ nums s)) := rfl
    have HB2 := hid' (hb2 1)
    have HP := hid' (putText_any _ _ 1 [1] s (hbt 1 (by omega)) (by simp) (by omega))
    simp only [List.length_singleton] at HP
    clear hbt hb2 hc
    go_enter Try.func74, Try.ntmps74
    go_wp2_with fail
    refine HP.out.mono ?_
    rintro e w2 ⟨g, c, rfl, hcap, hbt, hbel⟩
    have HF : Hid (NewB (valB (1, z, s)) (.slice (some ⟨g, 0, none⟩) (1 + sz s.size + s.size) c) w2 ∧ Below w.heap.size w w2) := by
      refine ⟨?_, bel_trans' HB2.out hbel⟩
      rw [HV.out]
      have := NewB.of_bts (c := c) hbt (by simp)
      have e : ([1] ++ (bytesOf s.size ++ nums s)).length = 1 + sz s.size + s.size := by simp only [List.length_append, length_bytesOf, nums_length, List.length_singleton]; omega
      rw [e] at this
      exact this
    clear hbt hbel HP HV HB2 hcap
    go_wp2
    go_ret
    exact ⟨_, rfl, HF.out⟩
  · have h0 : k = 0 := by
      unfold chkV at hc
      simp only [if_neg h1] at hc
      by_cases h : k = 0
      · exact h
      · rw [if_neg h] at hc; omega
    subst h0
    have HV : Hid (valB (0, z, s) = [0] ++ bytesOf (zig z).toNat) := rfl
    have HB2 := hid' (hb2 0)
    have HP := hid' (putInt_any _ _ 1 [0] z (hbt 0 (by omega)) (by simp) hr.1 hr.2)
    simp only [List.length_singleton] at HP
    clear hbt hb2 hc
    go_enter Try.func74, Try.ntmps74
    go_wp2_with fail
    refine HP.out.mono ?_
    rintro e w2 ⟨g, c, rfl, hown, hbel⟩
    have HF : Hid (NewB (valB (0, z, s)) (.slice (some ⟨g, 0, none⟩) (1 + sz (zig z).toNat) c) w2 ∧ Below w.heap.size w w2) := by
      refine ⟨?_, bel_trans' HB2.out hbel⟩
      rw [HV.out]
      have := NewB.of_bts (c := c) (Bts.of_owns hown (Byt.app (fun y hy => by simp at hy; subst hy; omega) (byt_num _))) (by simp)
      have e : ([0] ++ bytesOf (zig z).toNat).length = 1 + sz (zig z).toNat := by simp only [List.length_append, length_bytesOf, List.length_singleton]
      rw [e] at this
      exact this
    clear hown hbel HP HV HB2
    go_wp2
    go_ret
    exact ⟨_, rfl, HF.out⟩

theorem NewB.on {r : List Int} {v : Value} {w w' : World} (h : NewB r v w) (hb : Below w.heap.size w w') : NewB r v w' := by
  obtain ⟨g, c, rfl, hg, hc⟩ := h
  exact ⟨g, c, rfl, Nat.lt_of_lt_of_le hg hb.size, fun j u hj => (World.cell?_of_block (by rw [addr_add]; exact hb.block g hg)).trans (hc j u hj)⟩

/-- What holds in the loop of row.Put. -/
def rpInv (w : World) (l : List Int) (xs : List V) (n k : Nat) (b i : Value) (wr : World) : Prop :=
  ∃ j : Nat, j + k = n ∧ i = .int .i64 (j : Int) ∧ Own w.heap.size wr b (l ++ (bytesOf xs.length ++ (xs.take j).flatMap valB)) ∧ Below w.heap.size w wr

set_option maxHeartbeats 4000000 in
theorem rowPut_any (P : Nat → Prop) (w : World) (a : Option Addr) (cap : Nat) (l : List Int) (ra : Option Addr) (rc : Nat) (xs : List V) (hb : Bts w.heap.size w a l) (hx : VP P w ra xs) (hc : chkR xs = 0) (hok : ∀ v ∈ xs, R64 v.1 ∧ R64 v.2.1) (hl : l.length ≤ 1000000) :
    Calls Try.prog 58 #[.slice a l.length cap, .slice ra xs.length rc] w fun e w' => ∃ v, e = .returned (.tuple #[v, .int .i64 0]) ∧ Own w.heap.size w' v (l ++ rowB xs) ∧ Below w.heap.size w w' := by
  obtain ⟨i0, hi, hz0, hz1, hz2⟩ := info_parts Try.info5
  obtain ⟨h16, hv0⟩ := chkR_ok hc
  have HCK := hid' (rowCheck_any P w ra rc xs hx)
  rw [hc] at HCK
  have HX := hid' hx
  have HOK := hid' (fun v hv => (⟨hv0 v hv, (hok v hv).2⟩ : chkV v = 0 ∧ R64 v.2.1))
  have HL : Hid ((l ++ listB valB xs).length ≤ 1000000000) := (by
    have := len_row hc hok
    unfold rowB at this
    rw [List.length_append]; omega : _ ≤ _)
  have HA : Hid (∀ v' wr, Own w.heap.size wr v' (l ++ (bytesOf xs.length ++ (xs.take xs.length).flatMap valB)) → Below w.heap.size w wr → (∃ v, Ending.returned (.tuple #[v', .int .i64 0]) = .returned (.tuple #[v, .int .i64 0]) ∧ Own w.heap.size wr v (l ++ rowB xs) ∧ Below w.heap.size w wr)) := fun v' wr h k => ⟨v', rfl, by rw [List.take_length] at h; exact h, k⟩
  obtain ⟨n, hn⟩ : ∃ n, xs.length = n := ⟨_, rfl⟩
  have HI : Hid (∀ k b i wr, rpInv w l xs n k b i wr → ∃ j : Nat, j + k = n ∧ i = .int .i64 (j : Int) ∧ Own w.heap.size wr b (l ++ (bytesOf xs.length ++ (xs.take j).flatMap valB)) ∧ Below w.heap.size w wr) := fun k b i wr h => h
  have HP := hid' (fun W (hW : Below w.heap.size w W) => put_own W a cap l n ((hb.keep hW).mono hW.size) (by omega) (by omega))
  rw [hn] at HA HCK h16 ⊢
  have HN := hid' hn
  clear hx hok hl hn hb hc hv0
  go_enter Try.func58, Try.ntmps58
  go_wp2_with fail
  refine HCK.out.mono ?_
  rintro e w1 ⟨rfl, hb1⟩
  have HB1 := hid' hb1
  have HP1 := hid' (HP.out w1 hb1)
  clear HCK HP hb1
  go_wp2_with fail
  refine HP1.out.mono ?_
  rintro e w2 ⟨v0, rfl, hown, hbel⟩
  have H0 : Hid (rpInv w l xs n n v0 (.int .i64 0) w2) := ⟨0, by omega, rfl, by rw [HN.out]; simpa using hown.base HB1.out.size, bel_trans' HB1.out hbel⟩
  clear hown hbel HP1 HB1
  go_wp2
  go_loopg [7, 22] n (fun k b i wr => rpInv w l xs n k b i wr)
  case atStart => exact H0.out
  case round =>
    obtain ⟨j, hj, rfl, hown, hbel⟩ := HI.out _ _ _ _ hrel
    cases gk with
    | zero =>
      obtain rfl : j = n := by omega
      have HF := hid' (HA.out _ _ (by rw [HN.out] at hown; exact hown) hbel)
      clear hrel hown hbel
      go_wp2
      go_ret2
      exact HF.out
    | succ k =>
      have hjl : j < xs.length := by rw [HN.out]; omega
      obtain ⟨b1, o1, rfl⟩ := SP.lt HX.out (by rintro rfl; simp at hjl)
      have hx1 := SP.on HX.out hbel
      obtain ⟨c1, c2, c3⟩ := VP.at hx1 hjl
      have hR := HOK.out _ (getD_mem (d := d0) hjl)
      have HC := hid' (fun W => toldVal_any (xs.getD j d0) W hR.1 hR.2)
      have HST := hid' (flat_step valB xs l j d0 hjl)
      have HLT := hid' (len_take valB xs l j d0 hjl HL.out)
      have HB := hid' hbel
      have HO := hid' hown
      clear hown hbel hx1 hrel hjl hR
      generalize xs.getD j d0 = t at *
      obtain ⟨tk, ti, ts⟩ := t
      simp only at c1 c2 c3 HC
      generalize valB (tk, ti, ts) = vb at *
      go_wp2_with fail
      refine (HC.out _).mono ?_
      rintro e w3 ⟨x3, rfl, hnew, hb3⟩
      obtain ⟨g, c, rfl, hg, hcell⟩ := hnew
      have HB3 := hid' (bel_trans' ((Below.refl _ wr).alloc (Nat.le_refl _) _) hb3)
      have HO3 := hid' (Own.below HO.out HB3.out)
      have HCE := hid' hcell
      clear hb3 HC hcell
      go_wp2_with (first
        | (at_builtin; refine wpList_append_own _ rfl (.tmp 26) (.tmp 28) 22 rfl w.heap.size 5 i0 (.int .u8 0) 1 1 Try.underlying22 hi hz0 hz1 hz2 rfl (by decide) u7 _ _ rfl HO3.out ⟨g, 0, none⟩ vb.length c (B8 vb) rfl (by rw [length_B8]; omega) HCE.out (B8_one _) (by have := HLT.out; rw [List.length_append] at this; unfold maxLen; omega) (by have := HLT.out; rw [List.length_append] at this; omega) (Nat.le_trans HB.out.size HB3.out.size) ?_; intro v' w4 hown1 hgrow1 hnil1))
      have H3 : Hid (rpInv w l xs n k v' (.int .i64 ((j : Int) + 1)) w4) := ⟨j + 1, by omega, by simp, by
        rw [← HST.out]
        unfold Own
        rw [B8_append, List.length_append]
        exact hown1, (bel_trans' HB.out HB3.out).trans ((Kb.grown hgrow1 HO3.out).below (Nat.le_trans HB.out.size HB3.out.size))⟩
      clear hown1 hgrow1 hnil1 HCE
      go_wp2
      go_roundg k
      case measure => omega
      case rel => exact H3.out

end Go.Proofs.Ytgalmkhgbokidaa

namespace Go.Proofs.Ytgalmkhgbokidaa
open Go.RowKit Go.Proofs
set_option maxRecDepth 20000
set_option linter.unusedVariables false
set_option linter.unusedSimpArgs false

theorem usedBy_at (d m : Int) (h : mask d = m) (w : World) : Calls Try.prog 33 #[.int .i64 d] w fun e w' => e = .returned (.int .u64 m) ∧ w' = w := by
  subst h; exact usedBy_any d w

/-- The object that a command's variable holds. -/
def cmO (c : Cm) (s : CmS) : Obj := .cells (cmA c s) 31

set_option maxHeartbeats 4000000 in
theorem wCheck_any (P : Nat → Prop) (w : World) (c : Cm) (s : CmS) (h : CmR P w c s) : Calls Try.prog 13 #[cmV c s] w fun e w' => e = .returned (.int .i64 (chk c)) ∧ Below w.heap.size w w' := by
  have HB := hid' ((Below.refl _ w).alloc (Nat.le_refl _) (cmO c s))
  have HR := hid' (fun W (hW : Below w.heap.size w W) => rowCheck_any P W s.ra s.rc c.row (SP.on h.row hW))
  obtain ⟨op, node, row, ⟨t1, t2⟩, diff, front, fuel, sheet⟩ := c
  obtain ⟨ra, rc, fa, fc, sa, sc⟩ := s
  have HC : Hid (chk ⟨op, node, row, (t1, t2), diff, front, fuel, sheet⟩ = if op < 0 ∨ 6 < op then 8 else if op = 0 then (if 65536 < sheet.length then 2 else 0) else if op = 2 ∨ op = 4 then (if 16 < front.length then 3 else 0) else if op = 1 then chkR row else 0) := rfl
  unfold cmV cmA
  unfold cmO cmA at HB
  simp only at HB HR ⊢
  generalize row.length = rn at *
  clear h
  by_cases h0 : op = 0
  · subst h0
    generalize sheet.length = sn at *
    by_cases hs : 65536 < sn
    · have E : Hid (chk ⟨0, node, row, (t1, t2), diff, front, fuel, sheet⟩ = 2) := by unfold Hid; rw [HC.out]; simp [hs]
      clear HC HR
      go_enter Try.func13, Try.ntmps13
      go_wp2_with fail
      refine (usedBy_at 0 4 (by decide) _).mono ?_
      rintro e w1 ⟨rfl, rfl⟩
      go_wp2_with fail
      refine (has_at 4 4 true (by decide) _).mono ?_
      rintro e w1 ⟨rfl, rfl⟩
      go_wp2
      go_ret
      exact ⟨by rw [E.out]; rfl, HB.out⟩
    · have E : Hid (chk ⟨0, node, row, (t1, t2), diff, front, fuel, sheet⟩ = 0) := by unfold Hid; rw [HC.out]; simp [hs]
      clear HC HR
      go_enter Try.func13, Try.ntmps13
      go_wp2_with fail
      refine (usedBy_at 0 4 (by decide) _).mono ?_
      rintro e w1 ⟨rfl, rfl⟩
      go_wp2_with fail
      refine (has_at 4 4 true (by decide) _).mono ?_
      rintro e w1 ⟨rfl, rfl⟩
      go_wp2_with fail
      refine (has_at 4 64 false (by decide) _).mono ?_
      rintro e w1 ⟨rfl, rfl⟩
      go_wp2_with fail
      refine (has_at 4 8 false (by decide) _).mono ?_
      rintro e w1 ⟨rfl, rfl⟩
      go_wp2
      go_ret
      exact ⟨by rw [E.out]; rfl, HB.out⟩
  by_cases h1 : op = 1
  · subst h1
    have E : Hid (chk ⟨1, node, row, (t1, t2), diff, front, fuel, sheet⟩ = chkR row) := by unfold Hid; rw [HC.out]; simp
    clear HC
    go_enter Try.func13, Try.ntmps13
    go_wp2_with fail
    refine (usedBy_at 1 57 (by decide) _).mono ?_
    rintro e w1 ⟨rfl, rfl⟩
    go_wp2_with fail
    refine (has_at 57 4 false (by decide) _).mono ?_
    rintro e w1 ⟨rfl, rfl⟩
    go_wp2_with fail
    refine (has_at 57 64 false (by decide) _).mono ?_
    rintro e w1 ⟨rfl, rfl⟩
    go_wp2_with fail
    refine (has_at 57 8 true (by decide) _).mono ?_
    rintro e w1 ⟨rfl, rfl⟩
    go_wp2_with fail
    refine (HR.out _ HB.out).mono ?_
    rintro e w2 ⟨rfl, hb2⟩
    have HB2 := hid' (bel_trans' HB.out hb2)
    clear hb2 HR
    generalize chkR row = q at *
    go_wp2
    go_ret
    exact ⟨by rw [E.out]; rfl, HB2.out⟩
  by_cases h2 : op = 2
  · subst h2
    generalize front.length = fn at *
    by_cases hs : 16 < fn
    · have E : Hid (chk ⟨2, node, row, (t1, t2), diff, front, fuel, sheet⟩ = 3) := by unfold Hid; rw [HC.out]; simp [hs]
      clear HC HR
      go_enter Try.func13, Try.ntmps13
      go_wp2_with fail
      refine (usedBy_at 2 65 (by decide) _).mono ?_
      rintro e w1 ⟨rfl, rfl⟩
      go_wp2_with fail
      refine (has_at 65 4 false (by decide) _).mono ?_
      rintro e w1 ⟨rfl, rfl⟩
      go_wp2_with fail
      refine (has_at 65 64 true (by decide) _).mono ?_
      rintro e w1 ⟨rfl, rfl⟩
      go_wp2
      go_ret
      exact ⟨by rw [E.out]; rfl, HB.out⟩
    · have E : Hid (chk ⟨2, node, row, (t1, t2), diff, front, fuel, sheet⟩ = 0) := by unfold Hid; rw [HC.out]; simp [hs]
      clear HC HR
      go_enter Try.func13, Try.ntmps13
      go_wp2_with fail
      refine (usedBy_at 2 65 (by decide) _).mono ?_
      rintro e w1 ⟨rfl, rfl⟩
      go_wp2_with fail
      refine (has_at 65 4 false (by decide) _).mono ?_
      rintro e w1 ⟨rfl, rfl⟩
      go_wp2_with fail
      refine (has_at 65 64 true (by decide) _).mono ?_
      rintro e w1 ⟨rfl, rfl⟩
      go_wp2_with fail
      refine (has_at 65 8 false (by decide) _).mono ?_
      rintro e w1 ⟨rfl, rfl⟩
      go_wp2
      go_ret
      exact ⟨by rw [E.out]; rfl, HB.out⟩
  by_cases h3 : op = 3
  · subst h3
    have E : Hid (chk ⟨3, node, row, (t1, t2), diff, front, fuel, sheet⟩ = 0) := by unfold Hid; rw [HC.out]; simp
    clear HC HR
    go_enter Try.func13, Try.ntmps13
    go_wp2_with fail
    refine (usedBy_at 3 3 (by decide) _).mono ?_
    rintro e w1 ⟨rfl, rfl⟩
    go_wp2_with fail
    refine (has_at 3 4 false (by decide) _).mono ?_
    rintro e w1 ⟨rfl, rfl⟩
    go_wp2_with fail
    refine (has_at 3 64 false (by decide) _).mono ?_
    rintro e w1 ⟨rfl, rfl⟩
    go_wp2_with fail
    refine (has_at 3 8 false (by decide) _).mono ?_
    rintro e w1 ⟨rfl, rfl⟩
    go_wp2
    go_ret
    exact ⟨by rw [E.out]; rfl, HB.out⟩
  by_cases h4 : op = 4
  · subst h4
    generalize front.length = fn at *
    by_cases hs : 16 < fn
    · have E : Hid (chk ⟨4, node, row, (t1, t2), diff, front, fuel, sheet⟩ = 3) := by unfold Hid; rw [HC.out]; simp [hs]
      clear HC HR
      go_enter Try.func13, Try.ntmps13
      go_wp2_with fail
      refine (usedBy_at 4 65 (by decide) _).mono ?_
      rintro e w1 ⟨rfl, rfl⟩
      go_wp2_with fail
      refine (has_at 65 4 false (by decide) _).mono ?_
      rintro e w1 ⟨rfl, rfl⟩
      go_wp2_with fail
      refine (has_at 65 64 true (by decide) _).mono ?_
      rintro e w1 ⟨rfl, rfl⟩
      go_wp2
      go_ret
      exact ⟨by rw [E.out]; rfl, HB.out⟩
    · have E : Hid (chk ⟨4, node, row, (t1, t2), diff, front, fuel, sheet⟩ = 0) := by unfold Hid; rw [HC.out]; simp [hs]
      clear HC HR
      go_enter Try.func13, Try.ntmps13
      go_wp2_with fail
      refine (usedBy_at 4 65 (by decide) _).mono ?_
      rintro e w1 ⟨rfl, rfl⟩
      go_wp2_with fail
      refine (has_at 65 4 false (by decide) _).mono ?_
      rintro e w1 ⟨rfl, rfl⟩
      go_wp2_with fail
      refine (has_at 65 64 true (by decide) _).mono ?_
      rintro e w1 ⟨rfl, rfl⟩
      go_wp2_with fail
      refine (has_at 65 8 false (by decide) _).mono ?_
      rintro e w1 ⟨rfl, rfl⟩
      go_wp2
      go_ret
      exact ⟨by rw [E.out]; rfl, HB.out⟩
  by_cases h5 : op = 5
  · subst h5
    have E : Hid (chk ⟨5, node, row, (t1, t2), diff, front, fuel, sheet⟩ = 0) := by unfold Hid; rw [HC.out]; simp
    clear HC HR
    go_enter Try.func13, Try.ntmps13
    go_wp2_with fail
    refine (usedBy_at 5 17 (by decide) _).mono ?_
    rintro e w1 ⟨rfl, rfl⟩
    go_wp2_with fail
    refine (has_at 17 4 false (by decide) _).mono ?_
    rintro e w1 ⟨rfl, rfl⟩
    go_wp2_with fail
    refine (has_at 17 64 false (by decide) _).mono ?_
    rintro e w1 ⟨rfl, rfl⟩
    go_wp2_with fail
    refine (has_at 17 8 false (by decide) _).mono ?_
    rintro e w1 ⟨rfl, rfl⟩
    go_wp2
    go_ret
    exact ⟨by rw [E.out]; rfl, HB.out⟩
  by_cases h6 : op = 6
  · subst h6
    have E : Hid (chk ⟨6, node, row, (t1, t2), diff, front, fuel, sheet⟩ = 0) := by unfold Hid; rw [HC.out]; simp
    clear HC HR
    go_enter Try.func13, Try.ntmps13
    go_wp2_with fail
    refine (usedBy_at 6 1 (by decide) _).mono ?_
    rintro e w1 ⟨rfl, rfl⟩
    go_wp2_with fail
    refine (has_at 1 4 false (by decide) _).mono ?_
    rintro e w1 ⟨rfl, rfl⟩
    go_wp2_with fail
    refine (has_at 1 64 false (by decide) _).mono ?_
    rintro e w1 ⟨rfl, rfl⟩
    go_wp2_with fail
    refine (has_at 1 8 false (by decide) _).mono ?_
    rintro e w1 ⟨rfl, rfl⟩
    go_wp2
    go_ret
    exact ⟨by rw [E.out]; rfl, HB.out⟩
  have hm : mask op = 0 := by unfold mask; simp [h0, h1, h2, h3, h4, h5, h6]
  have E : Hid (chk ⟨op, node, row, (t1, t2), diff, front, fuel, sheet⟩ = 8) := by unfold Hid; rw [HC.out, if_pos (by omega)]
  clear HC HR
  go_enter Try.func13, Try.ntmps13
  go_wp2_with fail
  refine (usedBy_at op 0 hm _).mono ?_
  rintro e w1 ⟨rfl, rfl⟩
  go_wp2
  go_ret
  exact ⟨by rw [E.out]; rfl, HB.out⟩

set_option maxHeartbeats 4000000 in
theorem rCheck_any (P : Nat → Prop) (w : World) (c : Cm) (s : CmS) (h : CmR P w c s) : Calls Try.prog 11 #[cmV c s] w fun e w' => e = .returned (.int .i64 (chk c)) ∧ Below w.heap.size w w' := by
  have HB := hid' ((Below.refl _ w).alloc (Nat.le_refl _) (cmO c s))
  have HR := hid' (fun W (hW : Below w.heap.size w W) => oCheck_any P W s.ra s.rc c.row (SP.on h.row hW))
  obtain ⟨op, node, row, ⟨t1, t2⟩, diff, front, fuel, sheet⟩ := c
  obtain ⟨ra, rc, fa, fc, sa, sc⟩ := s
  have HC : Hid (chk ⟨op, node, row, (t1, t2), diff, front, fuel, sheet⟩ = if op < 0 ∨ 6 < op then 8 else if op = 0 then (if 65536 < sheet.length then 2 else 0) else if op = 2 ∨ op = 4 then (if 16 < front.length then 3 else 0) else if op = 1 then chkR row else 0) := rfl
  unfold cmV cmA
  unfold cmO cmA at HB
  simp only at HB HR ⊢
  generalize row.length = rn at *
  clear h
  by_cases h0 : op = 0
  · subst h0
    generalize sheet.length = sn at *
    by_cases hs : 65536 < sn
    · have E : Hid (chk ⟨0, node, row, (t1, t2), diff, front, fuel, sheet⟩ = 2) := by unfold Hid; rw [HC.out]; simp [hs]
      clear HC HR
      go_enter Try.func11, Try.ntmps11
      go_wp2
      go_ret
      exact ⟨by rw [E.out]; rfl, HB.out⟩
    · have E : Hid (chk ⟨0, node, row, (t1, t2), diff, front, fuel, sheet⟩ = 0) := by unfold Hid; rw [HC.out]; simp [hs]
      clear HC HR
      go_enter Try.func11, Try.ntmps11
      go_wp2
      go_ret
      exact ⟨by rw [E.out]; rfl, HB.out⟩
  by_cases h1 : op = 1
  · subst h1
    have E : Hid (chk ⟨1, node, row, (t1, t2), diff, front, fuel, sheet⟩ = chkR row) := by unfold Hid; rw [HC.out]; simp
    clear HC
    go_enter Try.func11, Try.ntmps11
    go_wp2_with fail
    refine (HR.out _ HB.out).mono ?_
    rintro e w2 ⟨rfl, rfl⟩
    clear HR
    generalize chkR row = q at *
    go_wp2
    go_ret
    exact ⟨by rw [E.out]; rfl, HB.out⟩
  by_cases h2 : op = 2
  · subst h2
    generalize front.length = fn at *
    by_cases hs : 16 < fn
    · have E : Hid (chk ⟨2, node, row, (t1, t2), diff, front, fuel, sheet⟩ = 3) := by unfold Hid; rw [HC.out]; simp [hs]
      clear HC HR
      go_enter Try.func11, Try.ntmps11
      go_wp2
      go_ret
      exact ⟨by rw [E.out]; rfl, HB.out⟩
    · have E : Hid (chk ⟨2, node, row, (t1, t2), diff, front, fuel, sheet⟩ = 0) := by unfold Hid; rw [HC.out]; simp [hs]
      clear HC HR
      go_enter Try.func11, Try.ntmps11
      go_wp2
      go_ret
      exact ⟨by rw [E.out]; rfl, HB.out⟩
  by_cases h3 : op = 3
  · subst h3
    have E : Hid (chk ⟨3, node, row, (t1, t2), diff, front, fuel, sheet⟩ = 0) := by unfold Hid; rw [HC.out]; simp
    clear HC HR
    go_enter Try.func11, Try.ntmps11
    go_wp2
    go_ret
    exact ⟨by rw [E.out]; rfl, HB.out⟩
  by_cases h4 : op = 4
  · subst h4
    generalize front.length = fn at *
    by_cases hs : 16 < fn
    · have E : Hid (chk ⟨4, node, row, (t1, t2), diff, front, fuel, sheet⟩ = 3) := by unfold Hid; rw [HC.out]; simp [hs]
      clear HC HR
      go_enter Try.func11, Try.ntmps11
      go_wp2
      go_ret
      exact ⟨by rw [E.out]; rfl, HB.out⟩
    · have E : Hid (chk ⟨4, node, row, (t1, t2), diff, front, fuel, sheet⟩ = 0) := by unfold Hid; rw [HC.out]; simp [hs]
      clear HC HR
      go_enter Try.func11, Try.ntmps11
      go_wp2
      go_ret
      exact ⟨by rw [E.out]; rfl, HB.out⟩
  by_cases h5 : op = 5
  · subst h5
    have E : Hid (chk ⟨5, node, row, (t1, t2), diff, front, fuel, sheet⟩ = 0) := by unfold Hid; rw [HC.out]; simp
    clear HC HR
    go_enter Try.func11, Try.ntmps11
    go_wp2
    go_ret
    exact ⟨by rw [E.out]; rfl, HB.out⟩
  by_cases h6 : op = 6
  · subst h6
    have E : Hid (chk ⟨6, node, row, (t1, t2), diff, front, fuel, sheet⟩ = 0) := by unfold Hid; rw [HC.out]; simp
    clear HC HR
    go_enter Try.func11, Try.ntmps11
    go_wp2
    go_ret
    exact ⟨by rw [E.out]; rfl, HB.out⟩
  have E : Hid (chk ⟨op, node, row, (t1, t2), diff, front, fuel, sheet⟩ = 8) := by unfold Hid; rw [HC.out, if_pos (by omega)]
  clear HC HR
  by_cases hneg : op < 0
  · go_enter Try.func11, Try.ntmps11
    go_wp2
    go_ret
    exact ⟨by rw [E.out]; rfl, HB.out⟩
  · have hpos : 6 < op := by omega
    clear h0 h1 h2 h3 h4 h5 h6
    go_enter Try.func11, Try.ntmps11
    go_wp2
    go_ret
    exact ⟨by rw [E.out]; rfl, HB.out⟩

end Go.Proofs.Ytgalmkhgbokidaa
