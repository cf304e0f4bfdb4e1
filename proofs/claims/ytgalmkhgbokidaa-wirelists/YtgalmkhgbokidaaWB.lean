/-
  What is proved here: putTime and PutFront put a time's, a frontier's bytes behind bytes.
-/
import Derived.Test.YtgalmkhgbokidaaOps
namespace Go.Proofs.Ytgalmkhgbokidaa
open Go.RowKit Go.Proofs
set_option maxRecDepth 20000
set_option linter.unusedVariables false
set_option linter.unusedSimpArgs false

theorem len_left {a b c : List Int} {n : Nat} (h : (a ++ (b ++ c)).length ≤ n) : (a ++ b).length ≤ n := by
  rw [List.length_append] at *
  rw [List.length_append] at h
  omega

def ptVal (v : Value) (g : Nat) (x y : Int) (i : Nat) : Option Value := [some v, some (.pointer (some ⟨g, 0, none⟩)), some (.int .i64 x), none, some (.pointer (some ⟨g, 1, none⟩)), some (.int .i64 y), none, none].getD i none

/-- What holds while putTime goes on. -/
def ptInv (base : Nat) (w : World) (v : Value) (l : List Int) (g : Nat) (x y : Int) (vs : List Value) (W : World) : Prop :=
  Bx W g #[.int .i64 x, .int .i64 y] 26 ∧ Kb base w W ∧ match vs with
    | [] => Own base W v l
    | [p] => Own base W p (l ++ oneB x)
    | [_, p] => Own base W p ((l ++ oneB x) ++ oneB y)
    | [_, p, q] => q = p ∧ Own base W p ((l ++ oneB x) ++ oneB y)
    | _ => False

set_option maxHeartbeats 2000000 in
theorem putTime_any (base : Nat) (w : World) (v : Value) (l : List Int) (t : T) (hB : base ≤ w.heap.size) (ho : Own base w v l) (ht : RT t) (hl : (l ++ timeB t).length ≤ 1000000000) :
    Calls Try.prog 53 #[v, .agg #[.int .i64 t.1, .int .i64 t.2]] w (PutAns base w l (timeB t)) := by
  obtain ⟨x, y⟩ := t
  obtain ⟨r0, r1⟩ := ht
  unfold timeB at hl ⊢
  simp only at hl r0 r1 ⊢
  have HL1 := hid' (len_left hl)
  rw [← List.append_assoc] at hl
  have HL2 := hid' hl
  have HI : Hid (ptInv base w v l w.heap.size x y [] (w.alloc (.cells #[.int .i64 x, .int .i64 y] 26))) := ⟨Bx.new _ _ _, (Kb.refl base w).alloc _, ho.kb_alloc _⟩
  have HID : Hid (∀ W, ptInv base w v l w.heap.size x y [] W → ptInv base w v l w.heap.size x y [] W.drew) := fun W ⟨a, b, c⟩ => ⟨a.keep (Below.refl _ _).drew, b.trans (Kb.of_below (Below.refl _ _).drew), Own.below c (Below.refl _ _).drew⟩
  clear hl ho
  go_enter Try.func53, Try.ntmps53
  go_wp2_with fail
  refine PQ.wp_region_quiet (ptVal v w.heap.size x y) (ptInv base w v l w.heap.size x y) mixed' (by kernel_rfl) (HID.out _ HI.out) ?_ ?_
  · refine ⟨?_, ?_, ?_, ?_, ?_, ?_, ?_, ?_, trivial⟩
    · intro vs A W hI hC
      exact ⟨PB.wanted_free rfl, run_moveD W (hC.outer 0 rfl)⟩
    · intro vs A W hI hC
      exact ⟨PB.wanted_free rfl, run_faTime0 W (hC.outer 3 rfl)⟩
    · intro vs A W hI hC
      exact ⟨PB.wanted_free rfl, run_loadZ W (hC.left 1 rfl) (hI.1.cell 0)⟩
    · intro vs A W hk hI hC
      obtain rfl : vs = [] := List.length_eq_zero_iff.1 hk
      refine ⟨PB.wanted_free rfl, PQ.loud_call #[v, .int .i64 x] rfl Try.func56 rfl rfl ?_ ?_⟩
      · show [PB.slot A 5, PB.slot A 7] = _
        rw [show PB.slot A 5 = v from hC.left 0 rfl, show PB.slot A 7 = .int .i64 x from hC.left 2 rfl]
      · refine (putNumber_any base W v l x (by have := hI.2.1.size; omega) hI.2.2 r0 HL1.out).mono ?_
        rintro e W2 ⟨p, rfl, o1, k1⟩
        exact ⟨p, rfl, hI.1.kb k1 (by decide), hI.2.1.trans k1, o1⟩
    · intro vs A W hI hC
      exact ⟨PB.wanted_free rfl, run_faTime1 W (hC.outer 3 rfl)⟩
    · intro vs A W hI hC
      exact ⟨PB.wanted_free rfl, run_loadZ W (hC.left 4 rfl) (hI.1.cell 1)⟩
    · intro vs A W hk hI hC
      match vs, hk, hI, hC with
      | [p], _, hI, hC =>
        refine ⟨PB.wanted_free rfl, PQ.loud_call #[p, .int .i64 y] rfl Try.func56 rfl rfl ?_ ?_⟩
        · show [PB.slot A 8, PB.slot A 10] = _
          rw [show PB.slot A 8 = p from hC.left 3 rfl, show PB.slot A 10 = .int .i64 y from hC.left 5 rfl]
        · refine (putNumber_any base W p _ y (by have := hI.2.1.size; omega) hI.2.2 r1 HL2.out).mono ?_
          rintro e W2 ⟨q, rfl, o1, k1⟩
          exact ⟨q, rfl, hI.1.kb k1 (by decide), hI.2.1.trans k1, o1⟩
    · intro vs A W hk hI hC
      match vs, hk, hI, hC with
      | [p, q], _, hI, hC =>
        exact ⟨PB.wanted_free rfl, PQ.loud_value (run_assD W (hC.left 6 rfl)) ⟨hI.1, hI.2.1, rfl, hI.2.2⟩⟩
  · intro vs A W hk hI hE
    match vs, hk, hI, hE with
    | [p, q, r], _, hI, hE =>
      have h4 : PB.slot A 4 = r := hE.left 7
      obtain ⟨tmps, defers⟩ := A
      have hd : defers = [] := hE.defers
      subst hd
      obtain ⟨_, hK, hr, hO⟩ := hI
      have HO := hid' hO
      have HK := hid' hK
      clear hO hK hE
      go_wp2
      go_ret
      exact ⟨q, by rw [← hr]; exact congrArg Ending.returned h4, by rw [← List.append_assoc]; exact HO.out, HK.out⟩

theorem getD_at {α : Type} {xs : List α} {j : Nat} {d : α} (hj : j < xs.length) : xs.getD j d = xs[j] := by simp [List.getD, List.getElem?_eq_getElem hj]

theorem flat_split {α : Type} (f : α → List Int) (xs : List α) (j : Nat) (d : α) (hj : j < xs.length) : xs.flatMap f = (xs.take j).flatMap f ++ (f (xs.getD j d) ++ (xs.drop (j + 1)).flatMap f) := by
  have e0 : xs = xs.take j ++ (xs[j] :: xs.drop (j + 1)) := by rw [← List.drop_eq_getElem_cons hj, List.take_append_drop]
  conv => lhs; rw [e0]
  rw [List.flatMap_append, List.flatMap_cons, getD_at hj]

theorem len_take {α : Type} (f : α → List Int) (xs : List α) (a : List Int) (j : Nat) (d : α) {n : Nat} (hj : j < xs.length) (h : (a ++ listB f xs).length ≤ n) : ((a ++ (bytesOf xs.length ++ (xs.take j).flatMap f)) ++ f (xs.getD j d)).length ≤ n := by
  unfold listB at h
  rw [flat_split f xs j d hj] at h
  simp only [List.length_append] at h ⊢
  omega

theorem flat_step {α : Type} (f : α → List Int) (xs : List α) (a : List Int) (j : Nat) (d : α) (hj : j < xs.length) : (a ++ (bytesOf xs.length ++ (xs.take j).flatMap f)) ++ f (xs.getD j d) = a ++ (bytesOf xs.length ++ (xs.take (j + 1)).flatMap f) := by
  rw [List.take_add_one, List.getElem?_eq_getElem hj, getD_at hj, List.flatMap_append, Option.toList_some, List.flatMap_singleton]
  simp only [List.append_assoc]

/-- What a call answers that puts r behind bytes l that were handed in. -/
def NewAns (r : List Int) (w : World) (e : Ending) (w' : World) : Prop := ∃ v, e = .returned v ∧ Own w.heap.size w' v r ∧ Below w.heap.size w w'

theorem put_own (w : World) (a : Option Addr) (cap : Nat) (l : List Int) (n : Nat) (hb : Bts w.heap.size w a l) (hl : l.length ≤ 1000000000) (h1 : n ≤ 1000000000) :
    Calls Try.prog 52 #[.slice a l.length cap, .int .u64 (n : Int)] w (NewAns (l ++ bytesOf n) w) := by
  have h := put_any w a cap l (n : Int) hb hl (by omega) (by omega)
  rw [Int.toNat_natCast] at h
  refine h.mono ?_
  rintro e w2 ⟨g, c, rfl, ho, hb2⟩
  refine ⟨_, rfl, ?_, hb2⟩
  unfold Own
  rw [List.length_append, length_bytesOf]
  exact ho

/-- What holds in the loop of PutFront. -/
def pfInv (w : World) (l : List Int) (xs : List T) (n k : Nat) (b i : Value) (wr : World) : Prop :=
  ∃ j : Nat, j + k = n ∧ i = .int .i64 (j : Int) ∧ Own w.heap.size wr b (l ++ (bytesOf xs.length ++ (xs.take j).flatMap timeB)) ∧ Below w.heap.size w wr

set_option maxHeartbeats 4000000 in
theorem putFront_any (P : Nat → Prop) (w : World) (a : Option Addr) (cap : Nat) (l : List Int) (fa : Option Addr) (fc : Nat) (xs : List T) (hb : Bts w.heap.size w a l) (hx : TP P w fa xs) (hok : ∀ t ∈ xs, RT t) (hl : (l ++ frontB xs).length ≤ 1000000) (hxs : xs.length ≤ 1000000) :
    Calls Try.prog 23 #[.slice a l.length cap, .slice fa xs.length fc] w (NewAns (l ++ frontB xs) w) := by
  have HX := hid' hx
  have HOK := hid' hok
  have HL : Hid ((l ++ listB timeB xs).length ≤ 1000000000) := (Nat.le_trans hl (by omega) : _ ≤ _)
  have HA : Hid (∀ v' wr, Own w.heap.size wr v' (l ++ (bytesOf xs.length ++ (xs.take xs.length).flatMap timeB)) → Below w.heap.size w wr → NewAns (l ++ frontB xs) w (.returned v') wr) := fun v' wr h k => ⟨v', rfl, by rw [List.take_length] at h; exact h, k⟩
  obtain ⟨n, hn⟩ : ∃ n, xs.length = n := ⟨_, rfl⟩
  have HI : Hid (∀ k b i wr, pfInv w l xs n k b i wr → ∃ j : Nat, j + k = n ∧ i = .int .i64 (j : Int) ∧ Own w.heap.size wr b (l ++ (bytesOf xs.length ++ (xs.take j).flatMap timeB)) ∧ Below w.heap.size w wr) := fun k b i wr h => h
  have HP := hid' (put_own w a cap l n hb (by rw [List.length_append] at hl; omega) (by omega))
  rw [hn] at HA hxs ⊢
  have HN := hid' hn
  clear hx hok hl hn hb
  go_enter Try.func23, Try.ntmps23
  go_wp2_with fail
  refine HP.out.mono ?_
  rintro e w2 ⟨v0, rfl, hown, hbel⟩
  have H0 : Hid (pfInv w l xs n n v0 (.int .i64 0) w2) := ⟨0, by omega, rfl, by rw [HN.out]; simpa using hown, hbel⟩
  clear hown hbel HP
  go_wp2
  go_loopg [5, 15] n (fun k b i wr => pfInv w l xs n k b i wr)
  case atStart => exact H0.out
  case round =>
    obtain ⟨j, hj, rfl, hown, hbel⟩ := HI.out _ _ _ _ hrel
    cases gk with
    | zero =>
      obtain rfl : j = n := by omega
      have HF := hid' (HA.out _ _ (by rw [HN.out] at hown; exact hown) hbel)
      clear hrel hown hbel
      go_wp2
      go_ret
      exact HF.out
    | succ k =>
      have hjl : j < xs.length := by rw [HN.out]; omega
      obtain ⟨b1, o1, rfl⟩ := SP.lt HX.out (by rintro rfl; simp at hjl)
      have hx1 := SP.on HX.out hbel
      obtain ⟨c1, c2⟩ := TP.at hx1 hjl
      have hR := HOK.out _ (getD_mem (d := t0) hjl)
      have HC := hid' (fun W (hW : Below wr.heap.size wr W) => putTime_any w.heap.size W u5 _ (xs.getD j t0) (Nat.le_trans hbel.size hW.size) (Own.below hown hW) hR (len_take timeB xs l j t0 hjl HL.out))
      have HST := hid' (flat_step timeB xs l j t0 hjl)
      have HB := hid' hbel
      clear hown hbel hx1 hrel hjl hR
      generalize xs.getD j t0 = t at *
      obtain ⟨tx, ty⟩ := t
      simp only at c1 c2 HC
      go_wp2_with fail
      refine (HC.out _ ((Below.refl _ _).alloc (Nat.le_refl _) _)).mono ?_
      rintro e w3 ⟨v3, rfl, o3, k3⟩
      have H3 : Hid (pfInv w l xs n k v3 (.int .i64 ((j : Int) + 1)) w3) := ⟨j + 1, by omega, by simp, by rw [← HST.out]; exact o3, (bel_alloc HB.out _).trans (k3.below (by have := HB.out.size; simp; omega))⟩
      clear o3 k3 HC
      go_wp2
      go_roundg k
      case measure => omega
      case rel => exact H3.out

end Go.Proofs.Ytgalmkhgbokidaa
