/-
  What is proved here: the document's bytes of numbers, times and frontiers; the document's Same of times.
-/
import Derived.Test.YtgalmkhgbokidaaWK
namespace Go.Proofs.Ytgalmkhgbokidaa
open Go.RowKit Go.Proofs
set_option maxRecDepth 20000
set_option linter.unusedVariables false
set_option linter.unusedSimpArgs false

theorem rone_any (z : Int) (w : World) (hz : R64 z) : Calls Try.prog 42 #[.int .i64 z] w (NewAns (oneB z) w) := by
  obtain ⟨z0, z1⟩ := zig_range z hz.1 hz.2
  have hn : ((zig z).toNat : Int) = zig z := by omega
  have HB := hid' (bytes_any w (zig z).toNat (by omega))
  have HF : Hid (∀ g c w', w'.ownsRow w.heap.size 5 1 (.slice (some ⟨g, 0, none⟩) (sz (zig z).toNat) c) (sz (zig z).toNat) (B8 (bytesOf (zig z).toNat)) → Below w.heap.size w w' → NewAns (oneB z) w (.returned (.slice (some ⟨g, 0, none⟩) (sz (zig z).toNat) c)) w') := fun g c w' h1 h2 => ⟨_, rfl, by unfold Own oneB; rw [length_bytesOf]; exact h1, h2⟩
  rw [hn] at HB
  generalize (zig z).toNat = m at *
  go_enter Try.func42, Try.ntmps42
  go_wp2_with fail
  refine (signed_any z w hz.1 hz.2).mono ?_
  rintro e w1 ⟨rfl, rfl⟩
  go_wp2_with fail
  refine HB.out.mono ?_
  rintro e w2 ⟨g, c, rfl, hown, hbel⟩
  have HZ := hid' (HF.out g c w2 hown hbel)
  clear HF hown hbel HB
  go_wp2
  go_ret
  exact HZ.out

/-- Append of bytes, as one operation. -/
theorem wp_appB {w : World} {o : Oper} {a : Act} {K : Act → World → Prop} {Q : Exit → Act → World → Prop} (s x : Operand)
    (ho : o.op = .call { callee := .builtin .append, args := #[s, x], argTypes := #[22, 22] }) (base : Nat) (v : Value) (l : List Int) (hs : a.eval s = v) (hown : Own base w v l)
    (u : Value) (r : List Int) (hx : a.eval x = u) (hsrc : NewB r u w) (hlen : l.length + r.length ≤ 1000000000) (hbase : base ≤ w.heap.size)
    (h : ∀ v' w', Own base w' v' (l ++ r) → Kb base w w' → K (a.put o.dst v') w') : o.wp Try.prog a w K Q := by
  obtain ⟨i0, hi, hz0, hz1, hz2⟩ := info_parts Try.info5
  obtain ⟨g, c, rfl, hg, hc⟩ := hsrc
  refine wp_append_own w s x 22 ho base 5 i0 (.int .u8 0) 1 1 Try.underlying22 hi hz0 hz1 hz2 rfl (by decide) v l.length (B8 l) hs hown ⟨g, 0, none⟩ r.length c (B8 r) hx (by rw [length_B8]; omega) hc (B8_one _) (by unfold maxLen; omega) (by omega) hbase (fun v' w' h1 h2 _ => h v' w' ?_ (Kb.grown h2 hown))
  unfold Own
  rw [B8_append, List.length_append]
  exact h1

theorem oneB_ne (z : Int) : oneB z ≠ [] := by
  unfold oneB
  intro h
  have := sz_pos (zig z).toNat
  rw [← length_bytesOf, h] at this
  simp at this

def rtVal (g : Nat) (x y : Int) (i : Nat) : Option Value := [some (.pointer (some ⟨g, 0, none⟩)), some (.int .i64 x), none, some (.pointer (some ⟨g, 1, none⟩)), some (.int .i64 y), none, none, none].getD i none

/-- What holds while time goes on. -/
def rtInv (w : World) (g : Nat) (x y : Int) (vs : List Value) (W : World) : Prop :=
  Bx W g #[.int .i64 x, .int .i64 y] 26 ∧ Below w.heap.size w W ∧ match vs with
    | [] => True
    | [p] => Own w.heap.size W p (oneB x)
    | [p, q] => Own w.heap.size W p (oneB x) ∧ NewB (oneB y) q W
    | [_, _, r] => Own w.heap.size W r (oneB x ++ oneB y)
    | [_, _, r, s] => s = r ∧ Own w.heap.size W r (oneB x ++ oneB y)
    | _ => False

set_option maxHeartbeats 2000000 in
theorem rtime_any (t : T) (w : World) (ht : RT t) : Calls Try.prog 44 #[.agg #[.int .i64 t.1, .int .i64 t.2]] w (NewAns (timeB t) w) := by
  obtain ⟨x, y⟩ := t
  obtain ⟨r0, r1⟩ := ht
  unfold timeB
  simp only at r0 r1 ⊢
  have l0 := len_one r0
  have l1 := len_one r1
  have HI : Hid (rtInv w w.heap.size x y [] (w.alloc (.cells #[.int .i64 x, .int .i64 y] 26)).drew) := ⟨(Bx.new _ _ _).keep (Below.refl _ _).drew, ((Below.refl _ _).alloc (Nat.le_refl _) _).drew, trivial⟩
  go_enter Try.func44, Try.ntmps44
  go_wp2_with fail
  refine PQ.wp_region_quiet (rtVal w.heap.size x y) (rtInv w w.heap.size x y) mixed' (by kernel_rfl) HI.out ?_ ?_
  · refine ⟨?_, ?_, ?_, ?_, ?_, ?_, ?_, ?_, trivial⟩
    · intro vs A W hI hC
      exact ⟨PB.wanted_free rfl, run_faTime0 W (hC.outer 1 rfl)⟩
    · intro vs A W hI hC
      exact ⟨PB.wanted_free rfl, run_loadZ W (hC.left 0 rfl) (hI.1.cell 0)⟩
    · intro vs A W hk hI hC
      obtain rfl : vs = [] := List.length_eq_zero_iff.1 hk
      refine ⟨PB.wanted_free rfl, PQ.loud_call #[.int .i64 x] rfl Try.func42 rfl rfl (congrArg (fun x => [x]) (hC.left 1 rfl)) ?_⟩
      refine (rone_any x W r0).mono ?_
      rintro e W2 ⟨p, rfl, o1, k1⟩
      exact ⟨p, rfl, hI.1.keep k1, bel_trans' hI.2.1 k1, o1.base hI.2.1.size⟩
    · intro vs A W hI hC
      exact ⟨PB.wanted_free rfl, run_faTime1 W (hC.outer 1 rfl)⟩
    · intro vs A W hI hC
      exact ⟨PB.wanted_free rfl, run_loadZ W (hC.left 3 rfl) (hI.1.cell 1)⟩
    · intro vs A W hk hI hC
      match vs, hk, hI, hC with
      | [p], _, hI, hC =>
        refine ⟨PB.wanted_free rfl, PQ.loud_call #[.int .i64 y] rfl Try.func42 rfl rfl (congrArg (fun x => [x]) (hC.left 4 rfl)) ?_⟩
        refine (rone_any y W r1).mono ?_
        rintro e W2 ⟨q, rfl, o1, k1⟩
        exact ⟨q, rfl, hI.1.keep k1, bel_trans' hI.2.1 k1, hI.2.2.below k1, o1.newB (oneB_ne y)⟩
    · intro vs A W hk hI hC
      match vs, hk, hI, hC with
      | [p, q], _, hI, hC =>
        refine ⟨PB.wanted_free rfl, wp_appB (.tmp 5) (.tmp 8) rfl w.heap.size p _ (hC.left 2 rfl) hI.2.2.1 q _ (hC.left 5 rfl) hI.2.2.2 (by omega) hI.2.1.size ?_⟩
        intro v' w' h1 h2
        exact ⟨v', rfl, hI.1.kb h2 (by decide), hI.2.1.trans (h2.below hI.2.1.size), h1⟩
    · intro vs A W hk hI hC
      match vs, hk, hI, hC with
      | [p, q, r], _, hI, hC =>
        exact ⟨PB.wanted_free rfl, PQ.loud_value (run_assD W (hC.left 6 rfl)) ⟨hI.1, hI.2.1, rfl, hI.2.2⟩⟩
  · intro vs A W hk hI hE
    match vs, hk, hI, hE with
    | [p, q, r, s], _, hI, hE =>
      have h4 : PB.slot A 2 = s := hE.left 7
      obtain ⟨tmps, defers⟩ := A
      have hd : defers = [] := hE.defers
      subst hd
      obtain ⟨_, hK, hr, hO⟩ := hI
      have HO := hid' hO
      have HK := hid' hK
      clear hO hK hE
      go_wp2
      go_ret
      exact ⟨r, by rw [← hr]; exact congrArg Ending.returned h4, HO.out, HK.out⟩

def rfInv (w : World) (xs : List T) (n k : Nat) (b i : Value) (wr : World) : Prop :=
  ∃ j : Nat, j + k = n ∧ i = .int .i64 (j : Int) ∧ Own w.heap.size wr b ([] ++ (bytesOf xs.length ++ (xs.take j).flatMap timeB)) ∧ Below w.heap.size w wr

theorem bytes_own (w : World) (n : Nat) (h1 : n < 18446744073709551616) : Calls Try.prog 54 #[.int .u64 (n : Int)] w (NewAns (bytesOf n) w) := by
  refine (bytes_any w n h1).mono ?_
  rintro e w' ⟨g, c, rfl, ho, hb⟩
  exact ⟨_, rfl, by unfold Own; rw [length_bytesOf]; exact ho, hb⟩

theorem timeB_ne (t : T) : timeB t ≠ [] := by
  unfold timeB
  intro h
  exact oneB_ne t.1 (List.append_eq_nil_iff.1 h).1

set_option maxHeartbeats 4000000 in
theorem rFront_any (P : Nat → Prop) (w : World) (fa : Option Addr) (fc : Nat) (xs : List T) (hx : TP P w fa xs) (hok : ∀ t ∈ xs, RT t) (hxs : xs.length ≤ 1000000) :
    Calls Try.prog 24 #[.slice fa xs.length fc] w (NewAns (frontB xs) w) := by
  have HX := hid' hx
  have HOK := hid' hok
  have HL : Hid (([] ++ listB timeB xs).length ≤ 1000000000) := (by
    have := len_front hxs (by omega) hok
    unfold frontB at this
    rw [List.nil_append]; omega : _ ≤ _)
  have HA : Hid (∀ v' wr, Own w.heap.size wr v' ([] ++ (bytesOf xs.length ++ (xs.take xs.length).flatMap timeB)) → Below w.heap.size w wr → NewAns (frontB xs) w (.returned v') wr) := fun v' wr h k => ⟨v', rfl, by rw [List.take_length, List.nil_append] at h; exact h, k⟩
  obtain ⟨n, hn⟩ : ∃ n, xs.length = n := ⟨_, rfl⟩
  have HI : Hid (∀ k b i wr, rfInv w xs n k b i wr → ∃ j : Nat, j + k = n ∧ i = .int .i64 (j : Int) ∧ Own w.heap.size wr b ([] ++ (bytesOf xs.length ++ (xs.take j).flatMap timeB)) ∧ Below w.heap.size w wr) := fun k b i wr h => h
  rw [hn] at HA hxs ⊢
  have HP := hid' (bytes_own w n (by omega))
  have HN := hid' hn
  clear hx hok hn
  go_enter Try.func24, Try.ntmps24
  go_wp2_with fail
  refine HP.out.mono ?_
  rintro e w2 ⟨v0, rfl, hown, hbel⟩
  have H0 : Hid (rfInv w xs n n v0 (.int .i64 0) w2) := ⟨0, by omega, rfl, by rw [HN.out]; simpa using hown, hbel⟩
  clear hown hbel HP
  go_wp2
  go_loopg [3, 4] n (fun k b i wr => rfInv w xs n k b i wr)
  case atStart => exact H0.out
  case round =>
    obtain ⟨j, hj, rfl, hown, hbel⟩ := HI.out _ _ _ _ hrel
    cases gk with
    | zero =>
      obtain rfl : j = n := by omega
      have HF := hid' (HA.out _ _ (by rw [HN.out] at hown; exact hown) hbel)
      clear hrel hown hbel
      go_wp2
      go_ret
      exact HF.out
    | succ k =>
      have hjl : j < xs.length := by rw [HN.out]; omega
      obtain ⟨b1, o1, rfl⟩ := SP.lt HX.out (by rintro rfl; simp at hjl)
      have hx1 := SP.on HX.out hbel
      obtain ⟨c1, c2⟩ := TP.at hx1 hjl
      have hR := HOK.out _ (getD_mem (d := t0) hjl)
      have HC := hid' (fun W => rtime_any (xs.getD j t0) W hR)
      have HST := hid' (flat_step timeB xs [] j t0 hjl)
      have HLT := hid' (len_take timeB xs [] j t0 hjl HL.out)
      have HNE := hid' (timeB_ne (xs.getD j t0))
      have HB := hid' hbel
      have HO := hid' hown
      clear hown hbel hx1 hrel hjl hR
      generalize xs.getD j t0 = t at *
      obtain ⟨tx, ty⟩ := t
      simp only at c1 c2 HC
      generalize timeB (tx, ty) = vb at *
      go_wp2_with fail
      refine (HC.out _).mono ?_
      rintro e w3 ⟨v3, rfl, o3, hb3⟩
      obtain ⟨g, c, rfl, hg, hcell⟩ := o3.newB HNE.out
      have HO3 := hid' (HO.out.below hb3)
      have HSR := hid' (Src.of_new (c := c) hcell)
      have HB3 := hid' hb3
      clear hcell HC o3 hb3
      go_wp2_with (at_builtin; refine wpList_appB rfl (.tmp 15) (.tmp 20) rfl w.heap.size u3 _ rfl HO3.out (some ⟨g, 0, none⟩) vb.length c vb rfl rfl HSR.out (by have := HLT.out; rw [List.length_append] at this; omega) (Nat.le_trans HB.out.size HB3.out.size) ?_; intro v' w4 hown1 hk1)
      have H3 : Hid (rfInv w xs n k v' (.int .i64 ((j : Int) + 1)) w4) := ⟨j + 1, by omega, by simp, by rw [← HST.out]; exact hown1, (bel_trans' HB.out HB3.out).trans (hk1.below (Nat.le_trans HB.out.size HB3.out.size))⟩
      clear hown1 hk1 HSR
      go_wp2
      go_roundg k
      case measure => omega
      case rel => exact H3.out

set_option maxHeartbeats 2000000 in
theorem mSame_any (P Q : Nat → Prop) (w : World) (a b : Option Addr) (ca cb : Nat) (l : List T) (h1 : TP P w a l) (h2 : TP Q w b l) (hl : l.length ≤ 1000000) :
    Calls Try.prog 22 #[.slice a l.length ca, .slice b l.length cb] w fun e w' => e = .returned (.bool true) ∧ Below w.heap.size w w' := by
  have H1 := hid' h1
  have H2 := hid' h2
  obtain ⟨n, hn⟩ : ∃ n, l.length = n := ⟨_, rfl⟩
  have HN := hid' hn
  rw [hn] at hl ⊢
  clear h1 h2 hn
  go_enter Try.func22, Try.ntmps22
  go_wp2
  go_loopg [5] n (fun k i wr => ∃ j : Nat, j + k = n ∧ i = .int .i64 (j : Int) ∧ Hid (Below w.heap.size w wr))
  case atStart => exact ⟨0, by omega, rfl, Below.refl _ _⟩
  case round =>
    obtain ⟨j, hj, rfl, HB⟩ := hrel
    cases gk with
    | zero =>
      obtain rfl : j = n := by omega
      go_wp2
      go_ret
      exact ⟨rfl, HB.out⟩
    | succ k =>
      have hjl : j < l.length := by rw [HN.out]; omega
      have hne : l ≠ [] := by rintro rfl; simp at hjl
      obtain ⟨b1, o1, rfl⟩ := SP.lt H1.out hne
      obtain ⟨b2, o2, rfl⟩ := SP.lt H2.out hne
      obtain ⟨c1, c2⟩ := TP.at (SP.on H1.out HB.out) hjl
      obtain ⟨d1, d2⟩ := TP.at (SP.on H2.out HB.out) hjl
      generalize l.getD j t0 = t at c1 c2 d1 d2
      obtain ⟨tx, ty⟩ := t
      simp only at c1 c2 d1 d2
      have B1 := hid' HB.out.drew
      clear hjl hne
      go_wp2_with fail
      go_region
      go_wp2
      go_roundg k
      case measure => omega
      case rel => exact ⟨j + 1, by omega, by simp, B1⟩

end Go.Proofs.Ytgalmkhgbokidaa
