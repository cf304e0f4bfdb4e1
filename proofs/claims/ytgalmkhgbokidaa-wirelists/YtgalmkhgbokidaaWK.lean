/-
  What is proved here: a row that a call has made and fills; GetFront.
-/
import Derived.Test.YtgalmkhgbokidaaWJ
import Derived.OwnWalk
namespace Go.Proofs.Ytgalmkhgbokidaa
open Go.RowKit Go.Proofs
set_option maxRecDepth 20000
set_option linter.unusedVariables false
set_option linter.unusedSimpArgs false

/-- A row of n elements in block F, of which the first are done. -/
def Mk {α : Type} (k : Nat) (cs : α → List Value) (ty : TypeId) (W : World) (F n : Nat) (done : List α) : Prop :=
  ∃ cells : List Value, Bx W F cells.toArray ty ∧ cells.length = n * k ∧ cells.take (done.length * k) = done.flatMap cs ∧ done.length ≤ n

section
variable {α : Type} {k : Nat} {cs : α → List Value} {ty : TypeId} {W W' : World} {F n : Nat} {done : List α}

theorem Mk.keep (h : Mk k cs ty W F n done) (hb : W'.heap[F]? = W.heap[F]?) : Mk k cs ty W' F n done := by
  obtain ⟨c, h1, h2⟩ := h
  exact ⟨c, hb.trans h1, h2⟩
theorem Mk.lt (h : Mk k cs ty W F n done) : F < W.heap.size := by
  obtain ⟨c, h1, h2⟩ := h
  exact h1.lt
theorem Mk.frozen (h : Mk k cs ty W F n done) (i : Nat) : W.frozen? ⟨F, i, none⟩ = false := by
  obtain ⟨c, h1, h2⟩ := h
  exact h1.frozen i
theorem Mk.cell (h : Mk k cs ty W F n done) {i : Nat} (hi : i < n * k) : ∃ u, W.cell? ⟨F, i, none⟩ = some u := by
  obtain ⟨c, h1, h2, _⟩ := h
  rw [h1.cell i]
  have : i < c.toArray.size := by simp; omega
  exact ⟨_, Array.getElem?_eq_getElem this⟩

/-- All done: it reads so. -/
theorem Mk.sp {d : α} {B : Nat} (hcs : ∀ x, (cs x).length = k) (h : Mk k cs ty W F n done) (hd : done.length = n) (hB : B ≤ F) : SP k cs d (Since B) W (some ⟨F, 0, none⟩) done := by
  obtain ⟨c, h1, h2, h3, _⟩ := h
  rw [hd, ← h2, List.take_length] at h3
  refine ⟨fun _ => ⟨F, 0, rfl, hB, h1.lt, fun i j hi hj => ?_⟩⟩
  rw [Nat.zero_add, h1.cell (i * k + j), List.getElem?_toArray, h3]
  exact flat_get hcs done i j hi hj

theorem Mk.start {z : List Value} (h : Bx W F z.toArray ty) (hz : z.length = n * k) : Mk k cs ty W F n [] := ⟨z, h, hz, by simp, by simp⟩
end

theorem split_at {cells : List Value} {j m : Nat} (h : j + m ≤ cells.length) : ∃ p q r, cells = p ++ (q ++ r) ∧ p.length = j ∧ q.length = m := by
  refine ⟨cells.take j, (cells.drop j).take m, (cells.drop j).drop m, ?_, ?_, ?_⟩
  · rw [List.take_append_drop, List.take_append_drop]
  · rw [List.length_take]; omega
  · rw [List.length_take, List.length_drop]; omega

theorem Mk.push2 {cs : T → List Value} {ty : TypeId} {W : World} {F n : Nat} {done : List T} {x : T} {a b : Value} (hx : cs x = [a, b]) (h : Mk 2 cs ty W F n done) (hlt : done.length < n) :
    Mk 2 cs ty ((W.setCell ⟨F, done.length * 2, none⟩ a).setCell ⟨F, done.length * 2 + 1, none⟩ b) F n (done ++ [x]) := by
  obtain ⟨c, h1, h2, h3, h4⟩ := h
  obtain ⟨p, q, r, rfl, hp, hq⟩ := split_at (cells := c) (j := done.length * 2) (m := 2) (by omega)
  match q, hq with
  | [u, v], _ =>
    refine ⟨p ++ ([a, b] ++ r), ?_, by simp at h2 ⊢; omega, ?_, by simp; omega⟩
    · have := (h1.setCell (i := done.length * 2) (v := a)).setCell (i := done.length * 2 + 1) (v := b)
      rw [← hp] at this ⊢
      simpa [List.set_append_right] using this
    · rw [← hp, List.take_append_of_le_length (Nat.le_refl _), List.take_length] at h3
      rw [List.flatMap_append, List.flatMap_singleton, hx, ← h3, List.length_append, List.length_singleton, Nat.add_mul, ← hp, List.take_append, List.take_of_length_le (by omega)]
      simp

theorem Mk.push3 {cs : V → List Value} {ty : TypeId} {W : World} {F n : Nat} {done : List V} {x : V} {a b c' : Value} (hx : cs x = [a, b, c']) (h : Mk 3 cs ty W F n done) (hlt : done.length < n) :
    Mk 3 cs ty (((W.setCell ⟨F, done.length * 3, none⟩ a).setCell ⟨F, done.length * 3 + 1, none⟩ b).setCell ⟨F, done.length * 3 + 2, none⟩ c') F n (done ++ [x]) := by
  obtain ⟨c, h1, h2, h3, h4⟩ := h
  obtain ⟨p, q, r, rfl, hp, hq⟩ := split_at (cells := c) (j := done.length * 3) (m := 3) (by omega)
  match q, hq with
  | [u, v, t], _ =>
    refine ⟨p ++ ([a, b, c'] ++ r), ?_, by simp at h2 ⊢; omega, ?_, by simp; omega⟩
    · have := ((h1.setCell (i := done.length * 3) (v := a)).setCell (i := done.length * 3 + 1) (v := b)).setCell (i := done.length * 3 + 2) (v := c')
      rw [← hp] at this ⊢
      simpa [List.set_append_right] using this
    · rw [← hp, List.take_append_of_le_length (Nat.le_refl _), List.take_length] at h3
      rw [List.flatMap_append, List.flatMap_singleton, hx, ← h3, List.length_append, List.length_singleton, Nat.add_mul, ← hp, List.take_append, List.take_of_length_le (by omega)]
      simp

theorem Try.infoTime : (Try.prog.info? 26).map (fun i => (i.zero, i.size, i.bytes)) = some (some (.agg #[.int .i64 0, .int .i64 0]), 2, 16) := by kernel_rfl
theorem Try.infoVal : (Try.prog.info? 78).map (fun i => (i.zero, i.size, i.bytes)) = some (some (.agg #[.int .i64 0, .int .i64 0, .string ⟨#[]⟩]), 3, 32) := by kernel_rfl

/-- make([]T, n) has made the row. -/
theorem made_bx {w w' : World} {base e size n : Nat} {xs : List Value} (h : w'.ownsRow base e size (.slice (some ⟨w.heap.size, 0, none⟩) n n) n xs) : Bx w' w.heap.size xs.toArray e ∧ xs.length = n * size := by
  obtain ⟨h1, h2⟩ := h
  rcases h2 with ⟨h2, _⟩ | ⟨g, cap, cur, hv, _, hg, hle, _, hs, ht⟩
  · simp at h2
  · simp at hv
    obtain ⟨rfl, rfl⟩ := hv
    have e1 : cur.toList = xs := by
      rw [← ht, List.take_of_length_le]
      simp; omega
    have e2 : cur = xs.toArray := by rw [← e1]
    refine ⟨by unfold Bx; rw [← e2]; exact hg, ?_⟩
    rw [← e1]; simp; omega

/-- What GetFront tells. -/
def RepTs (B : Nat) (x : List T) (v : Value) (W : World) : Prop := ∃ a c, v = .slice a x.length c ∧ TP (Since B) W a x ∧ Sh a x.length c

theorem RepTs.nil (B : Nat) (W : World) : RepTs B [] (.slice none 0 0) W := ⟨none, 0, rfl, SP.nil _ _ _, Sh.nil⟩

/-- What a function answers that looks from a place on. -/
def GAns {α : Type} (f : α → List Int) (D : α → Prop) (Rep : Nat → α → Value → World → Prop) (d : α) (l : List Int) (at' : Int) (w : World) (e : Ending) (w' : World) : Prop :=
  ∃ x v next er, e = .returned (.tuple #[v, .int .i64 next, .int .i64 er]) ∧ Rep w.heap.size x v w' ∧ Below w.heap.size w w' ∧
    (((at' < 0 ∨ (l.length : Int) < at') ∧ x = d ∧ next = 0 ∧ er = 9) ∨
     (0 ≤ at' ∧ at' ≤ l.length ∧ er = 0 ∧ D x ∧ l.drop at'.toNat = f x ++ l.drop next.toNat ∧ (next.toNat : Int) = next ∧ next.toNat ≤ l.length) ∨
     (0 ≤ at' ∧ at' ≤ l.length ∧ er = 6 ∧ x = d ∧ next = 0 ∧ ∀ y r, D y → l.drop at'.toNat ≠ f y ++ r))

/-- What holds in the loop of GetFront: the reader at block G, the row at block F. -/
def gfInv (w : World) (G F : Nat) (ba : Option Addr) (cap : Nat) (l : List Int) (s0 : Option (List Int)) (n k : Nat) (i : Value) (wr : World) : Prop :=
  ∃ (done : List T) (s : Option (List Int)), done.length + k = n ∧ i = .int .i64 (done.length : Int) ∧ Mk 2 cT 26 wr F n done ∧ RdS wr G ba cap l s ∧ RdL timeB RT 16 n s0 done s ∧ Below w.heap.size w wr

theorem num_few {s : Option (List Int)} {n : Nat} {s' : Option (List Int)} (h : Rd bytesOf U64 s n s') (hn : n ≤ 16) : Rd bytesOf (fun m => m ≤ 16) s n s' := by
  cases s with
  | none => rw [h.bad]; trivial
  | some r =>
    cases s' with
    | none => exact fun y r' hy => h y r' (by unfold U64; omega)
    | some r' => exact ⟨hn, h.2⟩

theorem num_many {α : Type} {f : α → List Int} {D : α → Prop} {k n : Nat} {r : List Int} {s' : Option (List Int)} (h : Rd bytesOf U64 (some r) n s') (hn : k < n) (hk : k ≤ 1000000) : ∀ l r', LD k D l → r ≠ listB f l ++ r' := by
  intro l r' hl e
  have h1 := hl.1
  unfold listB at e
  rw [List.append_assoc] at e
  cases s' with
  | none => exact h l.length _ (by unfold U64; omega) e
  | some r1 =>
    rw [h.2] at e
    have := (bytes_pf e).1
    omega

set_option maxHeartbeats 4000000 in
theorem getFront_any (w : World) (ba : Option Addr) (cap : Nat) (l : List Int) (at' : Int) (hb : Bts w.heap.size w ba l) (hc : l.length ≤ cap) (hl : l.length ≤ 1000000000) :
    Calls Try.prog 20 #[.slice ba l.length cap, .int .i64 at'] w (GAns frontB (LD 16 RT) RepTs [] l at' w) := by
  obtain ⟨i0, hi, hz0, hz1, hz2⟩ := info_parts Try.infoTime
  by_cases hout : at' < 0 ∨ (l.length : Int) < at'
  · have HZ : Hid (GAns frontB (LD 16 RT) RepTs [] l at' w (.returned (.tuple #[.slice none 0 0, .int .i64 0, .int .i64 9])) w) := ⟨[], _, 0, 9, rfl, RepTs.nil _ _, Below.refl _ _, .inl ⟨hout, rfl, rfl, rfl⟩⟩
    clear hb hi hz0 hz1 hz2
    rcases hout with h | h
    · go_enter Try.func20, Try.ntmps20
      go_wp2
      go_ret3
      exact HZ.out
    · have hneg : ¬ at' < 0 := by omega
      go_enter Try.func20, Try.ntmps20
      go_wp2
      go_ret3
      exact HZ.out
  · obtain ⟨at0, rfl⟩ := Int.eq_ofNat_of_zero_le (show 0 ≤ at' by omega)
    have hat : at0 ≤ l.length := by omega
    have BA : Below w.heap.size w (w.alloc (.cells #[.slice ba l.length cap, .int .i64 (at0 : Int), .bool false] 82)) := (Below.refl _ _).alloc (Nat.le_refl _) _
    have RS0 : RdS (w.alloc (.cells #[.slice ba l.length cap, .int .i64 (at0 : Int), .bool false] 82)) w.heap.size ba cap l (some (l.drop at0)) := ⟨at0, hat, .inl ⟨_, rfl, rfl, Bx.new _ _ _⟩⟩
    have HTK := hid' (takeNum_any _ w.heap.size ba cap l _ RS0 (hb.keep BA) hc hl)
    have HTM := hid' (fun W s (h : RdS W w.heap.size ba cap l s) (hbt : Bts w.heap.size W ba l) => time_any W w.heap.size ba cap l s h hbt hc hl)
    have HB0 := hid' BA
    have HBT := hid' hb
    have HOK : Hid (∀ (x : List T) (F c nx : Nat) W, Below w.heap.size w W → TP (Since w.heap.size) W (some ⟨F, 0, none⟩) x → Sh (some ⟨F, 0, none⟩) x.length c → LD 16 RT x → l.drop at0 = frontB x ++ l.drop nx → nx ≤ l.length → GAns frontB (LD 16 RT) RepTs [] l (at0 : Int) w (.returned (.tuple #[.slice (some ⟨F, 0, none⟩) x.length c, .int .i64 (nx : Int), .int .i64 0])) W) := fun x F c nx W h1 h2 h3 h4 h5 h6 =>
      ⟨x, _, nx, 0, rfl, ⟨_, c, rfl, h2, h3⟩, h1, .inr (.inl ⟨by omega, by omega, rfl, h4, by simpa using h5, by simp, by simpa using h6⟩)⟩
    have HNO : Hid (∀ W, Below w.heap.size w W → (∀ y r, LD 16 RT y → l.drop at0 ≠ frontB y ++ r) → GAns frontB (LD 16 RT) RepTs [] l (at0 : Int) w (.returned (.tuple #[.slice none 0 0, .int .i64 0, .int .i64 6])) W) := fun W h1 h2 =>
      ⟨[], _, 0, 6, rfl, RepTs.nil _ _, h1, .inr (.inr ⟨by omega, by omega, rfl, rfl, rfl, by simpa using h2⟩)⟩
    have hh1 : ¬ (at0 : Int) < 0 := by omega
    have hh2 : ¬ (l.length : Int) < (at0 : Int) := by omega
    obtain ⟨ln, hln⟩ : ∃ n, l.length = n := ⟨_, rfl⟩
    rw [hln] at HTK hh2 BA HB0 ⊢
    clear hb BA RS0 hout
    go_enter Try.func20, Try.ntmps20
    go_wp2_with fail
    refine HTK.out.mono ?_
    rintro e w1 ⟨n, v, s1, rfl, rfl, hrd, hrs, hbut⟩
    have HB1 := hid' (hbut.below' HB0.out (Nat.le_refl _) (Nat.le_refl _))
    have HRD := hid' hrd
    have HRS := hid' hrs
    clear hrd hrs hbut HTK HB0
    by_cases hmany : 16 < n
    · have HZ : Hid (GAns frontB (LD 16 RT) RepTs [] l (at0 : Int) w (.returned (.tuple #[.slice none 0 0, .int .i64 0, .int .i64 6])) w1) := by
        refine HNO.out w1 HB1.out ?_
        exact num_many HRD.out hmany (by omega)
      have hm' : (16 : Int) < (n : Int) := by omega
      clear HNO HOK HTM HRD HRS HB1
      unfold RepU at *
      go_wp2
      go_ret3
      exact HZ.out
    · have hm' : ¬ (16 : Int) < (n : Int) := by omega
      unfold RepU at *
      have hs1 : w.heap.size ≤ w1.heap.size := HB1.out.size
      go_wp2_with (at_make; refine wpList_make_full _ rfl _ _ 29 rfl w.heap.size 26 i0 _ 2 Try.underlying29 hi hz0 hz1 .u64 .u64 _ _ n rfl rfl rfl rfl (by rw [hz2]; omega) (by unfold maxLen; omega) hs1 ?_; intro w2 hmade hgrow)
      obtain ⟨hbx, hlen⟩ := made_bx hmade
      have hB2 : Below w1.heap.size w1 w2 := ⟨hgrow.os, hgrow.tape, hgrow.output, hgrow.size, fun k hk => hgrow.block k hk (by simp)⟩
      have H0 : Hid (gfInv w w.heap.size w1.heap.size ba cap l (some (l.drop at0)) n n (.int .i64 0) w2) := ⟨[], s1, by simp, rfl, Mk.start hbx hlen, HRS.out.on hB2, RdL.start (num_few HRD.out (by omega)), bel_trans' HB1.out hB2⟩
      have HI : Hid (∀ k i wr, gfInv w w.heap.size w1.heap.size ba cap l (some (l.drop at0)) n k i wr → ∃ (done : List T) (s : Option (List Int)), done.length + k = n ∧ i = .int .i64 (done.length : Int) ∧ Mk 2 cT 26 wr w1.heap.size n done ∧ RdS wr w.heap.size ba cap l s ∧ RdL timeB RT 16 n (some (l.drop at0)) done s ∧ Below w.heap.size w wr) := fun k i wr h => h
      have hwF : w.heap.size < w1.heap.size := HRS.out.lt
      clear hmade hgrow hbx hlen hB2 HRD HRS
      generalize w1.heap.size = F at *
      go_wp2
      go_loopg [30, 9] n (fun k i _ wr => gfInv w w.heap.size F ba cap l (some (l.drop at0)) n k i wr)
      case atStart => exact H0.out
      case round =>
        obtain ⟨done, s, hj, rfl, hmk, hrs, hrl, hbel⟩ := HI.out _ _ _ hrel
        clear hrel H0
        cases gk with
        | zero =>
          have hdn : done.length = n := by omega
          obtain ⟨atE, bad, haE, hbxE, hsE⟩ := hrs.open'
          have hrd := hrl.done (.inr hdn)
          have cE2 : wr.cell? ⟨w.heap.size, 2, none⟩ = some (.bool bad) := hbxE.cell 2
          have cE1 : wr.cell? ⟨w.heap.size, 1, none⟩ = some (.int .i64 (atE : Int)) := hbxE.cell 1
          cases bad with
          | true =>
            have HZ := hid' (HNO.out wr hbel (by rw [hsE] at hrd; exact hrd))
            clear HNO HOK HTM hmk hrs hrl hbel hbxE hrd cE1
            go_wp2
            go_ret3
            exact HZ.out
          | false =>
            rw [hsE] at hrd
            have HZ := hid' (HOK.out done F n atE wr.drew hbel.drew (SP.on (Mk.sp cT_len hmk hdn (by omega)) (Below.refl _ _).drew) (Sh.at _ _ _ (by omega)) hrd.1 hrd.2 haE)
            rw [hdn] at HZ
            clear HNO HOK HTM hmk hrs hrl hbel hbxE hrd hsE
            go_wp2_with fail
            go_region
            go_wp2
            go_ret3
            exact HZ.out
        | succ k =>
          have HC := hid' (HTM.out wr s hrs (HBT.out.keep hbel))
          have hlt : done.length < n := by omega
          have HMK := hid' hmk
          have HRL := hid' hrl
          have HBE := hid' hbel
          have hFl := hmk.lt
          clear hmk hrs hrl hbel
          go_wp2_with fail
          refine HC.out.mono ?_
          rintro e w3 ⟨x, v, s3, rfl, hv, hrd3, hrs3, hbut3⟩
          unfold RepT at hv
          subst hv
          have mk3 : Mk 2 cT 26 w3 F n done := HMK.out.keep (hbut3.block F hFl (by omega))
          obtain ⟨u0, hu0⟩ := mk3.cell (i := done.length * 2) (by omega)
          obtain ⟨u1, hu1⟩ := mk3.cell (i := done.length * 2 + 1) (by omega)
          have f0 := mk3.frozen (done.length * 2)
          have f1 := mk3.frozen (done.length * 2 + 1)
          have H3 : Hid (gfInv w w.heap.size F ba cap l (some (l.drop at0)) n k (.int .i64 ((done.length : Int) + 1)) ((w3.setCell ⟨F, done.length * 2, none⟩ (.int .i64 x.1)).setCell ⟨F, done.length * 2 + 1, none⟩ (.int .i64 x.2))) :=
            ⟨done ++ [x], s3, by simp; omega, by simp, mk3.push2 rfl hlt, (hrs3.set (by omega)).set (by omega), HRL.out.push pf_time hlt hrd3, ((hbut3.below' HBE.out (Nat.le_refl _) (Nat.le_refl _)).setCell (p := ⟨F, _, none⟩) (by show w.heap.size ≤ F; omega) _).setCell (p := ⟨F, _, none⟩) (by show w.heap.size ≤ F; omega) _⟩
          clear HC mk3 hrd3 hrs3 hbut3 HMK HRL HBE
          generalize hdl : done.length = dl at *
          go_wp2
          go_roundg k
          case measure => omega
          case rel => exact H3.out

end Go.Proofs.Ytgalmkhgbokidaa
