/-
  What is proved here: a row that a call has made and fills; GetFront.
  What is proved here: the document's bytes of numbers, times and frontiers; the document's Same of times.
  What is proved here: arguments that are bytes, times, commands, as the statements read them: what lies in memory.
-/
import Derived.Test.YtgalmkhgbokidaaMgG
import Derived.OwnWalk
import Derived.Test.YtgalmkhgbokidaaMgD
import Derived.ProofKit
import Derived.OpenShut
import Derived.ShutString
import Derived.ChangeOld
import Derived.ChangeSlices
import Derived.ChangeSame
import Derived.Deep.Slices
import Derived.Lib.SmallJoins

namespace Go.Proofs.Ytgalmkhgbokidaa
open Go.RowKit Go.Proofs
set_option maxRecDepth 20000
set_option linter.unusedVariables false
set_option linter.unusedSimpArgs false

/-- A row of n elements in block F, of which the first are done. -/
def Mk {α : Type} (k : Nat) (cs : α → List Value) (ty : TypeId) (W : World) (F n : Nat) (done : List α) : Prop :=
  ∃ cells : List Value, Bx W F cells.toArray ty ∧ cells.length = n * k ∧ cells.take (done.length * k) = done.flatMap cs ∧ done.length ≤ n

section
variable {α : Type} {k : Nat} {cs : α → List Value} {ty : TypeId} {W W' : World} {F n : Nat} {done : List α}

theorem Mk.keep (h : Mk k cs ty W F n done) (hb : W'.heap[F]? = W.heap[F]?) : Mk k cs ty W' F n done := by
  obtain ⟨c, h1, h2⟩ := h
  exact ⟨c, hb.trans h1, h2⟩
theorem Mk.lt (h : Mk k cs ty W F n done) : F < W.heap.size := by
  obtain ⟨c, h1, h2⟩ := h
  exact h1.lt
theorem Mk.frozen (h : Mk k cs ty W F n done) (i : Nat) : W.frozen? ⟨F, i, none⟩ = false := by
  obtain ⟨c, h1, h2⟩ := h
  exact h1.frozen i
theorem Mk.cell (h : Mk k cs ty W F n done) {i : Nat} (hi : i < n * k) : ∃ u, W.cell? ⟨F, i, none⟩ = some u := by
  obtain ⟨c, h1, h2, _⟩ := h
  rw [h1.cell i]
  have : i < c.toArray.size := by simp; omega
  exact ⟨_, Array.getElem?_eq_getElem this⟩

/-- All done: it reads so. -/
theorem Mk.sp {d : α} {B : Nat} (hcs : ∀ x, (cs x).length = k) (h : Mk k cs ty W F n done) (hd : done.length = n) (hB : B ≤ F) : SP k cs d (Since B) W (some ⟨F, 0, none⟩) done := by
  obtain ⟨c, h1, h2, h3, _⟩ := h
  rw [hd, ← h2, List.take_length] at h3
  refine ⟨fun _ => ⟨F, 0, rfl, hB, h1.lt, fun i j hi hj => ?_⟩⟩
  rw [Nat.zero_add, h1.cell (i * k + j), List.getElem?_toArray, h3]
  exact flat_get hcs done i j hi hj

theorem Mk.start {z : List Value} (h : Bx W F z.toArray ty) (hz : z.length = n * k) : Mk k cs ty W F n [] := ⟨z, h, hz, by simp, by simp⟩
end

theorem split_at {cells : List Value} {j m : Nat} (h : j + m ≤ cells.length) : ∃ p q r, cells = p ++ (q ++ r) ∧ p.length = j ∧ q.length = m := by
  refine ⟨cells.take j, (cells.drop j).take m, (cells.drop j).drop m, ?_, ?_, ?_⟩
  · rw [List.take_append_drop, List.take_append_drop]
  · rw [List.length_take]; omega
  · rw [List.length_take, List.length_drop]; omega

theorem Mk.push2 {cs : T → List Value} {ty : TypeId} {W : World} {F n : Nat} {done : List T} {x : T} {a b : Value} (hx : cs x = [a, b]) (h : Mk 2 cs ty W F n done) (hlt : done.length < n) :
    Mk 2 cs ty ((W.setCell ⟨F, done.length * 2, none⟩ a).setCell ⟨F, done.length * 2 + 1, none⟩ b) F n (done ++ [x]) := by
  obtain ⟨c, h1, h2, h3, h4⟩ := h
  obtain ⟨p, q, r, rfl, hp, hq⟩ := split_at (cells := c) (j := done.length * 2) (m := 2) (by omega)
  match q, hq with
  | [u, v], _ =>
    refine ⟨p ++ ([a, b] ++ r), ?_, by simp at h2 ⊢; omega, ?_, by simp; omega⟩
    · have := (h1.setCell (i := done.length * 2) (v := a)).setCell (i := done.length * 2 + 1) (v := b)
      rw [← hp] at this ⊢
      simpa [List.set_append_right] using this
    · rw [← hp, List.take_append_of_le_length (Nat.le_refl _), List.take_length] at h3
      rw [List.flatMap_append, List.flatMap_singleton, hx, ← h3, List.length_append, List.length_singleton, Nat.add_mul, ← hp, List.take_append, List.take_of_length_le (by omega)]
      simp

theorem Mk.push3 {cs : V → List Value} {ty : TypeId} {W : World} {F n : Nat} {done : List V} {x : V} {a b c' : Value} (hx : cs x = [a, b, c']) (h : Mk 3 cs ty W F n done) (hlt : done.length < n) :
    Mk 3 cs ty (((W.setCell ⟨F, done.length * 3, none⟩ a).setCell ⟨F, done.length * 3 + 1, none⟩ b).setCell ⟨F, done.length * 3 + 2, none⟩ c') F n (done ++ [x]) := by
  obtain ⟨c, h1, h2, h3, h4⟩ := h
  obtain ⟨p, q, r, rfl, hp, hq⟩ := split_at (cells := c) (j := done.length * 3) (m := 3) (by omega)
  match q, hq with
  | [u, v, t], _ =>
    refine ⟨p ++ ([a, b, c'] ++ r), ?_, by simp at h2 ⊢; omega, ?_, by simp; omega⟩
    · have := ((h1.setCell (i := done.length * 3) (v := a)).setCell (i := done.length * 3 + 1) (v := b)).setCell (i := done.length * 3 + 2) (v := c')
      rw [← hp] at this ⊢
      simpa [List.set_append_right] using this
    · rw [← hp, List.take_append_of_le_length (Nat.le_refl _), List.take_length] at h3
      rw [List.flatMap_append, List.flatMap_singleton, hx, ← h3, List.length_append, List.length_singleton, Nat.add_mul, ← hp, List.take_append, List.take_of_length_le (by omega)]
      simp

theorem Try.infoTime : (Try.prog.info? 26).map (fun i => (i.zero, i.size, i.bytes)) = some (some (.agg #[.int .i64 0, .int .i64 0]), 2, 16) := by kernel_rfl
theorem Try.infoVal : (Try.prog.info? 78).map (fun i => (i.zero, i.size, i.bytes)) = some (some (.agg #[.int .i64 0, .int .i64 0, .string ⟨#[]⟩]), 3, 32) := by kernel_rfl

/-- make([]T, n) has made the row. -/
theorem made_bx {w w' : World} {base e size n : Nat} {xs : List Value} (h : w'.ownsRow base e size (.slice (some ⟨w.heap.size, 0, none⟩) n n) n xs) : Bx w' w.heap.size xs.toArray e ∧ xs.length = n * size := by
  obtain ⟨h1, h2⟩ := h
  rcases h2 with ⟨h2, _⟩ | ⟨g, cap, cur, hv, _, hg, hle, _, hs, ht⟩
  · simp at h2
  · simp at hv
    obtain ⟨rfl, rfl⟩ := hv
    have e1 : cur.toList = xs := by
      rw [← ht, List.take_of_length_le]
      simp; omega
    have e2 : cur = xs.toArray := by rw [← e1]
    refine ⟨by unfold Bx; rw [← e2]; exact hg, ?_⟩
    rw [← e1]; simp; omega

/-- What GetFront tells. -/
def RepTs (B : Nat) (x : List T) (v : Value) (W : World) : Prop := ∃ a c, v = .slice a x.length c ∧ TP (Since B) W a x ∧ Sh a x.length c

theorem RepTs.nil (B : Nat) (W : World) : RepTs B [] (.slice none 0 0) W := ⟨none, 0, rfl, SP.nil _ _ _, Sh.nil⟩

/-- What a function answers that looks from a place on. -/
def GAns {α : Type} (f : α → List Int) (D : α → Prop) (Rep : Nat → α → Value → World → Prop) (d : α) (l : List Int) (at' : Int) (w : World) (e : Ending) (w' : World) : Prop :=
  ∃ x v next er, e = .returned (.tuple #[v, .int .i64 next, .int .i64 er]) ∧ Rep w.heap.size x v w' ∧ Below w.heap.size w w' ∧
    (((at' < 0 ∨ (l.length : Int) < at') ∧ x = d ∧ next = 0 ∧ er = 9) ∨
     (0 ≤ at' ∧ at' ≤ l.length ∧ er = 0 ∧ D x ∧ l.drop at'.toNat = f x ++ l.drop next.toNat ∧ (next.toNat : Int) = next ∧ next.toNat ≤ l.length) ∨
     (0 ≤ at' ∧ at' ≤ l.length ∧ er = 6 ∧ x = d ∧ next = 0 ∧ ∀ y r, D y → l.drop at'.toNat ≠ f y ++ r))

/-- What holds in the loop of GetFront: the reader at block G, the row at block F. -/
def gfInv (w : World) (G F : Nat) (ba : Option Addr) (cap : Nat) (l : List Int) (s0 : Option (List Int)) (n k : Nat) (i : Value) (wr : World) : Prop :=
  ∃ (done : List T) (s : Option (List Int)), done.length + k = n ∧ i = .int .i64 (done.length : Int) ∧ Mk 2 cT 26 wr F n done ∧ RdS wr G ba cap l s ∧ RdL timeB RT 16 n s0 done s ∧ Below w.heap.size w wr

theorem num_few {s : Option (List Int)} {n : Nat} {s' : Option (List Int)} (h : Rd bytesOf U64 s n s') (hn : n ≤ 16) : Rd bytesOf (fun m => m ≤ 16) s n s' := by
  cases s with
  | none => rw [h.bad]; trivial
  | some r =>
    cases s' with
    | none => exact fun y r' hy => h y r' (by unfold U64; omega)
    | some r' => exact ⟨hn, h.2⟩

theorem num_many {α : Type} {f : α → List Int} {D : α → Prop} {k n : Nat} {r : List Int} {s' : Option (List Int)} (h : Rd bytesOf U64 (some r) n s') (hn : k < n) (hk : k ≤ 1000000) : ∀ l r', LD k D l → r ≠ listB f l ++ r' := by
  intro l r' hl e
  have h1 := hl.1
  unfold listB at e
  rw [List.append_assoc] at e
  cases s' with
  | none => exact h l.length _ (by unfold U64; omega) e
  | some r1 =>
    rw [h.2] at e
    have := (bytes_pf e).1
    omega

set_option maxHeartbeats 4000000 in
theorem getFront_any (w : World) (ba : Option Addr) (cap : Nat) (l : List Int) (at' : Int) (hb : Bts w.heap.size w ba l) (hc : l.length ≤ cap) (hl : l.length ≤ 1000000000) :
    Calls Try.prog 20 #[.slice ba l.length cap, .int .i64 at'] w (GAns frontB (LD 16 RT) RepTs [] l at' w) := by
  obtain ⟨i0, hi, hz0, hz1, hz2⟩ := info_parts Try.infoTime
  by_cases hout : at' < 0 ∨ (l.length : Int) < at'
  · have HZ : Hid (GAns frontB (LD 16 RT) RepTs [] l at' w (.returned (.tuple #[.slice none 0 0, .int .i64 0, .int .i64 9])) w) := ⟨[], _, 0, 9, rfl, RepTs.nil _ _, Below.refl _ _, .inl ⟨hout, rfl, rfl, rfl⟩⟩
    clear hb hi hz0 hz1 hz2
    rcases hout with h | h
    · go_enter Try.func20, Try.ntmps20
      go_wp2
      go_ret3
      exact HZ.out
    · have hneg : ¬ at' < 0 := by omega
      go_enter Try.func20, Try.ntmps20
      go_wp2
      go_ret3
      exact HZ.out
  · obtain ⟨at0, rfl⟩ := Int.eq_ofNat_of_zero_le (show 0 ≤ at' by omega)
    have hat : at0 ≤ l.length := by omega
    have BA : Below w.heap.size w (w.alloc (.cells #[.slice ba l.length cap, .int .i64 (at0 : Int), .bool false] 82)) := (Below.refl _ _).alloc (Nat.le_refl _) _
    have RS0 : RdS (w.alloc (.cells #[.slice ba l.length cap, .int .i64 (at0 : Int), .bool false] 82)) w.heap.size ba cap l (some (l.drop at0)) := ⟨at0, hat, .inl ⟨_, rfl, rfl, Bx.new _ _ _⟩⟩
    have HTK := hid' (takeNum_any _ w.heap.size ba cap l _ RS0 (hb.keep BA) hc hl)
    have HTM := hid' (fun W s (h : RdS W w.heap.size ba cap l s) (hbt : Bts w.heap.size W ba l) => time_any W w.heap.size ba cap l s h hbt hc hl)
    have HB0 := hid' BA
    have HBT := hid' hb
    have HOK : Hid (∀ (x : List T) (F c nx : Nat) W, Below w.heap.size w W → TP (Since w.heap.size) W (some ⟨F, 0, none⟩) x → Sh (some ⟨F, 0, none⟩) x.length c → LD 16 RT x → l.drop at0 = frontB x ++ l.drop nx → nx ≤ l.length → GAns frontB (LD 16 RT) RepTs [] l (at0 : Int) w (.returned (.tuple #[.slice (some ⟨F, 0, none⟩) x.length c, .int .i64 (nx : Int), .int .i64 0])) W) := fun x F c nx W h1 h2 h3 h4 h5 h6 =>
      ⟨x, _, nx, 0, rfl, ⟨_, c, rfl, h2, h3⟩, h1, .inr (.inl ⟨by omega, by omega, rfl, h4, by simpa using h5, by simp, by simpa using h6⟩)⟩
    have HNO : Hid (∀ W, Below w.heap.size w W → (∀ y r, LD 16 RT y → l.drop at0 ≠ frontB y ++ r) → GAns frontB (LD 16 RT) RepTs [] l (at0 : Int) w (.returned (.tuple #[.slice none 0 0, .int .i64 0, .int .i64 6])) W) := fun W h1 h2 =>
      ⟨[], _, 0, 6, rfl, RepTs.nil _ _, h1, .inr (.inr ⟨by omega, by omega, rfl, rfl, rfl, by simpa using h2⟩)⟩
    have hh1 : ¬ (at0 : Int) < 0 := by omega
    have hh2 : ¬ (l.length : Int) < (at0 : Int) := by omega
    obtain ⟨ln, hln⟩ : ∃ n, l.length = n := ⟨_, rfl⟩
    rw [hln] at HTK hh2 BA HB0 ⊢
    clear hb BA RS0 hout
    go_enter Try.func20, Try.ntmps20
    go_wp2_with fail
    refine HTK.out.mono ?_
    rintro e w1 ⟨n, v, s1, rfl, rfl, hrd, hrs, hbut⟩
    have HB1 := hid' (hbut.below' HB0.out (Nat.le_refl _) (Nat.le_refl _))
    have HRD := hid' hrd
    have HRS := hid' hrs
    clear hrd hrs hbut HTK HB0
    by_cases hmany : 16 < n
    · have HZ : Hid (GAns frontB (LD 16 RT) RepTs [] l (at0 : Int) w (.returned (.tuple #[.slice none 0 0, .int .i64 0, .int .i64 6])) w1) := by
        refine HNO.out w1 HB1.out ?_
        exact num_many HRD.out hmany (by omega)
      have hm' : (16 : Int) < (n : Int) := by omega
      clear HNO HOK HTM HRD HRS HB1
      unfold RepU at *
      go_wp2
      go_ret3
      exact HZ.out
    · have hm' : ¬ (16 : Int) < (n : Int) := by omega
      unfold RepU at *
      have hs1 : w.heap.size ≤ w1.heap.size := HB1.out.size
      go_wp2_with (at_make; refine wpList_make_full _ rfl _ _ 29 rfl w.heap.size 26 i0 _ 2 Try.underlying29 hi hz0 hz1 .u64 .u64 _ _ n rfl rfl rfl rfl (by rw [hz2]; omega) (by unfold maxLen; omega) hs1 ?_; intro w2 hmade hgrow)
      obtain ⟨hbx, hlen⟩ := made_bx hmade
      have hB2 : Below w1.heap.size w1 w2 := ⟨hgrow.os, hgrow.tape, hgrow.output, hgrow.size, fun k hk => hgrow.block k hk (by simp)⟩
      have H0 : Hid (gfInv w w.heap.size w1.heap.size ba cap l (some (l.drop at0)) n n (.int .i64 0) w2) := ⟨[], s1, by simp, rfl, Mk.start hbx hlen, HRS.out.on hB2, RdL.start (num_few HRD.out (by omega)), bel_trans' HB1.out hB2⟩
      have HI : Hid (∀ k i wr, gfInv w w.heap.size w1.heap.size ba cap l (some (l.drop at0)) n k i wr → ∃ (done : List T) (s : Option (List Int)), done.length + k = n ∧ i = .int .i64 (done.length : Int) ∧ Mk 2 cT 26 wr w1.heap.size n done ∧ RdS wr w.heap.size ba cap l s ∧ RdL timeB RT 16 n (some (l.drop at0)) done s ∧ Below w.heap.size w wr) := fun k i wr h => h
      have hwF : w.heap.size < w1.heap.size := HRS.out.lt
      clear hmade hgrow hbx hlen hB2 HRD HRS
      generalize w1.heap.size = F at *
      go_wp2
      go_loopg [30, 9] n (fun k i _ wr => gfInv w w.heap.size F ba cap l (some (l.drop at0)) n k i wr)
      case atStart => exact H0.out
      case round =>
        obtain ⟨done, s, hj, rfl, hmk, hrs, hrl, hbel⟩ := HI.out _ _ _ hrel
        clear hrel H0
        cases gk with
        | zero =>
          have hdn : done.length = n := by omega
          obtain ⟨atE, bad, haE, hbxE, hsE⟩ := hrs.open'
          have hrd := hrl.done (.inr hdn)
          have cE2 : wr.cell? ⟨w.heap.size, 2, none⟩ = some (.bool bad) := hbxE.cell 2
          have cE1 : wr.cell? ⟨w.heap.size, 1, none⟩ = some (.int .i64 (atE : Int)) := hbxE.cell 1
          cases bad with
          | true =>
            have HZ := hid' (HNO.out wr hbel (by rw [hsE] at hrd; exact hrd))
            clear HNO HOK HTM hmk hrs hrl hbel hbxE hrd cE1
            go_wp2
            go_ret3
            exact HZ.out
          | false =>
            rw [hsE] at hrd
            have HZ := hid' (HOK.out done F n atE wr.drew hbel.drew (SP.on (Mk.sp cT_len hmk hdn (by omega)) (Below.refl _ _).drew) (Sh.at _ _ _ (by omega)) hrd.1 hrd.2 haE)
            rw [hdn] at HZ
            clear HNO HOK HTM hmk hrs hrl hbel hbxE hrd hsE
            go_wp2_with fail
            go_region
            go_wp2
            go_ret3
            exact HZ.out
        | succ k =>
          have HC := hid' (HTM.out wr s hrs (HBT.out.keep hbel))
          have hlt : done.length < n := by omega
          have HMK := hid' hmk
          have HRL := hid' hrl
          have HBE := hid' hbel
          have hFl := hmk.lt
          clear hmk hrs hrl hbel
          go_wp2_with fail
          refine HC.out.mono ?_
          rintro e w3 ⟨x, v, s3, rfl, hv, hrd3, hrs3, hbut3⟩
          unfold RepT at hv
          subst hv
          have mk3 : Mk 2 cT 26 w3 F n done := HMK.out.keep (hbut3.block F hFl (by omega))
          obtain ⟨u0, hu0⟩ := mk3.cell (i := done.length * 2) (by omega)
          obtain ⟨u1, hu1⟩ := mk3.cell (i := done.length * 2 + 1) (by omega)
          have f0 := mk3.frozen (done.length * 2)
          have f1 := mk3.frozen (done.length * 2 + 1)
          have H3 : Hid (gfInv w w.heap.size F ba cap l (some (l.drop at0)) n k (.int .i64 ((done.length : Int) + 1)) ((w3.setCell ⟨F, done.length * 2, none⟩ (.int .i64 x.1)).setCell ⟨F, done.length * 2 + 1, none⟩ (.int .i64 x.2))) :=
            ⟨done ++ [x], s3, by simp; omega, by simp, mk3.push2 rfl hlt, (hrs3.set (by omega)).set (by omega), HRL.out.push pf_time hlt hrd3, ((hbut3.below' HBE.out (Nat.le_refl _) (Nat.le_refl _)).setCell (p := ⟨F, _, none⟩) (by show w.heap.size ≤ F; omega) _).setCell (p := ⟨F, _, none⟩) (by show w.heap.size ≤ F; omega) _⟩
          clear HC mk3 hrd3 hrs3 hbut3 HMK HRL HBE
          generalize hdl : done.length = dl at *
          go_wp2
          go_roundg k
          case measure => omega
          case rel => exact H3.out

end Go.Proofs.Ytgalmkhgbokidaa

namespace Go.Proofs.Ytgalmkhgbokidaa
open Go.RowKit Go.Proofs
set_option maxRecDepth 20000
set_option linter.unusedVariables false
set_option linter.unusedSimpArgs false

theorem rone_any (z : Int) (w : World) (hz : R64 z) : Calls Try.prog 42 #[.int .i64 z] w (NewAns (oneB z) w) := by
  obtain ⟨z0, z1⟩ := zig_range z hz.1 hz.2
  have hn : ((zig z).toNat : Int) = zig z := by omega
  have HB := hid' (bytes_any w (zig z).toNat (by omega))
  have HF : Hid (∀ g c w', w'.ownsRow w.heap.size 5 1 (.slice (some ⟨g, 0, none⟩) (sz (zig z).toNat) c) (sz (zig z).toNat) (B8 (bytesOf (zig z).toNat)) → Below w.heap.size w w' → NewAns (oneB z) w (.returned (.slice (some ⟨g, 0, none⟩) (sz (zig z).toNat) c)) w') := fun g c w' h1 h2 => ⟨_, rfl, by unfold Own oneB; rw [length_bytesOf]; exact h1, h2⟩
  rw [hn] at HB
  generalize (zig z).toNat = m at *
  go_enter Try.func42, Try.ntmps42
  go_wp2_with fail
  refine (signed_any z w hz.1 hz.2).mono ?_
  rintro e w1 ⟨rfl, rfl⟩
  go_wp2_with fail
  refine HB.out.mono ?_
  rintro e w2 ⟨g, c, rfl, hown, hbel⟩
  have HZ := hid' (HF.out g c w2 hown hbel)
  clear HF hown hbel HB
  go_wp2
  go_ret
  exact HZ.out

/-- Append of bytes, as one operation. -/
theorem wp_appB {w : World} {o : Oper} {a : Act} {K : Act → World → Prop} {Q : Exit → Act → World → Prop} (s x : Operand)
    (ho : o.op = .call { callee := .builtin .append, args := #[s, x], argTypes := #[22, 22] }) (base : Nat) (v : Value) (l : List Int) (hs : a.eval s = v) (hown : Own base w v l)
    (u : Value) (r : List Int) (hx : a.eval x = u) (hsrc : NewB r u w) (hlen : l.length + r.length ≤ 1000000000) (hbase : base ≤ w.heap.size)
    (h : ∀ v' w', Own base w' v' (l ++ r) → Kb base w w' → K (a.put o.dst v') w') : o.wp Try.prog a w K Q := by
  obtain ⟨i0, hi, hz0, hz1, hz2⟩ := info_parts Try.info5
  obtain ⟨g, c, rfl, hg, hc⟩ := hsrc
  refine wp_append_own w s x 22 ho base 5 i0 (.int .u8 0) 1 1 Try.underlying22 hi hz0 hz1 hz2 rfl (by decide) v l.length (B8 l) hs hown ⟨g, 0, none⟩ r.length c (B8 r) hx (by rw [length_B8]; omega) hc (B8_one _) (by unfold maxLen; omega) (by omega) hbase (fun v' w' h1 h2 _ => h v' w' ?_ (Kb.grown h2 hown))
  unfold Own
  rw [B8_append, List.length_append]
  exact h1

theorem oneB_ne (z : Int) : oneB z ≠ [] := by
  unfold oneB
  intro h
  have := sz_pos (zig z).toNat
  rw [← length_bytesOf, h] at this
  simp at this

def rtVal (g : Nat) (x y : Int) (i : Nat) : Option Value := [some (.pointer (some ⟨g, 0, none⟩)), some (.int .i64 x), none, some (.pointer (some ⟨g, 1, none⟩)), some (.int .i64 y), none, none, none].getD i none

/-- What holds while time goes on. -/
def rtInv (w : World) (g : Nat) (x y : Int) (vs : List Value) (W : World) : Prop :=
  Bx W g #[.int .i64 x, .int .i64 y] 26 ∧ Below w.heap.size w W ∧ match vs with
    | [] => True
    | [p] => Own w.heap.size W p (oneB x)
    | [p, q] => Own w.heap.size W p (oneB x) ∧ NewB (oneB y) q W
    | [_, _, r] => Own w.heap.size W r (oneB x ++ oneB y)
    | [_, _, r, s] => s = r ∧ Own w.heap.size W r (oneB x ++ oneB y)
    | _ => False

set_option maxHeartbeats 2000000 in
theorem rtime_any (t : T) (w : World) (ht : RT t) : Calls Try.prog 44 #[.agg #[.int .i64 t.1, .int .i64 t.2]] w (NewAns (timeB t) w) := by
  obtain ⟨x, y⟩ := t
  obtain ⟨r0, r1⟩ := ht
  unfold timeB
  simp only at r0 r1 ⊢
  have l0 := len_one r0
  have l1 := len_one r1
  have HI : Hid (rtInv w w.heap.size x y [] (w.alloc (.cells #[.int .i64 x, .int .i64 y] 26)).drew) := ⟨(Bx.new _ _ _).keep (Below.refl _ _).drew, ((Below.refl _ _).alloc (Nat.le_refl _) _).drew, trivial⟩
  go_enter Try.func44, Try.ntmps44
  go_wp2_with fail
  refine PQ.wp_region_quiet (rtVal w.heap.size x y) (rtInv w w.heap.size x y) mixed' (by kernel_rfl) HI.out ?_ ?_
  · refine ⟨?_, ?_, ?_, ?_, ?_, ?_, ?_, ?_, trivial⟩
    · intro vs A W hI hC
      exact ⟨PB.wanted_free rfl, run_faTime0 W (hC.outer 1 rfl)⟩
    · intro vs A W hI hC
      exact ⟨PB.wanted_free rfl, run_loadZ W (hC.left 0 rfl) (hI.1.cell 0)⟩
    · intro vs A W hk hI hC
      obtain rfl : vs = [] := List.length_eq_zero_iff.1 hk
      refine ⟨PB.wanted_free rfl, PQ.loud_call #[.int .i64 x] rfl Try.func42 rfl rfl (congrArg (fun x => [x]) (hC.left 1 rfl)) ?_⟩
      refine (rone_any x W r0).mono ?_
      rintro e W2 ⟨p, rfl, o1, k1⟩
      exact ⟨p, rfl, hI.1.keep k1, bel_trans' hI.2.1 k1, o1.base hI.2.1.size⟩
    · intro vs A W hI hC
      exact ⟨PB.wanted_free rfl, run_faTime1 W (hC.outer 1 rfl)⟩
    · intro vs A W hI hC
      exact ⟨PB.wanted_free rfl, run_loadZ W (hC.left 3 rfl) (hI.1.cell 1)⟩
    · intro vs A W hk hI hC
      match vs, hk, hI, hC with
      | [p], _, hI, hC =>
        refine ⟨PB.wanted_free rfl, PQ.loud_call #[.int .i64 y] rfl Try.func42 rfl rfl (congrArg (fun x => [x]) (hC.left 4 rfl)) ?_⟩
        refine (rone_any y W r1).mono ?_
        rintro e W2 ⟨q, rfl, o1, k1⟩
        exact ⟨q, rfl, hI.1.keep k1, bel_trans' hI.2.1 k1, hI.2.2.below k1, o1.newB (oneB_ne y)⟩
    · intro vs A W hk hI hC
      match vs, hk, hI, hC with
      | [p, q], _, hI, hC =>
        refine ⟨PB.wanted_free rfl, wp_appB (.tmp 5) (.tmp 8) rfl w.heap.size p _ (hC.left 2 rfl) hI.2.2.1 q _ (hC.left 5 rfl) hI.2.2.2 (by omega) hI.2.1.size ?_⟩
        intro v' w' h1 h2
        exact ⟨v', rfl, hI.1.kb h2 (by decide), hI.2.1.trans (h2.below hI.2.1.size), h1⟩
    · intro vs A W hk hI hC
      match vs, hk, hI, hC with
      | [p, q, r], _, hI, hC =>
        exact ⟨PB.wanted_free rfl, PQ.loud_value (run_assD W (hC.left 6 rfl)) ⟨hI.1, hI.2.1, rfl, hI.2.2⟩⟩
  · intro vs A W hk hI hE
    match vs, hk, hI, hE with
    | [p, q, r, s], _, hI, hE =>
      have h4 : PB.slot A 2 = s := hE.left 7
      obtain ⟨tmps, defers⟩ := A
      have hd : defers = [] := hE.defers
      subst hd
      obtain ⟨_, hK, hr, hO⟩ := hI
      have HO := hid' hO
      have HK := hid' hK
      clear hO hK hE
      go_wp2
      go_ret
      exact ⟨r, by rw [← hr]; exact congrArg Ending.returned h4, HO.out, HK.out⟩

def rfInv (w : World) (xs : List T) (n k : Nat) (b i : Value) (wr : World) : Prop :=
  ∃ j : Nat, j + k = n ∧ i = .int .i64 (j : Int) ∧ Own w.heap.size wr b ([] ++ (bytesOf xs.length ++ (xs.take j).flatMap timeB)) ∧ Below w.heap.size w wr

theorem bytes_own (w : World) (n : Nat) (h1 : n < 18446744073709551616) : Calls Try.prog 54 #[.int .u64 (n : Int)] w (NewAns (bytesOf n) w) := by
  refine (bytes_any w n h1).mono ?_
  rintro e w' ⟨g, c, rfl, ho, hb⟩
  exact ⟨_, rfl, by unfold Own; rw [length_bytesOf]; exact ho, hb⟩

theorem timeB_ne (t : T) : timeB t ≠ [] := by
  unfold timeB
  intro h
  exact oneB_ne t.1 (List.append_eq_nil_iff.1 h).1

set_option maxHeartbeats 4000000 in
theorem rFront_any (P : Nat → Prop) (w : World) (fa : Option Addr) (fc : Nat) (xs : List T) (hx : TP P w fa xs) (hok : ∀ t ∈ xs, RT t) (hxs : xs.length ≤ 1000000) :
    Calls Try.prog 24 #[.slice fa xs.length fc] w (NewAns (frontB xs) w) := by
  have HX := hid' hx
  have HOK := hid' hok
  have HL : Hid (([] ++ listB timeB xs).length ≤ 1000000000) := (by
    have := len_front hxs (by omega) hok
    unfold frontB at this
    rw [List.nil_append]; omega : _ ≤ _)
  have HA : Hid (∀ v' wr, Own w.heap.size wr v' ([] ++ (bytesOf xs.length ++ (xs.take xs.length).flatMap timeB)) → Below w.heap.size w wr → NewAns (frontB xs) w (.returned v') wr) := fun v' wr h k => ⟨v', rfl, by rw [List.take_length, List.nil_append] at h; exact h, k⟩
  obtain ⟨n, hn⟩ : ∃ n, xs.length = n := ⟨_, rfl⟩
  have HI : Hid (∀ k b i wr, rfInv w xs n k b i wr → ∃ j : Nat, j + k = n ∧ i = .int .i64 (j : Int) ∧ Own w.heap.size wr b ([] ++ (bytesOf xs.length ++ (xs.take j).flatMap timeB)) ∧ Below w.heap.size w wr) := fun k b i wr h => h
  rw [hn] at HA hxs ⊢
  have HP := hid' (bytes_own w n (by omega))
  have HN := hid' hn
  clear hx hok hn
  go_enter Try.func24, Try.ntmps24
  go_wp2_with fail
  refine HP.out.mono ?_
  rintro e w2 ⟨v0, rfl, hown, hbel⟩
  have H0 : Hid (rfInv w xs n n v0 (.int .i64 0) w2) := ⟨0, by omega, rfl, by rw [HN.out]; simpa using hown, hbel⟩
  clear hown hbel HP
  go_wp2
  go_loopg [3, 4] n (fun k b i wr => rfInv w xs n k b i wr)
  case atStart => exact H0.out
  case round =>
    obtain ⟨j, hj, rfl, hown, hbel⟩ := HI.out _ _ _ _ hrel
    cases gk with
    | zero =>
      obtain rfl : j = n := by omega
      have HF := hid' (HA.out _ _ (by rw [HN.out] at hown; exact hown) hbel)
      clear hrel hown hbel
      go_wp2
      go_ret
      exact HF.out
    | succ k =>
      have hjl : j < xs.length := by rw [HN.out]; omega
      obtain ⟨b1, o1, rfl⟩ := SP.lt HX.out (by rintro rfl; simp at hjl)
      have hx1 := SP.on HX.out hbel
      obtain ⟨c1, c2⟩ := TP.at hx1 hjl
      have hR := HOK.out _ (getD_mem (d := t0) hjl)
      have HC := hid' (fun W => rtime_any (xs.getD j t0) W hR)
      have HST := hid' (flat_step timeB xs [] j t0 hjl)
      have HLT := hid' (len_take timeB xs [] j t0 hjl HL.out)
      have HNE := hid' (timeB_ne (xs.getD j t0))
      have HB := hid' hbel
      have HO := hid' hown
      clear hown hbel hx1 hrel hjl hR
      generalize xs.getD j t0 = t at *
      obtain ⟨tx, ty⟩ := t
      simp only at c1 c2 HC
      generalize timeB (tx, ty) = vb at *
      go_wp2_with fail
      refine (HC.out _).mono ?_
      rintro e w3 ⟨v3, rfl, o3, hb3⟩
      obtain ⟨g, c, rfl, hg, hcell⟩ := o3.newB HNE.out
      have HO3 := hid' (HO.out.below hb3)
      have HSR := hid' (Src.of_new (c := c) hcell)
      have HB3 := hid' hb3
      clear hcell HC o3 hb3
      go_wp2_with (at_builtin; refine wpList_appB rfl (.tmp 15) (.tmp 20) rfl w.heap.size u3 _ rfl HO3.out (some ⟨g, 0, none⟩) vb.length c vb rfl rfl HSR.out (by have := HLT.out; rw [List.length_append] at this; omega) (Nat.le_trans HB.out.size HB3.out.size) ?_; intro v' w4 hown1 hk1)
      have H3 : Hid (rfInv w xs n k v' (.int .i64 ((j : Int) + 1)) w4) := ⟨j + 1, by omega, by simp, by rw [← HST.out]; exact hown1, (bel_trans' HB.out HB3.out).trans (hk1.below (Nat.le_trans HB.out.size HB3.out.size))⟩
      clear hown1 hk1 HSR
      go_wp2
      go_roundg k
      case measure => omega
      case rel => exact H3.out

set_option maxHeartbeats 2000000 in
theorem mSame_any (P Q : Nat → Prop) (w : World) (a b : Option Addr) (ca cb : Nat) (l : List T) (h1 : TP P w a l) (h2 : TP Q w b l) (hl : l.length ≤ 1000000) :
    Calls Try.prog 22 #[.slice a l.length ca, .slice b l.length cb] w fun e w' => e = .returned (.bool true) ∧ Below w.heap.size w w' := by
  have H1 := hid' h1
  have H2 := hid' h2
  obtain ⟨n, hn⟩ : ∃ n, l.length = n := ⟨_, rfl⟩
  have HN := hid' hn
  rw [hn] at hl ⊢
  clear h1 h2 hn
  go_enter Try.func22, Try.ntmps22
  go_wp2
  go_loopg [5] n (fun k i wr => ∃ j : Nat, j + k = n ∧ i = .int .i64 (j : Int) ∧ Hid (Below w.heap.size w wr))
  case atStart => exact ⟨0, by omega, rfl, Below.refl _ _⟩
  case round =>
    obtain ⟨j, hj, rfl, HB⟩ := hrel
    cases gk with
    | zero =>
      obtain rfl : j = n := by omega
      go_wp2
      go_ret
      exact ⟨rfl, HB.out⟩
    | succ k =>
      have hjl : j < l.length := by rw [HN.out]; omega
      have hne : l ≠ [] := by rintro rfl; simp at hjl
      obtain ⟨b1, o1, rfl⟩ := SP.lt H1.out hne
      obtain ⟨b2, o2, rfl⟩ := SP.lt H2.out hne
      obtain ⟨c1, c2⟩ := TP.at (SP.on H1.out HB.out) hjl
      obtain ⟨d1, d2⟩ := TP.at (SP.on H2.out HB.out) hjl
      generalize l.getD j t0 = t at c1 c2 d1 d2
      obtain ⟨tx, ty⟩ := t
      simp only at c1 c2 d1 d2
      have B1 := hid' HB.out.drew
      clear hjl hne
      go_wp2_with fail
      go_region
      go_wp2
      go_roundg k
      case measure => omega
      case rel => exact ⟨j + 1, by omega, by simp, B1⟩

end Go.Proofs.Ytgalmkhgbokidaa

namespace Go.Proofs.Ytgalmkhgbokidaa
open Go.ChangeShapes Go.WideShapes Go.ChangeAt Go.RowKit Go.Deep
set_option maxRecDepth 20000
set_option linter.unusedVariables false
set_option linter.unusedSimpArgs false

theorem laidOut : laidOutB Try.prog = true := by kernel_rfl

theorem ownK : ownKnob Try.prog.godebug = none := by kernel_rfl

theorem R64.of_wf {z : Int} (h : (Lit.int .i64 z).wf = true) : R64 z := by
  have := bounds_i64 h
  unfold R64; omega

instance : Inhabited (Cm × CmS) := ⟨(c0, s0)⟩

def cCm (x : Cm × CmS) : List Value := (cmA x.1 x.2).toList
theorem cCm_len (x : Cm × CmS) : (cCm x).length = 9 := rfl

section
variable {H : Type} {enc : TypeId × Value → H} {w : World}

theorem open_int1 {fuel : Nat} {v : Value} {x : DataW H × List MemPlace} (h : DataW.trod enc Try.prog w 0 (fun _ => true) true fuel 3 [v] = some x) : ∃ z, v = .int .i64 z ∧ R64 z := by
  obtain ⟨z, e, _, hw⟩ := DataW.trod_int Try.underlying3 h
  simp at e
  exact ⟨z, e, R64.of_wf hw⟩

theorem open_byte1 {fuel : Nat} {v : Value} {x : DataW H × List MemPlace} (h : DataW.trod enc Try.prog w 0 (fun _ => true) true fuel 5 [v] = some x) : ∃ z, v = .int .u8 z ∧ 0 ≤ z ∧ z < 256 := by
  obtain ⟨z, e, _, hw⟩ := DataW.trod_int Try.underlying5 h
  simp at e
  have := bounds_u8 hw
  exact ⟨z, e, by omega, by omega⟩

theorem open_gen {α : Type} [Inhabited α] (k : Nat) (cs : α → List Value) (d : α) (hk : 0 < k) (hcs : ∀ x, (cs x).length = k) {t e : TypeId} (ht : Try.prog.underlying t = some (.slice e)) (he : Try.prog.cellsOf e = k) (good : α → Prop)
    (dec : ∀ (n : Nat) (cs' : List Value) (y : DataW H × List MemPlace), DataW.trod enc Try.prog w 0 (fun _ => true) true n e cs' = some y → cs'.length = k → ∃ q, cs' = cs q ∧ good q) {fuel : Nat} {v : Value} {x : DataW H × List MemPlace} (h : DataW.trod enc Try.prog w 0 (fun _ => true) true fuel t [v] = some x) :
    ∃ a cap, ∃ l : List α, v = .slice a l.length cap ∧ SP k cs d (fun b => b < w.heap.size) w a l ∧ Sh a l.length cap ∧ ∀ q ∈ l, good q := by
  rcases open_slice ht h with ⟨h0, _⟩ | ⟨ad, len, cap, m, n, D, Pl, hv, _, hl, _, hmm, _, hx⟩
  · simp at h0
    exact ⟨none, 0, [], h0, SP.nil _ _ _, Sh.nil, by simp⟩
  · simp at hv
    simp at hmm
    subst hmm
    have each : ∀ i, i < m → ∃ q : α, (∀ j, j < k → w.cell? (ad.add (i * k + j)) = (cs q)[j]?) ∧ good q := by
      intro i hi
      obtain ⟨cs', h1, h2⟩ := hx i hi
      rw [he] at h1
      obtain ⟨_, hlen, hcell⟩ := World.cells?_some h1
      obtain ⟨q, rfl, hq⟩ := dec _ _ _ h2 hlen
      refine ⟨q, fun j hj => ?_, hq⟩
      have c := hcell j hj
      rw [add_add] at c
      exact c
    obtain ⟨q, hq⟩ := choose_lt each
    refine ⟨some ad, m, (List.range len).map q, by simpa using hv, ⟨fun hne => ?_⟩, Sh.at _ _ _ (by simpa using hl), fun z hz => ?_⟩
    · have hpos : 0 < len := by
        rcases Nat.eq_zero_or_pos len with h | h
        · subst h; simp at hne
        · exact h
      obtain ⟨b, off, spot⟩ := ad
      have hc := (hq 0 (by omega)).1 0 hk
      have hsome : ∃ u, (cs (q 0))[0]? = some u := ⟨_, List.getElem?_eq_getElem (by rw [hcs]; exact hk)⟩
      obtain ⟨u, hu⟩ := hsome
      rw [hu] at hc
      have hspot : spot = none := by simpa [Addr.add] using World.cell?_spot hc
      subst hspot
      have hb : b < w.heap.size := by
        have := block_lt_of_cell hc
        rw [addr_add] at this
        exact this
      refine ⟨b, off, rfl, hb, hb, fun i j hi hj => ?_⟩
      have hi' : i < len := by simpa using hi
      have h1 := (hq i (by omega)).1 j hj
      rw [addr_add] at h1
      have e : ((List.range len).map q).getD i d = q i := by simp [List.getD, hi']
      rw [e]
      exact h1
    · obtain ⟨i, hi, rfl⟩ := List.mem_map.1 hz
      exact (hq i (by have := List.mem_range.1 hi; omega)).2

theorem open_bytesV {fuel : Nat} {v : Value} {x : DataW H × List MemPlace} (h : DataW.trod enc Try.prog w 0 (fun _ => true) true fuel 22 [v] = some x) :
    ∃ a cap, ∃ l : List Int, v = .slice a l.length cap ∧ BP (fun b => b < w.heap.size) w a l ∧ Sh a l.length cap ∧ Byt l :=
  open_gen 1 cB 0 (by omega) cB_len Try.underlying22 (by kernel_rfl) (fun z => 0 ≤ z ∧ z < 256) (fun n cs' y hy hlen => by
    match cs', hlen with
    | [u], _ =>
      obtain ⟨z, rfl, hr⟩ := open_byte1 hy
      exact ⟨z, rfl, hr⟩) h

theorem open_timesV {fuel : Nat} {v : Value} {x : DataW H × List MemPlace} (h : DataW.trod enc Try.prog w 0 (fun _ => true) true fuel 29 [v] = some x) :
    ∃ a cap, ∃ l : List T, v = .slice a l.length cap ∧ TP (fun b => b < w.heap.size) w a l ∧ Sh a l.length cap ∧ ∀ t ∈ l, RT t :=
  open_gen 2 cT t0 (by omega) cT_len Try.underlying29 (by kernel_rfl) RT (fun n cs' y hy hlen => by
    obtain ⟨xs, k, hk, hxy, _, hxl, hf⟩ := DataW.trod_struct Try.underlying26 hy
    have cI : Try.prog.cellsOf 3 = 1 := by kernel_rfl
    match cs', hlen, xs, hxl with
    | [v0, v1], _, [y0, y1], _ =>
      have g0 := hf 0 _ rfl
      have g1 := hf 1 _ rfl
      simp [cI] at g0 g1
      obtain ⟨z0, rfl, r0⟩ := open_int1 g0
      obtain ⟨z1, rfl, r1⟩ := open_int1 g1
      exact ⟨(z0, z1), rfl, r0, r1⟩) h

theorem open_rowV {fuel : Nat} {v : Value} {x : DataW H × List MemPlace} (h : DataW.trod enc Try.prog w 0 (fun _ => true) true fuel 24 [v] = some x) :
    ∃ a cap, ∃ l : List V, v = .slice a l.length cap ∧ VP (fun b => b < w.heap.size) w a l ∧ Sh a l.length cap ∧ ∀ q ∈ l, R64 q.1 ∧ R64 q.2.1 :=
  open_gen 3 cV d0 (by omega) cV_len Try.underlying24 (by kernel_rfl) (fun q => R64 q.1 ∧ R64 q.2.1) (fun n cs' y hy hlen => by
    obtain ⟨xs, k, hk, hxy, _, hxl, hf⟩ := DataW.trod_struct Try.underlying78 hy
    have cI : Try.prog.cellsOf 3 = 1 := by kernel_rfl
    have cS : Try.prog.cellsOf 9 = 1 := by kernel_rfl
    match cs', hlen, xs, hxl with
    | [v0, v1, v2], _, [y0, y1, y2], _ =>
      have g0 := hf 0 _ rfl
      have g1 := hf 1 _ rfl
      have g2 := hf 2 _ rfl
      simp [cI, cS] at g0 g1 g2
      obtain ⟨z0, rfl, r0⟩ := open_int1 g0
      obtain ⟨z1, rfl, r1⟩ := open_int1 g1
      obtain ⟨z2, e2, _, _⟩ := DataW.trod_string Try.underlying9 g2
      simp at e2
      subst e2
      exact ⟨(z0, z1, z2), rfl, r0, r1⟩) h

/-- A command that was handed in. -/
def Giv (w : World) (x : Cm × CmS) : Prop := CmR (fun b => b < w.heap.size) w x.1 x.2 ∧ CmN x.1

theorem open_cmdC {fuel : Nat} {cs' : List Value} {x : DataW H × List MemPlace} (h : DataW.trod enc Try.prog w 0 (fun _ => true) true fuel 31 cs' = some x) (hlen : cs'.length = 9) : ∃ q : Cm × CmS, cs' = cCm q ∧ Giv w q := by
  obtain ⟨xs, k, hk, hxy, _, hxl, hf⟩ := DataW.trod_struct Try.underlying31 h
  have cI : Try.prog.cellsOf 3 = 1 := by kernel_rfl
  have cU : Try.prog.cellsOf 28 = 4 := by kernel_rfl
  have cR : Try.prog.cellsOf 24 = 1 := by kernel_rfl
  have cTi : Try.prog.cellsOf 26 = 2 := by kernel_rfl
  have cF : Try.prog.cellsOf 29 = 1 := by kernel_rfl
  have cBy : Try.prog.cellsOf 22 = 1 := by kernel_rfl
  match cs', hlen, xs, hxl with
  | [v0, v1, v2, v3, v4, v5, v6, v7, v8], _, [y0, y1, y2, y3, y4, y5], _ =>
    have g0 := hf 0 _ rfl
    have g1 := hf 1 _ rfl
    have g2 := hf 2 _ rfl
    have g3 := hf 3 _ rfl
    have g4 := hf 4 _ rfl
    have g5 := hf 5 _ rfl
    simp [cI, cU, cF, cBy] at g0 g1 g2 g3 g4 g5
    obtain ⟨z0, rfl, r0⟩ := open_int1 g0
    obtain ⟨z1, rfl, r1⟩ := open_int1 g1
    obtain ⟨z7, rfl, r7⟩ := open_int1 g4
    obtain ⟨fa, fc, fl, rfl, hfp, hfs, hfr⟩ := open_timesV g3
    obtain ⟨sa, sc, sl, rfl, hsp, hss, hsr⟩ := open_bytesV g5
    obtain ⟨xs', k', hk', hxy', _, hxl', hf'⟩ := DataW.trod_struct Try.underlying28 g2
    match xs', hxl' with
    | [y20, y21, y22], _ =>
      have g20 := hf' 0 _ rfl
      have g21 := hf' 1 _ rfl
      have g22 := hf' 2 _ rfl
      simp [cI, cR, cTi] at g20 g21 g22
      obtain ⟨ra, rc, rl, rfl, hrp, hrs, hrr⟩ := open_rowV g20
      obtain ⟨z5, rfl, r5⟩ := open_int1 g22
      obtain ⟨xs2, k2, hk2, hxy2, _, hxl2, hf2⟩ := DataW.trod_struct Try.underlying26 g21
      match xs2, hxl2 with
      | [y30, y31], _ =>
        have g30 := hf2 0 _ rfl
        have g31 := hf2 1 _ rfl
        simp [cI] at g30 g31
        obtain ⟨z3, rfl, r3⟩ := open_int1 g30
        obtain ⟨z4, rfl, r4⟩ := open_int1 g31
        exact ⟨(⟨z0, z1, rl, (z3, z4), z5, fl, z7, sl⟩, ⟨ra, rc, fa, fc, sa, sc⟩), rfl, ⟨hrp, hfp, hsp, hsr, hrs, hfs, hss⟩, ⟨r0, r1, r5, r7, ⟨r3, r4⟩, hfr, hrr⟩⟩

theorem open_cmd {r : Reach} {b0 : Nat} {v : Value} {d : DataW H} {p : List MemPlace} (hv : Value.okWide Try.prog w r b0 31 v) (h : DataW.Trod enc Try.prog w 0 (fun _ => true) true 31 v d p) : ∃ q : Cm × CmS, v = cmV q.1 q.2 ∧ Giv w q := by
  obtain ⟨cs, rfl, hsz⟩ := okWide_struct Try.underlying31 hv
  obtain ⟨fuel, hf⟩ := h
  have h9 : Try.prog.cellsOf 31 = 9 := by kernel_rfl
  obtain ⟨q, hq, hg⟩ := open_cmdC (cs' := cs.toList) (by simpa [Value.cells] using hf) (by simp; omega)
  refine ⟨q, ?_, hg⟩
  unfold cmV
  congr 1
  apply Array.ext'
  exact hq

theorem open_cmdsV {fuel : Nat} {v : Value} {x : DataW H × List MemPlace} (h : DataW.trod enc Try.prog w 0 (fun _ => true) true fuel 33 [v] = some x) :
    ∃ a cap, ∃ l : List (Cm × CmS), v = .slice a l.length cap ∧ SP 9 cCm (c0, s0) (fun b => b < w.heap.size) w a l ∧ Sh a l.length cap ∧ ∀ q ∈ l, Giv w q :=
  open_gen 9 cCm (c0, s0) (by omega) cCm_len Try.underlying33 (by kernel_rfl) (Giv w) (fun n cs' y hy hlen => open_cmdC hy hlen) h
end

end Go.Proofs.Ytgalmkhgbokidaa
