/-
  What is proved here: the document's order of rows at rows that are alike.
  What is proved here: the statement x, y := a[i], b[i] of commands, whose order is left open.
  What is proved here: the document's Plain; the document's Get at any place.
-/
import Derived.Test.YtgalmkhgbokidaaMgH
import Derived.Test.YtgalmkhgbokidaaMgJ
import Derived.Test.YtgalmkhgbokidaaMgL
import Derived.Test.YtgalmkhgbokidaaMgM

namespace Go.Proofs.Ytgalmkhgbokidaa
open Go.RowKit Go.Proofs
set_option maxRecDepth 20000
set_option linter.unusedVariables false
set_option linter.unusedSimpArgs false

/-- Two values that are the same but for fields that play no part. -/
def AlV (x y : V) : Prop := x.1 = y.1 ∧ (x.1 = 0 → x.2.1 = y.2.1) ∧ (x.1 = 1 → x.2.2 = y.2.2)

theorem AlV.refl (x : V) : AlV x x := ⟨rfl, fun _ => rfl, fun _ => rfl⟩
theorem AlV.ofNorm (x : V) : AlV (norm x) x := by
  unfold norm
  by_cases h : x.1 = 1
  · rw [if_pos h]; exact ⟨h.symm, fun h0 => by simp at h0, fun _ => rfl⟩
  · rw [if_neg h]; exact ⟨rfl, fun _ => rfl, fun h1 => absurd h1 h⟩

/-- Two rows. -/
def AlR (l r : List V) : Prop := l.length = r.length ∧ ∀ i, i < l.length → AlV (l.getD i d0) (r.getD i d0)

theorem AlR.refl (l : List V) : AlR l l := ⟨rfl, fun i _ => AlV.refl _⟩
theorem AlR.ofNorm (l : List V) : AlR (l.map norm) l := ⟨by simp, fun i hi => by
  have hi' : i < l.length := by simpa using hi
  have e : (l.map norm).getD i d0 = norm (l.getD i d0) := by simp [List.getD, List.getElem?_eq_getElem hi']
  rw [e]; exact AlV.ofNorm _⟩

theorem less_self : ∀ l : List UInt8, Op.bytesLess l l = false
  | [] => by unfold Op.bytesLess; rfl
  | a :: l => by
    unfold Op.bytesLess
    rw [less_self l]
    simp

theorem run_gtr (s : ByteArray) (w : World) : (binOp .gtr 9 (.string s) (.string s)).run Try.prog w = .ok (.bool false) w := by
  have h := less_self s.toList
  show (Op.stringOp .gtr s s).run Try.prog w = _
  unfold Op.stringOp
  simp only [h]
  simp

set_option maxHeartbeats 2000000 in
theorem oCmp_alike (x y : V) (h : AlV x y) (w : World) : Calls Try.prog 75 #[.agg #[.int .i64 x.1, .int .i64 x.2.1, .string x.2.2], .agg #[.int .i64 y.1, .int .i64 y.2.1, .string y.2.2]] w fun e w' => e = .returned (.int .i64 0) ∧ Below w.heap.size w w' := by
  obtain ⟨k, i, s⟩ := x
  obtain ⟨k', i', s'⟩ := y
  obtain ⟨e1, e2, e3⟩ := h
  simp only at e1 e2 e3 ⊢
  subst e1
  have hB : ∀ o o', Below w.heap.size w ((w.alloc o).alloc o') := fun o o' => bel_alloc ((Below.refl _ _).alloc (Nat.le_refl _) o) o'
  by_cases h0 : k = 0
  · subst h0
    obtain rfl := e2 rfl
    clear e2 e3
    go_enter Try.func75, Try.ntmps75
    go_wp2
    go_ret
    exact ⟨rfl, hB _ _⟩
  · by_cases h1 : k = 1
    · subst h1
      obtain rfl := e3 rfl
      clear e2 e3
      go_enter Try.func75, Try.ntmps75
      have hl := less_self s.toList
      have hg := fun w => run_gtr s w
      go_wp2
      go_ret
      exact ⟨rfl, hB _ _⟩
    · have b0 : (k == 0) = false := by simpa using h0
      have b1 : (k == 1) = false := by simpa using h1
      clear e2 e3
      go_enter Try.func75, Try.ntmps75
      go_wp2
      go_ret
      exact ⟨rfl, hB _ _⟩

section
variable {a : Act} {t u c : Nat} {dst : Option Tmp} {ty : TypeId} {pos : String} {aft : Array Edge} {guard : Option (Nat × Bool)}
theorem run_ixV {b off n cap i : Nat} (w : World) (h : PB.slot a t = .slice (some ⟨b, off, none⟩) n cap) (h' : PB.slot a u = .int .i64 (i : Int)) (hi : i < n) (hn : n ≤ 1000000000) :
    (execOp a.eval { dst := dst, op := .indexAddr 24 (.tmp t) (.tmp u), type := ty, pos := pos, after := aft, guard := guard }).run Try.prog w = .ok (.value (.pointer (some ⟨b, off + i * 3, none⟩))) w := by
  have h1 : a.tmps[t]?.getD undef = .slice (some ⟨b, off, none⟩) n cap := by rw [← Array.getD_eq_getD_getElem?]; exact h
  have h2 : a.tmps[u]?.getD undef = .int .i64 (i : Int) := by rw [← Array.getD_eq_getD_getElem?]; exact h'
  go_simp
theorem run_ldV {b o : Nat} {k i : Int} {s : ByteArray} (w : World) (h : PB.slot a t = .pointer (some ⟨b, o, none⟩)) (hc : w.cell? ⟨b, o, none⟩ = some (.int .i64 k) ∧ w.cell? ⟨b, o + 1, none⟩ = some (.int .i64 i) ∧ w.cell? ⟨b, o + 2, none⟩ = some (.string s)) :
    (execOp a.eval { dst := dst, op := .load 78 (.tmp t), type := ty, pos := pos, after := aft, guard := guard }).run Try.prog w = .ok (.value (.agg #[.int .i64 k, .int .i64 i, .string s])) w := by
  have h0 : a.tmps[t]?.getD undef = .pointer (some ⟨b, o, none⟩) := by rw [← Array.getD_eq_getD_getElem?]; exact h
  obtain ⟨h1, h2, h3⟩ := hc
  go_simp
end

def aV (x : V) : Value := .agg #[.int .i64 x.1, .int .i64 x.2.1, .string x.2.2]

def orVal (b1 o1 b2 o2 n ca cb j : Nat) (x y : V) (i : Nat) : Option Value :=
  [some (.slice (some ⟨b1, o1, none⟩) n ca), some (.int .i64 (j : Int)), some (.pointer (some ⟨b1, o1 + j * 3, none⟩)), some (aV x), some (.slice (some ⟨b2, o2, none⟩) n cb), some (.int .i64 (j : Int)), some (.pointer (some ⟨b2, o2 + j * 3, none⟩)), some (aV y), none, none].getD i none

def orInv (w : World) (vs : List Value) (W : World) : Prop :=
  Below w.heap.size w W ∧ match vs with
    | [] => True
    | [p] => p = .int .i64 0
    | [p, q] => p = .int .i64 0 ∧ q = .int .i64 0
    | _ => False

set_option maxHeartbeats 4000000 in
theorem oOrder_alike (P Q : Nat → Prop) (w : World) (a b : Option Addr) (ca cb : Nat) (l r : List V) (h1 : VP P w a l) (h2 : VP Q w b r) (hal : AlR l r) (hl : l.length ≤ 1000) :
    Calls Try.prog 60 #[.slice a l.length ca, .slice b r.length cb] w fun e w' => e = .returned (.int .i64 0) ∧ Below w.heap.size w w' := by
  have H1 := hid' h1
  have H2 := hid' h2
  have HAL := hid' hal
  rw [← hal.1]
  obtain ⟨n, hn⟩ : ∃ n, l.length = n := ⟨_, rfl⟩
  have HN := hid' hn
  rw [hn] at hl ⊢
  clear h1 h2 hn hal
  go_enter Try.func60, Try.ntmps60
  go_wp2
  go_loopg [5] n (fun k i wr => ∃ j : Nat, j + k = n ∧ i = .int .i64 (j : Int) ∧ Hid (Below w.heap.size w wr))
  case atStart => exact ⟨0, by omega, rfl, Below.refl _ _⟩
  case round =>
    obtain ⟨j, hj, rfl, HB⟩ := hrel
    cases gk with
    | zero =>
      obtain rfl : j = n := by omega
      go_wp2
      go_ret
      exact ⟨rfl, HB.out⟩
    | succ k =>
      have hjl : j < l.length := by rw [HN.out]; omega
      have hjr : j < r.length := by rw [← HAL.out.1]; exact hjl
      obtain ⟨b1, o1, rfl⟩ := SP.lt H1.out (by rintro rfl; simp at hjl)
      obtain ⟨b2, o2, rfl⟩ := SP.lt H2.out (by rintro rfl; simp at hjr)
      have HC1 := hid' (fun W (hW : Below w.heap.size w W) => VP.at (SP.on H1.out hW) hjl)
      have HC2 := hid' (fun W (hW : Below w.heap.size w W) => VP.at (SP.on H2.out hW) hjr)
      have HCM := hid' (oCmp_alike (l.getD j d0) (r.getD j d0) (HAL.out.2 j hjl))
      generalize l.getD j d0 = x at *
      generalize r.getD j d0 = y at *
      clear hjl hjr
      go_wp2_with fail
      refine PQ.wp_region_quiet (orVal b1 o1 b2 o2 n ca cb j x y) (orInv w) mixed' (by kernel_rfl) ⟨HB.out.drew, trivial⟩ ?_ ?_
      · refine ⟨?_, ?_, ?_, ?_, ?_, ?_, ?_, ?_, ?_, ?_, trivial⟩
        · intro vs A W hI hC
          exact ⟨PB.wanted_free rfl, run_moveD W (hC.outer 0 rfl)⟩
        · intro vs A W hI hC
          exact ⟨PB.wanted_free rfl, run_moveD W (hC.outer 5 rfl)⟩
        · intro vs A W hI hC
          exact ⟨PB.wanted_free rfl, run_ixV W (hC.left 0 rfl) (hC.left 1 rfl) (by omega) (by omega)⟩
        · intro vs A W hI hC
          exact ⟨PB.wanted_free rfl, run_ldV W (hC.left 2 rfl) (HC1.out W hI.1)⟩
        · intro vs A W hI hC
          exact ⟨PB.wanted_free rfl, run_moveD W (hC.outer 1 rfl)⟩
        · intro vs A W hI hC
          exact ⟨PB.wanted_free rfl, run_moveD W (hC.outer 5 rfl)⟩
        · intro vs A W hI hC
          exact ⟨PB.wanted_free rfl, run_ixV W (hC.left 4 rfl) (hC.left 5 rfl) (by omega) (by omega)⟩
        · intro vs A W hI hC
          exact ⟨PB.wanted_free rfl, run_ldV W (hC.left 6 rfl) (HC2.out W hI.1)⟩
        · intro vs A W hk hI hC
          obtain rfl : vs = [] := List.length_eq_zero_iff.1 hk
          refine ⟨PB.wanted_free rfl, PQ.loud_call #[aV x, aV y] rfl Try.func75 rfl rfl ?_ ?_⟩
          · show [PB.slot A 22, PB.slot A 26] = _
            rw [show PB.slot A 22 = aV x from hC.left 3 rfl, show PB.slot A 26 = aV y from hC.left 7 rfl]
          · refine (HCM.out W).mono ?_
            rintro e W2 ⟨rfl, hb⟩
            exact ⟨_, rfl, bel_trans' hI.1 hb, rfl⟩
        · intro vs A W hk hI hC
          match vs, hk, hI, hC with
          | [p], _, hI, hC =>
            exact ⟨PB.wanted_free rfl, PQ.loud_value (run_assD W (hC.left 8 rfl)) ⟨hI.1, hI.2, hI.2⟩⟩
      · intro vs A W hk hI hE
        match vs, hk, hI, hE with
        | [p, q], _, hI, hE =>
          obtain ⟨hB, rfl, rfl⟩ := hI
          have HB2 := hid' hB
          clear hB
          have h_19 : PB.slot A 19 = .slice (some ⟨b1, o1, none⟩) n ca := hE.left 0
          have h_20 : PB.slot A 20 = .int .i64 (j : Int) := hE.left 1
          have h_21 : PB.slot A 21 = .pointer (some ⟨b1, o1 + j * 3, none⟩) := hE.left 2
          have h_22 : PB.slot A 22 = aV x := hE.left 3
          have h_23 : PB.slot A 23 = .slice (some ⟨b2, o2, none⟩) n cb := hE.left 4
          have h_24 : PB.slot A 24 = .int .i64 (j : Int) := hE.left 5
          have h_25 : PB.slot A 25 = .pointer (some ⟨b2, o2 + j * 3, none⟩) := hE.left 6
          have h_26 : PB.slot A 26 = aV y := hE.left 7
          have h_27 : PB.slot A 27 = .int .i64 0 := hE.left 8
          have h_6 : PB.slot A 6 = .int .i64 0 := hE.left 9
          have hA := PQ.frame_puts hE.defers hE.size [19, 20, 21, 22, 23, 24, 25, 26, 27, 6] (fun t ht => hE.outer t (by simp only [List.mem_cons, List.not_mem_nil, or_false, not_or] at ht; simp [PB.outer]; omega))
          obtain ⟨fr, hf⟩ : ∃ f, PB.slot A = f := ⟨_, rfl⟩
          rw [hA]
          simp only [PQ.puts]
          rw [hf] at h_19 h_20 h_21 h_22 h_23 h_24 h_25 h_26 h_27 h_6 ⊢
          clear hA hf hE
          simp only [h_19, h_20, h_21, h_22, h_23, h_24, h_25, h_26, h_27, h_6, Act.put, List.setIfInBounds_toArray, List.set_cons_succ, List.set_cons_zero]
          clear h_19 h_20 h_21 h_22 h_23 h_24 h_25 h_26 h_27 h_6
          clear HC1 HC2 HCM HB
          unfold aV
          go_wp2
          go_roundg k
          case measure => omega
          case rel => exact ⟨j + 1, by omega, by simp, HB2⟩

theorem oSame_alike (P Q : Nat → Prop) (w : World) (a b : Option Addr) (ca cb : Nat) (l r : List V) (h1 : VP P w a l) (h2 : VP Q w b r) (hal : AlR l r) (hl : l.length ≤ 1000) :
    Calls Try.prog 36 #[.slice a l.length ca, .slice b r.length cb] w fun e w' => e = .returned (.bool true) ∧ Below w.heap.size w w' := by
  have H := hid' (oOrder_alike P Q w a b ca cb l r h1 h2 hal hl)
  generalize l.length = n at *
  generalize r.length = m at *
  clear h1 h2 hal
  go_enter Try.func36, Try.ntmps36
  go_wp2_with fail
  refine H.out.mono ?_
  rintro e w1 ⟨rfl, hb⟩
  go_wp2
  go_ret
  exact ⟨rfl, hb⟩

end Go.Proofs.Ytgalmkhgbokidaa

namespace Go.Proofs.Ytgalmkhgbokidaa
open Go.RowKit Go.Proofs
set_option maxRecDepth 20000
set_option linter.unusedVariables false
set_option linter.unusedSimpArgs false

structure R6 (vals : Nat → Option Value) (xs ys : Array Value) (A0 : Act) (wc : World) (L : Nat → Bool) (A : Act) (w : World) : Prop where
  defers : A.defers = A0.defers
  size : A.tmps.size = A0.tmps.size
  oth : ∀ t, t ≠ 8 → t ≠ 9 → (t < 21 ∨ 29 ≤ t) → PB.slot A t = PB.slot A0 t
  below : Below wc.heap.size wc w
  vals : ∀ k v, vals k = some v → L k = true → PB.slot A (21 + k) = v
  p6 : L 8 = true → ∃ g c, PB.slot A 8 = ptr g ∧ wc.heap.size ≤ g ∧ Bx w g c 31 ∧ c.size = 9
  p7 : L 9 = true → ∃ g c, PB.slot A 9 = ptr g ∧ wc.heap.size ≤ g ∧ Bx w g c 31 ∧ c.size = 9
  apart : L 8 = true → L 9 = true → PB.slot A 8 ≠ PB.slot A 9
  c12 : L 10 = true → L 8 = true ∧ L 9 = true
  c13 : L 11 = true → L 8 = true ∧ L 9 = true
  b12 : L 10 = true → ∃ g, PB.slot A 8 = ptr g ∧ Bx w g xs 31
  b13 : L 11 = true → ∃ g, PB.slot A 9 = ptr g ∧ Bx w g ys 31

section
variable {vals : Nat → Option Value} {xs ys : Array Value} {A0 : Act} {wc : World} {L : Nat → Bool} {A : Act} {w w' : World}

theorem on_other {i k : Nat} (h : k ≠ i) : ((k == i) || L k) = L k := by simp [h]

theorem R6.pure (h : R6 vals xs ys A0 wc L A w) (h49 : 29 ≤ A0.tmps.size) {i : Nat} {v : Value} (hi : i < 8) (hv : vals i = some v) (hb : Below w.heap.size w w') : R6 vals xs ys A0 wc (fun k => k == i || L k) (A.put (some (21 + i)) v) w' := by
  have o : ∀ t, (t < 21 ∨ 29 ≤ t) → PB.slot (A.put (some (21 + i)) v) t = PB.slot A t := fun t ht => PB.slot_put_other _ _ _ _ (by omega)
  have hx : ∀ g c t, Bx w g c t → Bx w' g c t := fun g c t hg => hg.keep hb
  refine ⟨h.defers, by simp [Act.put, h.size], fun t h6 h7 ht => (o t ht).trans (h.oth t h6 h7 ht), h.below.trans (hb.mono h.below.size), fun k u hu hk => ?_, ?_, ?_, ?_, ?_, ?_, ?_, ?_⟩
  · by_cases e : k = i
    · subst e
      rw [hv] at hu; cases hu
      exact PB.slot_put_same _ _ _ (by rw [h.size]; omega)
    · rw [PB.slot_put_other _ _ _ _ (by omega)]
      exact h.vals k u hu (by simpa [e] using hk)
  all_goals simp only [on_other (show (8 : Nat) ≠ i by omega), on_other (show (9 : Nat) ≠ i by omega), on_other (show (10 : Nat) ≠ i by omega), on_other (show (11 : Nat) ≠ i by omega), o 8 (by omega), o 9 (by omega)]
  · intro hl; obtain ⟨g, c, h1, h2, h3, h4⟩ := h.p6 hl; exact ⟨g, c, h1, h2, hx g c _ h3, h4⟩
  · intro hl; obtain ⟨g, c, h1, h2, h3, h4⟩ := h.p7 hl; exact ⟨g, c, h1, h2, hx g c _ h3, h4⟩
  · exact h.apart
  · exact h.c12
  · exact h.c13
  · intro hl; obtain ⟨g, h1, h3⟩ := h.b12 hl; exact ⟨g, h1, hx g _ _ h3⟩
  · intro hl; obtain ⟨g, h1, h3⟩ := h.b13 hl; exact ⟨g, h1, hx g _ _ h3⟩

/-- A command's zero. -/
def z9 : Array Value := cmA c0 s0

theorem R6.new6 (h : R6 vals xs ys A0 wc L A w) (h49 : 29 ≤ A0.tmps.size) (hv : ∀ k v, vals k = some v → k < 8) (hl : L 8 = false) : R6 vals xs ys A0 wc (fun k => k == 8 || L k) (A.put (some 8) (ptr w.heap.size)) (w.alloc (.cells z9 31)) := by
  have hb : Below w.heap.size w (w.alloc (.cells z9 31)) := (Below.refl _ w).alloc (Nat.le_refl _) _
  have o : ∀ t, t ≠ 8 → PB.slot (A.put (some 8) (ptr w.heap.size)) t = PB.slot A t := fun t ht => PB.slot_put_other _ _ _ _ ht
  have s : PB.slot (A.put (some 8) (ptr w.heap.size)) 8 = ptr w.heap.size := PB.slot_put_same _ _ _ (by rw [h.size]; omega)
  have n12 : L 10 = false := by
    rcases Bool.eq_false_or_eq_true (L 10) with h' | h'
    · have := (h.c12 h').1; rw [hl] at this; cases this
    · exact h'
  have n13 : L 11 = false := by
    rcases Bool.eq_false_or_eq_true (L 11) with h' | h'
    · have := (h.c13 h').1; rw [hl] at this; cases this
    · exact h'
  refine ⟨h.defers, by simp [Act.put, h.size], fun t h6 h7 ht => (o t h6).trans (h.oth t h6 h7 ht), h.below.alloc h.below.size _, fun k u hu hk => ?_, fun _ => ⟨w.heap.size, z9, s, h.below.size, Bx.new _ _ _, rfl⟩, fun h7 => ?_, fun _ h7 => ?_, fun h8 => ?_, fun h9 => ?_, fun h8 => ?_, fun h9 => ?_⟩
  · have hk10 := hv k u hu
    have hk6 : k ≠ 8 := by omega
    rw [o _ (by omega)]
    exact h.vals k u hu (by simpa [hk6] using hk)
  · simp at h7
    obtain ⟨g, c, h1, h2, h3, h4⟩ := h.p7 h7
    exact ⟨g, c, (o 9 (by omega)).trans h1, h2, h3.keep hb, h4⟩
  · simp at h7
    obtain ⟨g, c, h1, h2, h3, h4⟩ := h.p7 h7
    rw [s, o 9 (by omega), h1]
    intro e
    have := ptr_inj e
    have := h3.lt
    omega
  · simp [n12] at h8
  · simp [n13] at h9
  · simp [n12] at h8
  · simp [n13] at h9

theorem R6.new7 (h : R6 vals xs ys A0 wc L A w) (h49 : 29 ≤ A0.tmps.size) (hv : ∀ k v, vals k = some v → k < 8) (hl : L 9 = false) : R6 vals xs ys A0 wc (fun k => k == 9 || L k) (A.put (some 9) (ptr w.heap.size)) (w.alloc (.cells z9 31)) := by
  have hb : Below w.heap.size w (w.alloc (.cells z9 31)) := (Below.refl _ w).alloc (Nat.le_refl _) _
  have o : ∀ t, t ≠ 9 → PB.slot (A.put (some 9) (ptr w.heap.size)) t = PB.slot A t := fun t ht => PB.slot_put_other _ _ _ _ ht
  have s : PB.slot (A.put (some 9) (ptr w.heap.size)) 9 = ptr w.heap.size := PB.slot_put_same _ _ _ (by rw [h.size]; omega)
  have n12 : L 10 = false := by
    rcases Bool.eq_false_or_eq_true (L 10) with h' | h'
    · have := (h.c12 h').2; rw [hl] at this; cases this
    · exact h'
  have n13 : L 11 = false := by
    rcases Bool.eq_false_or_eq_true (L 11) with h' | h'
    · have := (h.c13 h').2; rw [hl] at this; cases this
    · exact h'
  refine ⟨h.defers, by simp [Act.put, h.size], fun t h6 h7 ht => (o t h7).trans (h.oth t h6 h7 ht), h.below.alloc h.below.size _, fun k u hu hk => ?_, fun h6 => ?_, fun _ => ⟨w.heap.size, z9, s, h.below.size, Bx.new _ _ _, rfl⟩, fun h6 _ => ?_, fun h8 => ?_, fun h9 => ?_, fun h8 => ?_, fun h9 => ?_⟩
  · have hk10 := hv k u hu
    have hk6 : k ≠ 9 := by omega
    rw [o _ (by omega)]
    exact h.vals k u hu (by simpa [hk6] using hk)
  · simp at h6
    obtain ⟨g, c, h1, h2, h3, h4⟩ := h.p6 h6
    exact ⟨g, c, (o 8 (by omega)).trans h1, h2, h3.keep hb, h4⟩
  · simp at h6
    obtain ⟨g, c, h1, h2, h3, h4⟩ := h.p6 h6
    rw [s, o 8 (by omega), h1]
    intro e
    have := ptr_inj e
    have := h3.lt
    omega
  · simp [n12] at h8
  · simp [n13] at h9
  · simp [n12] at h8
  · simp [n13] at h9

theorem R6.store12 (h : R6 vals xs ys A0 wc L A w) (hv : ∀ k v, vals k = some v → k < 8) (h10 : L 8 = true) (h11 : L 9 = true) {g : Nat} {c : Array Value} (hs : PB.slot A 8 = ptr g) (hg : wc.heap.size ≤ g) (hb : Bx w g c 31) (h9 : xs.size = 9) : R6 vals xs ys A0 wc (fun k => k == 10 || L k) A (w.setRow g xs) := by
  refine ⟨h.defers, h.size, h.oth, below_setRow h.below hg _, fun k u hu hk => ?_, fun _ => ⟨g, xs, hs, hg, hb.set, h9⟩, fun _ => ?_, fun _ _ => h.apart h10 h11, fun _ => ⟨by simp [h10], by simp [h11]⟩, fun _ => ⟨by simp [h10], by simp [h11]⟩, fun _ => ⟨g, hs, hb.set⟩, fun h9 => ?_⟩
  · have hk10 := hv k u hu
    have hk6 : k ≠ 10 := by omega
    exact h.vals k u hu (by simpa [hk6] using hk)
  · obtain ⟨g', c', h1, h2, h3, h4⟩ := h.p7 h11
    refine ⟨g', c', h1, h2, h3.other (fun e => ?_), h4⟩
    subst e
    exact h.apart h10 h11 (by rw [hs, h1])
  · simp at h9
    obtain ⟨g', h1, h3⟩ := h.b13 h9
    refine ⟨g', h1, h3.other (fun e => ?_)⟩
    subst e
    exact h.apart h10 h11 (by rw [hs, h1])

theorem R6.store13 (h : R6 vals xs ys A0 wc L A w) (hv : ∀ k v, vals k = some v → k < 8) (h10 : L 8 = true) (h11 : L 9 = true) {g : Nat} {c : Array Value} (hs : PB.slot A 9 = ptr g) (hg : wc.heap.size ≤ g) (hb : Bx w g c 31) (h9 : ys.size = 9) : R6 vals xs ys A0 wc (fun k => k == 11 || L k) A (w.setRow g ys) := by
  refine ⟨h.defers, h.size, h.oth, below_setRow h.below hg _, fun k u hu hk => ?_, fun _ => ?_, fun _ => ⟨g, ys, hs, hg, hb.set, h9⟩, fun _ _ => h.apart h10 h11, fun _ => ⟨by simp [h10], by simp [h11]⟩, fun _ => ⟨by simp [h10], by simp [h11]⟩, fun h8 => ?_, fun _ => ⟨g, hs, hb.set⟩⟩
  · have hk10 := hv k u hu
    have hk6 : k ≠ 11 := by omega
    exact h.vals k u hu (by simpa [hk6] using hk)
  · obtain ⟨g', c', h1, h2, h3, h4⟩ := h.p6 h10
    refine ⟨g', c', h1, h2, h3.other (fun e => ?_), h4⟩
    subst e
    exact h.apart h10 h11 (by rw [hs, h1])
  · simp at h8
    obtain ⟨g', h1, h3⟩ := h.b12 h8
    refine ⟨g', h1, h3.other (fun e => ?_)⟩
    subst e
    exact h.apart h10 h11 (by rw [hs, h1])
end

section
variable {a : Act} {t u c : Nat} {dst : Option Tmp} {ty : TypeId} {pos : String} {aft : Array Edge} {guard : Option (Nat × Bool)}

theorem run_allocNd (w : World) : (execOp a.eval { dst := dst, op := .alloc 31, type := ty, pos := pos, after := aft, guard := guard }).run Try.prog w = .ok (.value (ptr w.heap.size)) (w.alloc (.cells z9 31)) := by
  unfold ptr z9 cmA c0 s0
  go_simp

theorem run_ixK {b off n cap i : Nat} (w : World) (h : PB.slot a t = .slice (some ⟨b, off, none⟩) n cap) (h' : PB.slot a u = .int .i64 (i : Int)) (hi : i < n) (hn : n ≤ 1000000000) :
    (execOp a.eval { dst := dst, op := .indexAddr 33 (.tmp t) (.tmp u), type := ty, pos := pos, after := aft, guard := guard }).run Try.prog w = .ok (.value (.pointer (some ⟨b, off + i * 9, none⟩))) w := by
  have h1 : a.tmps[t]?.getD undef = .slice (some ⟨b, off, none⟩) n cap := by rw [← Array.getD_eq_getD_getElem?]; exact h
  have h2 : a.tmps[u]?.getD undef = .int .i64 (i : Int) := by rw [← Array.getD_eq_getD_getElem?]; exact h'
  go_simp

theorem run_storeNd {g : Nat} {cells old : Array Value} (w : World) (h : PB.slot a t = ptr g) (h' : PB.slot a u = .agg cells) (hg : Bx w g old 31) (ho : old.size = 9) (h9 : cells.size = 9) (h1 : cells.all (·.oneCell') = true) :
    (execOp a.eval { dst := dst, op := .store 31 (.tmp t) (.tmp u), type := ty, pos := pos, after := aft, guard := guard }).run Try.prog w = .ok .skip (w.setRow g cells) := by
  have e1 : a.tmps[t]?.getD undef = ptr g := by rw [← Array.getD_eq_getD_getElem?]; exact h
  have e2 : a.tmps[u]?.getD undef = .agg cells := by rw [← Array.getD_eq_getD_getElem?]; exact h'
  have hrun := run_storeVar_row (P := Try.prog) w g 31 31 old cells hg (by rw [h9]; kernel_rfl) (by rw [ho, h9]) h1
  unfold ptr at e1
  simp [execOp, Act.eval, e1, e2, Instr.storeAt, Instr.sureAddr, hrun]
end

end Go.Proofs.Ytgalmkhgbokidaa

namespace Go.Proofs.Ytgalmkhgbokidaa
open Go.RowKit Go.Proofs
set_option maxRecDepth 20000
set_option linter.unusedVariables false
set_option linter.unusedSimpArgs false

/-- Where the lists of what a command uses lie. -/
def plainS (c : Cm) (s : CmS) : CmS := ⟨if c.op = 1 then s.ra else none, if c.op = 1 then s.rc else 0, if c.op = 2 ∨ c.op = 4 then s.fa else none, if c.op = 2 ∨ c.op = 4 then s.fc else 0, if c.op = 0 then s.sa else none, if c.op = 0 then s.sc else 0⟩

theorem CmR.plain {P : Nat → Prop} {w : World} {c : Cm} {s : CmS} (h : CmR P w c s) : CmR P w (plain c) (plainS c s) := by
  unfold Go.Proofs.Ytgalmkhgbokidaa.plain plainS
  refine ⟨?_, ?_, ?_, ?_, ?_, ?_, ?_⟩ <;> simp only
  · split
    · exact h.row
    · exact SP.nil _ _ _
  · split
    · exact h.front
    · exact SP.nil _ _ _
  · split
    · exact h.sheet
    · exact SP.nil _ _ _
  · split
    · exact h.byt
    · exact Byt.nil
  · split
    · exact h.hr
    · exact Sh.nil
  · split
    · exact h.hf
    · exact Sh.nil
  · split
    · exact h.hs
    · exact Sh.nil

set_option maxHeartbeats 8000000 in
theorem rPlain_any (w : World) (c : Cm) (s : CmS) : Calls Try.prog 16 #[cmV c s] w fun e w' => e = .returned (cmV (plain c) (plainS c s)) ∧ Below w.heap.size w w' := by
  obtain ⟨op, node, row, ⟨t1, t2⟩, diff, front, fuel, sheet⟩ := c
  obtain ⟨ra, rc, fa, fc, sa, sc⟩ := s
  have hB : ∀ x y z, Below w.heap.size w (((w.alloc x).alloc y).alloc z) := fun x y z => bel_alloc (bel_alloc ((Below.refl _ _).alloc (Nat.le_refl _) x) y) z
  by_cases h0 : op = 0
  · subst h0
    have E : cmV (plain ⟨0, node, row, (t1, t2), diff, front, fuel, sheet⟩) (plainS ⟨0, node, row, (t1, t2), diff, front, fuel, sheet⟩ ⟨ra, rc, fa, fc, sa, sc⟩) = .agg #[.int .i64 0, .int .i64 0, .slice none 0 0, .int .i64 0, .int .i64 0, .int .i64 0, .slice none 0 0, .int .i64 0, .slice sa sheet.length sc] := by simp [cmV, cmA, plain, plainS]
    rw [E]
    unfold cmV cmA
    simp only
    generalize row.length = rn at *
    generalize front.length = fn at *
    generalize sheet.length = sn at *
    clear E
    go_enter Try.func16, Try.ntmps16
    go_wp2
    refine bodyPost_ret (v := .agg #[.int .i64 0, .int .i64 0, .slice none 0 0, .int .i64 0, .int .i64 0, .int .i64 0, .slice none 0 0, .int .i64 0, .slice sa sn sc]) ?_ rfl ⟨rfl, hB _ _ _⟩
    unfold results
    go_simp
  by_cases h1 : op = 1
  · subst h1
    have E : cmV (plain ⟨1, node, row, (t1, t2), diff, front, fuel, sheet⟩) (plainS ⟨1, node, row, (t1, t2), diff, front, fuel, sheet⟩ ⟨ra, rc, fa, fc, sa, sc⟩) = .agg #[.int .i64 1, .int .i64 node, .slice ra row.length rc, .int .i64 t1, .int .i64 t2, .int .i64 diff, .slice none 0 0, .int .i64 0, .slice none 0 0] := by simp [cmV, cmA, plain, plainS]
    rw [E]
    unfold cmV cmA
    simp only
    generalize row.length = rn at *
    generalize front.length = fn at *
    generalize sheet.length = sn at *
    clear E
    go_enter Try.func16, Try.ntmps16
    go_wp2
    refine bodyPost_ret (v := .agg #[.int .i64 1, .int .i64 node, .slice ra rn rc, .int .i64 t1, .int .i64 t2, .int .i64 diff, .slice none 0 0, .int .i64 0, .slice none 0 0]) ?_ rfl ⟨rfl, hB _ _ _⟩
    unfold results
    go_simp
  by_cases h2 : op = 2
  · subst h2
    have E : cmV (plain ⟨2, node, row, (t1, t2), diff, front, fuel, sheet⟩) (plainS ⟨2, node, row, (t1, t2), diff, front, fuel, sheet⟩ ⟨ra, rc, fa, fc, sa, sc⟩) = .agg #[.int .i64 2, .int .i64 node, .slice none 0 0, .int .i64 0, .int .i64 0, .int .i64 0, .slice fa front.length fc, .int .i64 0, .slice none 0 0] := by simp [cmV, cmA, plain, plainS]
    rw [E]
    unfold cmV cmA
    simp only
    generalize row.length = rn at *
    generalize front.length = fn at *
    generalize sheet.length = sn at *
    clear E
    go_enter Try.func16, Try.ntmps16
    go_wp2
    refine bodyPost_ret (v := .agg #[.int .i64 2, .int .i64 node, .slice none 0 0, .int .i64 0, .int .i64 0, .int .i64 0, .slice fa fn fc, .int .i64 0, .slice none 0 0]) ?_ rfl ⟨rfl, hB _ _ _⟩
    unfold results
    go_simp
  by_cases h3 : op = 3
  · subst h3
    have E : cmV (plain ⟨3, node, row, (t1, t2), diff, front, fuel, sheet⟩) (plainS ⟨3, node, row, (t1, t2), diff, front, fuel, sheet⟩ ⟨ra, rc, fa, fc, sa, sc⟩) = .agg #[.int .i64 3, .int .i64 node, .slice none 0 0, .int .i64 0, .int .i64 0, .int .i64 0, .slice none 0 0, .int .i64 fuel, .slice none 0 0] := by simp [cmV, cmA, plain, plainS]
    rw [E]
    unfold cmV cmA
    simp only
    generalize row.length = rn at *
    generalize front.length = fn at *
    generalize sheet.length = sn at *
    clear E
    go_enter Try.func16, Try.ntmps16
    go_wp2
    refine bodyPost_ret (v := .agg #[.int .i64 3, .int .i64 node, .slice none 0 0, .int .i64 0, .int .i64 0, .int .i64 0, .slice none 0 0, .int .i64 fuel, .slice none 0 0]) ?_ rfl ⟨rfl, hB _ _ _⟩
    unfold results
    go_simp
  by_cases h4 : op = 4
  · subst h4
    have E : cmV (plain ⟨4, node, row, (t1, t2), diff, front, fuel, sheet⟩) (plainS ⟨4, node, row, (t1, t2), diff, front, fuel, sheet⟩ ⟨ra, rc, fa, fc, sa, sc⟩) = .agg #[.int .i64 4, .int .i64 node, .slice none 0 0, .int .i64 0, .int .i64 0, .int .i64 0, .slice fa front.length fc, .int .i64 0, .slice none 0 0] := by simp [cmV, cmA, plain, plainS]
    rw [E]
    unfold cmV cmA
    simp only
    generalize row.length = rn at *
    generalize front.length = fn at *
    generalize sheet.length = sn at *
    clear E
    go_enter Try.func16, Try.ntmps16
    go_wp2
    refine bodyPost_ret (v := .agg #[.int .i64 4, .int .i64 node, .slice none 0 0, .int .i64 0, .int .i64 0, .int .i64 0, .slice fa fn fc, .int .i64 0, .slice none 0 0]) ?_ rfl ⟨rfl, hB _ _ _⟩
    unfold results
    go_simp
  by_cases h5 : op = 5
  · subst h5
    have E : cmV (plain ⟨5, node, row, (t1, t2), diff, front, fuel, sheet⟩) (plainS ⟨5, node, row, (t1, t2), diff, front, fuel, sheet⟩ ⟨ra, rc, fa, fc, sa, sc⟩) = .agg #[.int .i64 5, .int .i64 node, .slice none 0 0, .int .i64 t1, .int .i64 t2, .int .i64 0, .slice none 0 0, .int .i64 0, .slice none 0 0] := by simp [cmV, cmA, plain, plainS]
    rw [E]
    unfold cmV cmA
    simp only
    generalize row.length = rn at *
    generalize front.length = fn at *
    generalize sheet.length = sn at *
    clear E
    go_enter Try.func16, Try.ntmps16
    go_wp2
    refine bodyPost_ret (v := .agg #[.int .i64 5, .int .i64 node, .slice none 0 0, .int .i64 t1, .int .i64 t2, .int .i64 0, .slice none 0 0, .int .i64 0, .slice none 0 0]) ?_ rfl ⟨rfl, hB _ _ _⟩
    unfold results
    go_simp
  by_cases h6 : op = 6
  · subst h6
    have E : cmV (plain ⟨6, node, row, (t1, t2), diff, front, fuel, sheet⟩) (plainS ⟨6, node, row, (t1, t2), diff, front, fuel, sheet⟩ ⟨ra, rc, fa, fc, sa, sc⟩) = .agg #[.int .i64 6, .int .i64 node, .slice none 0 0, .int .i64 0, .int .i64 0, .int .i64 0, .slice none 0 0, .int .i64 0, .slice none 0 0] := by simp [cmV, cmA, plain, plainS]
    rw [E]
    unfold cmV cmA
    simp only
    generalize row.length = rn at *
    generalize front.length = fn at *
    generalize sheet.length = sn at *
    clear E
    go_enter Try.func16, Try.ntmps16
    go_wp2
    refine bodyPost_ret (v := .agg #[.int .i64 6, .int .i64 node, .slice none 0 0, .int .i64 0, .int .i64 0, .int .i64 0, .slice none 0 0, .int .i64 0, .slice none 0 0]) ?_ rfl ⟨rfl, hB _ _ _⟩
    unfold results
    go_simp
  have b0 : (op == 0) = false := by simpa using h0
  have b1 : (op == 1) = false := by simpa using h1
  have b2 : (op == 2) = false := by simpa using h2
  have b3 : (op == 3) = false := by simpa using h3
  have b4 : (op == 4) = false := by simpa using h4
  have b5 : (op == 5) = false := by simpa using h5
  have hin : ¬ (1 ≤ op ∧ op ≤ 6) := by omega
  have E : cmV (plain ⟨op, node, row, (t1, t2), diff, front, fuel, sheet⟩) (plainS ⟨op, node, row, (t1, t2), diff, front, fuel, sheet⟩ ⟨ra, rc, fa, fc, sa, sc⟩) = .agg #[.int .i64 op, .int .i64 0, .slice none 0 0, .int .i64 0, .int .i64 0, .int .i64 0, .slice none 0 0, .int .i64 0, .slice none 0 0] := by simp [cmV, cmA, plain, plainS, h0, h1, h2, h3, h4, h5, hin]
  rw [E]
  unfold cmV cmA
  simp only
  generalize row.length = rn at *
  generalize front.length = fn at *
  generalize sheet.length = sn at *
  clear E
  by_cases hlo : 1 ≤ op
  · have hhi : ¬ op ≤ 6 := by omega
    clear h0 h1 h2 h3 h4 h5 h6 hin
    go_enter Try.func16, Try.ntmps16
    go_wp2
    refine bodyPost_ret (v := .agg #[.int .i64 op, .int .i64 0, .slice none 0 0, .int .i64 0, .int .i64 0, .int .i64 0, .slice none 0 0, .int .i64 0, .slice none 0 0]) ?_ rfl ⟨rfl, hB _ _ _⟩
    unfold results
    go_simp
  · clear h0 h1 h2 h3 h4 h5 h6 hin
    go_enter Try.func16, Try.ntmps16
    go_wp2
    refine bodyPost_ret (v := .agg #[.int .i64 op, .int .i64 0, .slice none 0 0, .int .i64 0, .int .i64 0, .int .i64 0, .slice none 0 0, .int .i64 0, .slice none 0 0]) ?_ rfl ⟨rfl, hB _ _ _⟩
    unfold results
    go_simp

set_option maxHeartbeats 8000000 in
theorem rGet_any (w : World) (ba : Option Addr) (cap : Nat) (l : List Int) (at' : Int) (hb : Bts w.heap.size w ba l) (hc : l.length ≤ cap) (hl : l.length ≤ 1000000000) :
    Calls Try.prog 19 #[.slice ba l.length cap, .int .i64 at'] w (GAns cmdB Nice RepC c0 l at' w) := by
  have BA : Below w.heap.size w (w.alloc (.cells (cmA c0 s0) 31)) := (Below.refl _ _).alloc (Nat.le_refl _) _
  by_cases hout : at' < 0 ∨ (l.length : Int) < at'
  · have HZ : Hid (GAns cmdB Nice RepC c0 l at' w (.returned (.tuple #[cmV c0 s0, .int .i64 0, .int .i64 9])) (w.alloc (.cells (cmA c0 s0) 31))) := ⟨c0, _, 0, 9, rfl, RepC.zero _ _, BA, .inl ⟨hout, rfl, rfl, rfl⟩⟩
    unfold cmV cmA c0 s0 at HZ
    simp only [List.length_nil] at HZ
    generalize l.length = ln at *
    clear hb BA
    rcases hout with h | h
    · go_enter Try.func19, Try.ntmps19
      go_wp2
      refine bodyPost_ret (v := .tuple #[.agg #[.int .i64 0, .int .i64 0, .slice none 0 0, .int .i64 0, .int .i64 0, .int .i64 0, .slice none 0 0, .int .i64 0, .slice none 0 0], .int .i64 0, .int .i64 9]) ?_ rfl HZ.out
      unfold results
      go_simp
    · have hneg : ¬ at' < 0 := by omega
      go_enter Try.func19, Try.ntmps19
      go_wp2
      refine bodyPost_ret (v := .tuple #[.agg #[.int .i64 0, .int .i64 0, .slice none 0 0, .int .i64 0, .int .i64 0, .int .i64 0, .slice none 0 0, .int .i64 0, .slice none 0 0], .int .i64 0, .int .i64 9]) ?_ rfl HZ.out
      unfold results
      go_simp
  · obtain ⟨at0, rfl⟩ := Int.eq_ofNat_of_zero_le (show 0 ≤ at' by omega)
    have hat : at0 ≤ l.length := by omega
    have hh1 : ¬ (at0 : Int) < 0 := by omega
    have hh2 : ¬ (l.length : Int) < (at0 : Int) := by omega
    have HNO : Hid ((∀ y r, Nice y → l.drop at0 ≠ cmdB y ++ r) → GAns cmdB Nice RepC c0 l (at0 : Int) w (.returned (.tuple #[cmV c0 s0, .int .i64 0, .int .i64 6])) (w.alloc (.cells (cmA c0 s0) 31))) := fun h => fin_no (c := c0) hat h BA
    by_cases he : at0 = l.length
    · have HZ := hid' (HNO.out (fun y r _ e => by rw [he, List.drop_length] at e; simp [cmdB] at e))
      have he' : (at0 : Int) = (l.length : Int) := by omega
      unfold cmV cmA c0 s0 at HZ
      simp only [List.length_nil] at HZ
      clear HNO hb BA hat
      subst he
      generalize l.length = ln at *
      go_enter Try.func19, Try.ntmps19
      go_wp2
      refine bodyPost_ret (v := .tuple #[.agg #[.int .i64 0, .int .i64 0, .slice none 0 0, .int .i64 0, .int .i64 0, .int .i64 0, .slice none 0 0, .int .i64 0, .slice none 0 0], .int .i64 0, .int .i64 6]) ?_ rfl HZ.out
      unfold results
      go_simp
    · have hlt : at0 < l.length := by omega
      by_cases hd : l.getD at0 0 ≤ 6
      · have h0 := (hb.range _ (getD_mem (d := 0) hlt)).1
        rcases op_cases h0 hd with h | h | h | h | h | h | h
        · exact rGet0 w ba cap l at0 hb hlt h hc hl
        · exact rGet1 w ba cap l at0 hb hlt h hc hl
        · exact rGet2 w ba cap l at0 hb hlt h hc hl
        · exact rGet3 w ba cap l at0 hb hlt h hc hl
        · exact rGet4 w ba cap l at0 hb hlt h hc hl
        · exact rGet5 w ba cap l at0 hb hlt h hc hl
        · exact rGet6 w ba cap l at0 hb hlt h hc hl
      · obtain ⟨b, off, hba, hcell, g0, g1⟩ := hb.byte hlt
        have hbl : b < w.heap.size := by
          obtain ⟨b', off', e', hb', _⟩ := hb.cells (by rintro rfl; simp at hlt)
          rw [hba] at e'; cases e'; exact hb'
        have hcell0 : (w.alloc (.cells (cmA c0 s0) 31)).cell? ⟨b, off + at0, none⟩ = some (.int .u8 (l.getD at0 0)) := (BA.cell (p := ⟨b, off + at0, none⟩) hbl).trans hcell
        have HZ := hid' (HNO.out (fun y r hy e => by
          rw [drop_byte hlt] at e
          simp only [cmdB, List.cons_append, List.cons.injEq] at e
          have := hy.hi
          omega))
        have hd' : 6 < l.getD at0 0 := by omega
        have hh3 : ¬ (at0 : Int) = (l.length : Int) := by omega
        unfold cmV cmA c0 s0 at HZ
        unfold cmA c0 s0 at hcell0
        simp only [List.length_nil] at HZ hcell0
        clear HNO hb BA hat hcell hd
        subst hba
        generalize l.getD at0 0 = d at *
        generalize l.length = ln at *
        go_enter Try.func19, Try.ntmps19
        go_wp2
        refine bodyPost_ret (v := .tuple #[.agg #[.int .i64 0, .int .i64 0, .slice none 0 0, .int .i64 0, .int .i64 0, .int .i64 0, .slice none 0 0, .int .i64 0, .slice none 0 0], .int .i64 0, .int .i64 6]) ?_ rfl HZ.out
        unfold results
        go_simp

end Go.Proofs.Ytgalmkhgbokidaa
