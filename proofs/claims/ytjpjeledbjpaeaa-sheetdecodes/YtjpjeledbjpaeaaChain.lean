/-
  What is proved here: what holds while the statement b = append(append(b, x..), y..) goes on, whose loads may come in any order: the calls and appends come one behind the other.
-/
import Derived.Test.YtjpjeledbjpaeaaRChk2
import Derived.Test.YtjpjeledbjpaeaaReg6
namespace Go.Proofs.Ytjpjeledbjpaeaa
open Go.RowKit Go.Proofs
set_option maxRecDepth 20000
set_option linter.unusedVariables false
set_option linter.unusedSimpArgs false

/-- The bytes behind the first r appends. -/
def pre (l : List Int) (xs : Nat → List Int) : Nat → List Int
  | 0 => l
  | r + 1 => pre l xs r ++ xs r

/-- New bytes. -/
def NewB (r : List Int) (v : Value) (w : World) : Prop := ∃ g c, v = .slice (some ⟨g, 0, none⟩) r.length c ∧ g < w.heap.size ∧ ∀ j u, (B8 r)[j]? = some u → w.cell? ((⟨g, 0, none⟩ : Addr).add j) = some u

structure RC (S m D : Nat) (u : Value) (base : Nat) (l : List Int) (xs : Nat → List Int) (pv : Nat → Option Value) (A0 : Act) (wc : World) (L : Nat → Bool) (A : Act) (w : World) : Prop where
  defers : A.defers = A0.defers
  size : A.tmps.size = A0.tmps.size
  oth : ∀ t, t ≠ D → (t < S ∨ S + 4 * m < t) → PB.slot A t = PB.slot A0 t
  kb : Kb base wc w
  pure : ∀ k v, pv k = some v → L k = true → PB.slot A (S + k) = v
  st : ∃ (r : Nat) (c : Bool), r ≤ m ∧ (c = true → r < m) ∧ (∀ q, q < m → (L (4 * q + 4) = true ↔ q < r)) ∧ (∀ q, q < m → (L (4 * q + 3) = true ↔ q < r ∨ (q = r ∧ c = true))) ∧
    Own base w (if r = 0 then u else PB.slot A (S + 4 * r)) (pre l xs r) ∧ (c = true → NewB (xs r) (PB.slot A (S + (4 * r + 3))) w)
  fin : L (4 * m + 1) = true → PB.slot A D = (if m = 0 then u else PB.slot A (S + 4 * m))
  last : L (4 * m + 1) = true → ∀ q, q < m → L (4 * q + 4) = true
  zero : L (4 * m + 1) = true → L 0 = true
  dD : L (4 * m + 1) = false → PB.slot A D = PB.slot A0 D

section
variable {S m D : Nat} {u : Value} {base : Nat} {l : List Int} {xs : Nat → List Int} {pv : Nat → Option Value} {A0 : Act} {wc : World} {L : Nat → Bool} {A : Act} {w w' : World}

theorem onl {i k : Nat} (h : k ≠ i) : ((k == i) || L k) = L k := by simp [h]

/-- What the frame must allow. -/
structure Fits (S m D : Nat) (A0 : Act) : Prop where
  room : S + 4 * m < A0.tmps.size
  dlt : D < A0.tmps.size
  dout : D < S ∨ S + 4 * m < D
  some : 0 < m

theorem RC.pureS (h : RC S m D u base l xs pv A0 wc L A w) (hF : Fits S m D A0) {i : Nat} {v : Value} (hi : i = 0 ∨ (i < 4 * m ∧ (i % 4 = 1 ∨ i % 4 = 2))) (hv : pv i = some v) : RC S m D u base l xs pv A0 wc (fun k => k == i || L k) (A.put (some (S + i)) v) w := by
  have hr := hF.room
  have hm := hF.some
  have hd := hF.dout
  have o : ∀ t, t ≠ S + i → PB.slot (A.put (some (S + i)) v) t = PB.slot A t := fun t ht => PB.slot_put_other _ _ _ _ ht
  refine ⟨h.defers, by simp [Act.put, h.size], fun t hD ht => ?_, h.kb, fun k y hy hk => ?_, ?_, fun hl => ?_, fun hl q hq => ?_, fun hl => ?_, fun hl => ?_⟩
  · rw [o t (by omega)]; exact h.oth t hD ht
  · by_cases e : k = i
    · subst e
      rw [hv] at hy; cases hy
      exact PB.slot_put_same _ _ _ (by rw [h.size]; omega)
    · rw [o _ (by omega)]
      exact h.pure k y hy (by simpa [e] using hk)
  · obtain ⟨r, c, h1, h2, h3, h4, h5, h6⟩ := h.st
    refine ⟨r, c, h1, h2, fun q hq => ?_, fun q hq => ?_, ?_, fun hc => ?_⟩
    · rw [onl (by omega)]; exact h3 q hq
    · rw [onl (by omega)]; exact h4 q hq
    · by_cases e : r = 0
      · subst e; simpa using h5
      · rw [if_neg e, o _ (by omega)]
        rw [if_neg e] at h5
        exact h5
    · have := h2 hc
      rw [o _ (by omega)]; exact h6 hc
  · rw [onl (by omega)] at hl
    have e : ¬ m = 0 := by omega
    rw [if_neg e, o D (by omega), o _ (by omega), h.fin hl, if_neg e]
  · rw [onl (by omega)] at hl ⊢
    exact h.last hl q hq
  · rw [onl (by omega)] at hl
    simp [h.zero hl]
  · rw [onl (by omega)] at hl
    rw [o D (by omega)]; exact h.dD hl

theorem RC.callS (h : RC S m D u base l xs pv A0 wc L A w) (hF : Fits S m D A0) (hpv : ∀ k v, pv k = some v → k = 0 ∨ (k < 4 * m ∧ (k % 4 = 1 ∨ k % 4 = 2))) {r : Nat} {v : Value} (hr : r < m) (hl : L (4 * r + 3) = false) (hp : r = 0 ∨ L (4 * r) = true) (hb : Below w.heap.size w w') (hv : NewB (xs r) v w') : RC S m D u base l xs pv A0 wc (fun k => k == (4 * r + 3) || L k) (A.put (some (S + (4 * r + 3))) v) w' := by
  have hrm := hF.room
  have hd := hF.dout
  have o : ∀ t, t ≠ S + (4 * r + 3) → PB.slot (A.put (some (S + (4 * r + 3))) v) t = PB.slot A t := fun t ht => PB.slot_put_other _ _ _ _ ht
  obtain ⟨r', c, h1, h2, h3, h4, h5, h6⟩ := h.st
  have hr' : r' = r := by
    have a : ¬ r < r' := fun hh => by
      have := (h4 r hr).2 (.inl hh)
      rw [hl] at this; cases this
    have b : r ≤ r' := by
      rcases hp with hp | hp
      · omega
      · rcases Nat.eq_zero_or_pos r with h0 | h0
        · omega
        · have := (h3 (r - 1) (by omega)).1 (by rw [show 4 * (r - 1) + 4 = 4 * r by omega]; exact hp)
          omega
    omega
  subst hr'
  have hc : c = false := by
    cases c with
    | false => rfl
    | true =>
      have := (h4 r' hr).2 (.inr ⟨rfl, rfl⟩)
      rw [hl] at this; cases this
  subst hc
  refine ⟨h.defers, by simp [Act.put, h.size], fun t hD ht => ?_, h.kb.trans (Kb.of_below hb), fun k y hy hk => ?_, ⟨r', true, h1, fun _ => hr, fun q hq => ?_, fun q hq => ?_, ?_, fun _ => ?_⟩, fun hl2 => ?_, fun hl2 q hq => ?_, fun hl2 => ?_, fun hl2 => ?_⟩
  · rw [o t (by omega)]; exact h.oth t hD ht
  · by_cases e : k = 4 * r' + 3
    · subst e
      have := hpv _ _ hy
      omega
    · rw [o _ (by omega)]
      exact h.pure k y hy (by simpa [e] using hk)
  · rw [onl (by omega)]; exact h3 q hq
  · by_cases e : q = r'
    · subst e; simp
    · rw [onl (by omega)]
      have := h4 q hq
      simp [e] at this ⊢
      exact this
  · have h5' : Own base w' (if r' = 0 then u else PB.slot A (S + 4 * r')) (pre l xs r') := owns_below h5 hb
    by_cases e : r' = 0
    · subst e; simpa using h5'
    · rw [if_neg e, o _ (by omega)]
      rw [if_neg e] at h5'
      exact h5'
  · rw [PB.slot_put_same _ _ _ (by rw [h.size]; omega)]
    exact hv
  · rw [onl (by omega)] at hl2
    have e : ¬ m = 0 := by omega
    rw [if_neg e, o D (by omega), o _ (by omega), h.fin hl2, if_neg e]
  · rw [onl (by omega)] at hl2 ⊢
    exact h.last hl2 q hq
  · rw [onl (by omega)] at hl2
    simp [h.zero hl2]
  · rw [onl (by omega)] at hl2
    rw [o D (by omega)]; exact h.dD hl2

/-- At an append: what it has. -/
theorem RC.atApp (h : RC S m D u base l xs pv A0 wc L A w) {r : Nat} (hr : r < m) (hl : L (4 * r + 4) = false) (hc : L (4 * r + 3) = true) : Own base w (if r = 0 then u else PB.slot A (S + 4 * r)) (pre l xs r) ∧ NewB (xs r) (PB.slot A (S + (4 * r + 3))) w := by
  obtain ⟨r', c, h1, h2, h3, h4, h5, h6⟩ := h.st
  have a : ¬ r < r' := fun hh => by
    have := (h3 r hr).2 hh
    rw [hl] at this; cases this
  rcases (h4 r hr).1 hc with b | ⟨rfl, b⟩
  · omega
  · exact ⟨h5, h6 b⟩

theorem RC.appS (h : RC S m D u base l xs pv A0 wc L A w) (hF : Fits S m D A0) (hpv : ∀ k v, pv k = some v → k = 0 ∨ (k < 4 * m ∧ (k % 4 = 1 ∨ k % 4 = 2))) {r : Nat} {v : Value} (hr : r < m) (hl : L (4 * r + 4) = false) (hc : L (4 * r + 3) = true) (hk : Kb base w w') (hv : Own base w' v (pre l xs r ++ xs r)) : RC S m D u base l xs pv A0 wc (fun k => k == (4 * r + 4) || L k) (A.put (some (S + (4 * r + 4))) v) w' := by
  have hrm := hF.room
  have hd := hF.dout
  have o : ∀ t, t ≠ S + (4 * r + 4) → PB.slot (A.put (some (S + (4 * r + 4))) v) t = PB.slot A t := fun t ht => PB.slot_put_other _ _ _ _ ht
  obtain ⟨r', c, h1, h2, h3, h4, h5, h6⟩ := h.st
  have a : ¬ r < r' := fun hh => by
    have := (h3 r hr).2 hh
    rw [hl] at this; cases this
  obtain ⟨rfl, rfl⟩ : r = r' ∧ c = true := by
    rcases (h4 r hr).1 hc with b | b
    · omega
    · exact b
  refine ⟨h.defers, by simp [Act.put, h.size], fun t hD ht => ?_, h.kb.trans hk, fun k y hy hk' => ?_, ⟨r + 1, false, hr, fun hh => (by cases hh), fun q hq => ?_, fun q hq => ?_, ?_, fun hh => (by cases hh)⟩, fun hl2 => ?_, fun hl2 q hq => ?_, fun hl2 => ?_, fun hl2 => ?_⟩
  · rw [o t (by omega)]; exact h.oth t hD ht
  · by_cases e : k = 4 * r + 4
    · subst e
      have := hpv _ _ hy
      omega
    · rw [o _ (by omega)]
      exact h.pure k y hy (by simpa [e] using hk')
  · by_cases e : q = r
    · subst e; simp
    · rw [onl (by omega)]
      have := h3 q hq
      constructor
      · intro hh; have := this.1 hh; omega
      · intro hh; exact this.2 (by omega)
  · rw [onl (by omega)]
    have := h4 q hq
    constructor
    · intro hh
      rcases this.1 hh with b | ⟨b, _⟩
      · exact .inl (by omega)
      · exact .inl (by omega)
    · rintro (b | ⟨_, b⟩)
      · exact this.2 (by rcases (show q < r ∨ q = r by omega) with b | b; exact .inl b; exact .inr ⟨b, rfl⟩)
      · cases b
  · rw [if_neg (by omega), show S + 4 * (r + 1) = S + (4 * r + 4) by omega, PB.slot_put_same _ _ _ (by rw [h.size]; omega)]
    exact hv
  · rw [onl (by omega)] at hl2
    have := h.last hl2 r hr
    rw [hl] at this
    cases this
  · rw [onl (by omega)] at hl2
    have := h.last hl2 r hr
    rw [hl] at this
    cases this
  · rw [onl (by omega)] at hl2
    simp [h.zero hl2]
  · rw [onl (by omega)] at hl2
    rw [o D (by omega)]; exact h.dD hl2

theorem RC.asgS (h : RC S m D u base l xs pv A0 wc L A w) (hF : Fits S m D A0) (hpv : ∀ k v, pv k = some v → k = 0 ∨ (k < 4 * m ∧ (k % 4 = 1 ∨ k % 4 = 2))) (hall : ∀ q, q < m → L (4 * q + 4) = true) (h0 : L 0 = true) : RC S m D u base l xs pv A0 wc (fun k => k == (4 * m + 1) || L k) (A.put (some D) (PB.slot A (S + 4 * m))) w := by
  have hrm := hF.room
  have hd := hF.dout
  have hm := hF.some
  have o : ∀ t, t ≠ D → PB.slot (A.put (some D) (PB.slot A (S + 4 * m))) t = PB.slot A t := fun t ht => PB.slot_put_other _ _ _ _ ht
  refine ⟨h.defers, by simp [Act.put, h.size], fun t hD ht => ?_, h.kb, fun k y hy hk' => ?_, ?_, fun _ => ?_, fun _ q hq => ?_, fun _ => by simp [h0], fun hh => by simp at hh⟩
  · rw [o t hD]; exact h.oth t hD ht
  · have hh := hpv k y hy
    rw [o _ (by omega)]
    exact h.pure k y hy (by rwa [onl (by omega)] at hk')
  · obtain ⟨r, c, h1, h2, h3, h4, h5, h6⟩ := h.st
    refine ⟨r, c, h1, h2, fun q hq => ?_, fun q hq => ?_, ?_, fun hc => ?_⟩
    · rw [onl (by omega)]; exact h3 q hq
    · rw [onl (by omega)]; exact h4 q hq
    · by_cases e : r = 0
      · subst e; simpa using h5
      · rw [if_neg e, o _ (by omega)]
        rw [if_neg e] at h5
        exact h5
    · have := h2 hc
      rw [o _ (by omega)]; exact h6 hc
  · have e : ¬ m = 0 := by omega
    rw [if_neg e, PB.slot_put_same _ _ _ (by rw [h.size]; exact hF.dlt), o _ (by omega)]
  · rw [onl (by omega)]
    exact hall q hq

theorem RC.done (h : RC S m D u base l xs pv A0 wc L A w) (hF : Fits S m D A0) (hall : ∀ k, k < 4 * m + 2 → L k = true) : Own base w (PB.slot A D) (pre l xs m) ∧ Kb base wc w := by
  have hm := hF.some
  obtain ⟨r, c, h1, h2, h3, h4, h5, h6⟩ := h.st
  have hr : r = m := by
    have := (h3 (m - 1) (by omega)).1 (hall _ (by omega))
    omega
  subst hr
  have e : ¬ r = 0 := by omega
  rw [if_neg e] at h5
  rw [h.fin (hall _ (by omega)), if_neg e]
  exact ⟨h5, h.kb⟩

theorem RC.start {S m D : Nat} {u : Value} {base : Nat} {l : List Int} {xs : Nat → List Int} {pv : Nat → Option Value} {A0 : Act} {wc : World} (h : Own base wc u l) : RC S m D u base l xs pv A0 wc (fun _ => false) A0 wc.drew :=
  ⟨rfl, rfl, fun _ _ _ => rfl, Kb.of_below ((Below.refl _ _).drew), fun k v _ h => (by cases h), ⟨0, false, Nat.zero_le _, fun h => (by cases h), fun q _ => ⟨fun h => (by cases h), fun h => (by omega)⟩, fun q _ => ⟨fun h => (by cases h), fun h => (by rcases h with h | ⟨_, h⟩; omega; cases h)⟩, owns_below h ((Below.refl _ _).drew), fun h => (by cases h)⟩, fun h => (by cases h), fun h => (by cases h), fun h => (by cases h), fun _ => rfl⟩

theorem NewAns.newB {r : List Int} {w : World} {e : Ending} {w' : World} (h : NewAns r w e w') (hne : r ≠ []) : ∃ v, e = .returned v ∧ Below w.heap.size w w' ∧ NewB r v w' := by
  obtain ⟨v, rfl, ho, hb⟩ := h
  obtain ⟨g, c, rfl⟩ := ho.someOf hne
  exact ⟨_, rfl, hb, g, c, rfl, (ho.lt g rfl).2, ho.cells rfl⟩

/-- An append in the chain. -/
theorem wp_chain {S m D : Nat} {u : Value} {base : Nat} {l : List Int} {xs : Nat → List Int} {pv : Nat → Option Value} {A0 : Act} {wc : World} {L : Nat → Bool} {A : Act} {w : World} {o : Oper} {Q : Exit → Act → World → Prop} (h : RC S m D u base l xs pv A0 wc L A w) (hF : Fits S m D A0) (hpv : ∀ k v, pv k = some v → k = 0 ∨ (k < 4 * m ∧ (k % 4 = 1 ∨ k % 4 = 2))) {r : Nat} (hr : r < m) (hl : L (4 * r + 4) = false) (hc : L (4 * r + 3) = true) (h0 : r = 0 → PB.slot A S = u)
    (ho : o.op = .call { callee := .builtin .append, args := #[.tmp (S + 4 * r), .tmp (S + (4 * r + 3))], argTypes := #[28, 28] }) (hd : o.dst = some (S + (4 * r + 4))) (hlen : (pre l xs r ++ xs r).length ≤ 1000000000) (hb : base ≤ wc.heap.size) :
    o.wp Try.prog A w (fun a' w' => RC S m D u base l xs pv A0 wc (fun k => k == (4 * r + 4) || L k) a' w') Q := by
  obtain ⟨i0, hi, hz0, hz1, hz2⟩ := info_parts Try.info5
  obtain ⟨hown, g, c, hv, hg, hcell⟩ := h.atApp hr hl hc
  rw [List.length_append] at hlen
  have es : A.eval (.tmp (S + 4 * r)) = (if r = 0 then u else PB.slot A (S + 4 * r)) := by
    by_cases e : r = 0
    · subst e; rw [if_pos rfl]; exact h0 rfl
    · rw [if_neg e]; rfl
  refine wp_append_own w (.tmp (S + 4 * r)) (.tmp (S + (4 * r + 3))) 28 ho base 5 i0 (.int .u8 0) 1 1 Try.underlying28 hi hz0 hz1 hz2 rfl (by decide) _ (pre l xs r).length (B8 (pre l xs r)) es hown ⟨g, 0, none⟩ (xs r).length c (B8 (xs r)) hv (by rw [length_B8]; omega) hcell (B8_one _) (by unfold maxLen; omega) (by omega) (Nat.le_trans hb h.kb.size) ?_
  intro v' w' hown' hgrow _
  rw [hd]
  exact h.appS hF hpv hr hl hc (Kb.grown hgrow hown) (by unfold Own; rw [B8_append, List.length_append]; exact hown')

end

end Go.Proofs.Ytjpjeledbjpaeaa
