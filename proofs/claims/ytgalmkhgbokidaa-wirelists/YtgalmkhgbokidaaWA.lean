/-
  What is proved here: which fields a command uses; what a call may write that appends to bytes of its own; putNumber, putTime, PutFront.
-/
import Derived.Test.YtgalmkhgbokidaaSpec
import Derived.Test.YtgalmkhgbokidaaPlanI
namespace Go.Proofs.Ytgalmkhgbokidaa
open Go.RowKit Go.Proofs
set_option maxRecDepth 20000
set_option linter.unusedVariables false
set_option linter.unusedSimpArgs false

theorem mixed' : Try.prog.follows .mixedOrders = true := by kernel_rfl

theorem usedBy_any (d : Int) (w : World) : Calls Try.prog 33 #[.int .i64 d] w fun e w' => e = .returned (.int .u64 (mask d)) ∧ w' = w := by
  have H : Hid (mask d = (if d = 0 then 4 else if d = 1 then 57 else if d = 2 ∨ d = 4 then 65 else if d = 3 then 3 else if d = 5 then 17 else if d = 6 then 1 else 0)) := rfl
  by_cases h0 : d = 0
  · subst h0
    go_enter Try.func33, Try.ntmps33
    go_wp2
    go_ret
    exact ⟨rfl, rfl⟩
  by_cases h1 : d = 1
  · subst h1
    go_enter Try.func33, Try.ntmps33
    go_wp2
    go_ret
    exact ⟨rfl, rfl⟩
  by_cases h2 : d = 2
  · subst h2
    go_enter Try.func33, Try.ntmps33
    go_wp2
    go_ret
    exact ⟨rfl, rfl⟩
  by_cases h4 : d = 4
  · subst h4
    go_enter Try.func33, Try.ntmps33
    go_wp2
    go_ret
    exact ⟨rfl, rfl⟩
  by_cases h3 : d = 3
  · subst h3
    go_enter Try.func33, Try.ntmps33
    go_wp2
    go_ret
    exact ⟨rfl, rfl⟩
  by_cases h5 : d = 5
  · subst h5
    go_enter Try.func33, Try.ntmps33
    go_wp2
    go_ret
    exact ⟨rfl, rfl⟩
  by_cases h6 : d = 6
  · subst h6
    go_enter Try.func33, Try.ntmps33
    go_wp2
    go_ret
    exact ⟨rfl, rfl⟩
  have e : mask d = 0 := by unfold mask; simp [h0, h1, h2, h3, h4, h5, h6]
  have E := hid' e
  have b0 : (d == 0) = false := by simpa using h0
  have b1 : (d == 1) = false := by simpa using h1
  have b2 : (d == 2) = false := by simpa using h2
  have b3 : (d == 3) = false := by simpa using h3
  have b4 : (d == 4) = false := by simpa using h4
  have b5 : (d == 5) = false := by simpa using h5
  have b6 : (d == 6) = false := by simpa using h6
  clear H e h0 h1 h2 h3 h4 h5 h6
  go_enter Try.func33, Try.ntmps33
  go_wp2
  go_ret
  exact ⟨by rw [E.out]; rfl, rfl⟩

/-- Is a field among them? -/
def hasB (m one : Int) : Bool := bits .and .u64 m one != 0

theorem has_at (m one : Int) (b : Bool) (h : hasB m one = b) (w : World) : Calls Try.prog 34 #[.int .u64 m, .int .u64 one] w fun e w' => e = .returned (.bool b) ∧ w' = w := by
  have H := hid' h
  unfold hasB at H
  clear h
  go_enter Try.func34, Try.ntmps34
  go_wp2
  go_ret
  exact ⟨congrArg Ending.returned (congrArg Value.bool H.out), rfl⟩

/-- Nothing below base, and no block but such of bytes, has changed. -/
structure Kb (base : Nat) (w w' : World) : Prop where
  os : w'.os = w.os
  tape : w'.tape = w.tape
  output : w'.output = w.output
  size : w.heap.size ≤ w'.heap.size
  block : ∀ k, k < w.heap.size → (k < base ∨ ∀ c z, w.heap[k]? ≠ some (.cells c 5 z)) → w'.heap[k]? = w.heap[k]?

theorem Kb.refl (base : Nat) (w : World) : Kb base w w := ⟨rfl, rfl, rfl, Nat.le_refl _, fun _ _ _ => rfl⟩

theorem Kb.trans {base : Nat} {a b c : World} (h : Kb base a b) (k : Kb base b c) : Kb base a c := by
  refine ⟨k.os.trans h.os, k.tape.trans h.tape, k.output.trans h.output, Nat.le_trans h.size k.size, fun i hi hc => ?_⟩
  have e := h.block i hi hc
  rw [k.block i (Nat.lt_of_lt_of_le hi h.size) (by rw [e]; exact hc), e]

theorem Kb.below {base : Nat} {w w' : World} (h : Kb base w w') (hB : base ≤ w.heap.size) : Below base w w' :=
  ⟨h.os, h.tape, h.output, h.size, fun k hk => h.block k (by omega) (.inl hk)⟩

theorem Kb.of_below {base : Nat} {w w' : World} (h : Below w.heap.size w w') : Kb base w w' := ⟨h.os, h.tape, h.output, h.size, fun k hk _ => h.block k hk⟩

theorem Kb.alloc {base : Nat} {w w' : World} (h : Kb base w w') (o : Obj) : Kb base w (w'.alloc o) := h.trans (Kb.of_below ((Below.refl _ _).alloc (Nat.le_refl _) o))
theorem Kb.mono {base base' : Nat} {w w' : World} (h : Kb base w w') (hb : base' ≤ base) : Kb base' w w' := ⟨h.os, h.tape, h.output, h.size, fun k hk hc => h.block k hk (by rcases hc with hc | hc; exact .inl (by omega); exact .inr hc)⟩

theorem Kb.grown {base : Nat} {w w' : World} {v : Value} {n : Nat} {xs : List Value} (h : w.grownBy w' v.ownBlock) (ho : w.ownsRow base 5 1 v n xs) : Kb base w w' := by
  refine ⟨h.os, h.tape, h.output, h.size, fun k hk hc => h.block k hk fun e => ?_⟩
  have h1 := ho.lt k e.symm
  rcases ho.2 with ⟨rfl, _⟩ | ⟨g, cap, cur, rfl, _, hg, _⟩
  · simp [Value.ownBlock] at e
  · simp [Value.ownBlock] at e
    subst e
    rcases hc with hc | hc
    · omega
    · exact hc _ _ hg

theorem Bx.kb {base : Nat} {w w' : World} {b : Nat} {cs : Array Value} {t : TypeId} (h : Bx w b cs t) (k : Kb base w w') (ht : t ≠ 5) : Bx w' b cs t :=
  (k.block b h.lt (.inr fun c z e => ht (by
    have e2 : some (Obj.cells cs t (0, 0)) = some (.cells c 5 z) := h.symm.trans e
    simp at e2
    exact e2.2.1))).trans h

theorem owns_below {base e sz n : Nat} {w w' : World} {v : Value} {xs : List Value} (h : w.ownsRow base e sz v n xs) (hb : Below w.heap.size w w') : w'.ownsRow base e sz v n xs := by
  have hg : w.grownBy w' none := ⟨hb.os, hb.tape, hb.output, hb.size, fun k hk _ => hb.block k hk⟩
  refine h.kept hg ?_
  cases v.ownBlock with
  | none => exact .inl rfl
  | some k => exact .inr (by simp)

theorem own_base {base base' e sz n : Nat} {w : World} {v : Value} {xs : List Value} (h : w.ownsRow base e sz v n xs) (hb : base' ≤ base) : w.ownsRow base' e sz v n xs := by
  refine ⟨h.1, ?_⟩
  rcases h.2 with h | ⟨g, cap, cur, h1, h2, h3⟩
  · exact .inl h
  · exact .inr ⟨g, cap, cur, h1, by omega, h3⟩

/-- v is a slice of bytes of the call's own that reads as l. -/
def Own (base : Nat) (w : World) (v : Value) (l : List Int) : Prop := w.ownsRow base 5 1 v l.length (B8 l)

theorem Own.below {base : Nat} {w w' : World} {v : Value} {l : List Int} (h : Own base w v l) (hb : Below w.heap.size w w') : Own base w' v l := owns_below h hb
theorem Own.base {base base' : Nat} {w : World} {v : Value} {l : List Int} (h : Own base w v l) (hb : base' ≤ base) : Own base' w v l := own_base h hb
theorem Own.kb_alloc {base : Nat} {w : World} {v : Value} {l : List Int} (h : Own base w v l) (o : Obj) : Own base (w.alloc o) v l := owns_below h ((Below.refl _ _).alloc (Nat.le_refl _) o)

/-- What it reads as. -/
theorem Own.bts {base : Nat} {w : World} {v : Value} {l : List Int} (h : Own base w v l) (hr : Byt l) : ∃ a c, v = .slice a l.length c ∧ l.length ≤ c ∧ Bts w.heap.size w a l ∧ (l ≠ [] → ∃ g, a = some ⟨g, 0, none⟩) := by
  have hh := h
  unfold Own at h
  rw [← flat_B8] at h
  obtain ⟨a, c, rfl, hs, hsh⟩ := SP.of_owns (d := 0) cB_len h
  refine ⟨a, c, rfl, hsh.2, BP.bts hs hr, fun hne => ?_⟩
  rcases hh.2 with ⟨_, h0⟩ | ⟨g, cap, cur, hv, _⟩
  · exact absurd (List.length_eq_zero_iff.1 h0) hne
  · cases hv; exact ⟨g, rfl⟩

/-- What a call answers that puts r behind its own bytes l. -/
def PutAns (base : Nat) (w : World) (l r : List Int) (e : Ending) (w' : World) : Prop := ∃ v, e = .returned v ∧ Own base w' v (l ++ r) ∧ Kb base w w'

theorem putNumber_any (base : Nat) (w : World) (v : Value) (l : List Int) (z : Int) (hB : base ≤ w.heap.size) (ho : Own base w v l) (hz : R64 z) (hl : (l ++ oneB z).length ≤ 1000000000) :
    Calls Try.prog 56 #[v, .int .i64 z] w (PutAns base w l (oneB z)) := by
  obtain ⟨i0, hi, hz0, hz1, hz2⟩ := info_parts Try.info5
  have H := hid' (putInt_any w none 0 [] z (Bts.nil _ _ _) (by simp) hz.1 hz.2)
  have HL := hid' hl
  have HO := hid' ho
  unfold oneB at HL ⊢
  rw [List.length_append, length_bytesOf] at HL
  simp only [List.length_nil, Nat.zero_add, List.nil_append] at H
  generalize (zig z).toNat = m at *
  clear hl ho hz
  go_enter Try.func56, Try.ntmps56
  go_wp2_with fail
  refine H.out.mono ?_
  rintro e w2 ⟨g, c, rfl, hown, hbel⟩
  have HW := hid' (owns_below HO.out hbel)
  have HS := hid' (hbel.size)
  go_wp2_with (first
    | (at_builtin; refine wpList_append_own _ rfl (.tmp 5) (.tmp 7) 22 rfl base 5 i0 (.int .u8 0) 1 1 Try.underlying22 hi hz0 hz1 hz2 rfl (by decide) v l.length (B8 l) rfl HW.out ⟨g, 0, none⟩ (sz m) c (B8 (bytesOf m)) rfl (by rw [length_B8, length_bytesOf]; omega) (hown.cells rfl) (B8_one _) (by have := HL.out; unfold maxLen; omega) (by have := HL.out; omega) (by have := HS.out; omega) ?_; intro v' w1 hown1 hgrow1 hnil1))
  have K := hid' ((Kb.of_below (base := base) hbel).trans (Kb.grown hgrow1 HW.out))
  have O : Hid (Own base w1 v' (l ++ bytesOf m)) := (by
    unfold Own
    rw [B8_append, List.length_append, length_bytesOf]
    exact hown1 : Own base w1 v' (l ++ bytesOf m))
  clear hown1 hgrow1 hnil1 hown hbel HW
  go_wp2
  go_ret
  exact ⟨v', rfl, O.out, K.out⟩

end Go.Proofs.Ytgalmkhgbokidaa
