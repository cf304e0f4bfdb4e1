/-
  What is proved here: what the law keeps as a list beside the queue; append of changes; frames by the slots that were written.
-/
import Derived.Test.YtboeodcjcbgeaaaQJ
namespace Go.Proofs.Ytboeodcjcbgeaaa
open Go.RowKit Go.Proofs
set_option linter.unusedVariables false
set_option linter.unusedSimpArgs false

/-- A frame that differs from another one in some slots alone. -/
def puts (A : Act) (A0 : Act) : List Nat → Act
  | [] => A0
  | d :: ds => puts A (A0.put (some d) (PB.slot A d)) ds

theorem puts_size (A : Act) : ∀ (ds : List Nat) (A0 : Act), (puts A A0 ds).tmps.size = A0.tmps.size
  | [], _ => rfl
  | d :: ds, A0 => by rw [puts, puts_size A ds]; simp [Act.put]

theorem puts_defers (A : Act) : ∀ (ds : List Nat) (A0 : Act), (puts A A0 ds).defers = A0.defers
  | [], _ => rfl
  | d :: ds, A0 => by rw [puts, puts_defers A ds]; rfl

theorem puts_slot (A : Act) (t : Nat) : ∀ (ds : List Nat) (A0 : Act), t < A0.tmps.size → (t ∉ ds → PB.slot A0 t = PB.slot A t) → PB.slot (puts A A0 ds) t = PB.slot A t
  | [], A0, _, h => h (by simp)
  | d :: ds, A0, ht, h => by
    rw [puts]
    refine puts_slot A t ds _ (by simp [Act.put]; exact ht) fun hn => ?_
    by_cases e : t = d
    · subst e
      exact PB.slot_put_same _ _ _ ht
    · rw [PB.slot_put_other _ _ _ _ e]
      exact h (by simp [e, hn])

theorem frame_puts {A A0 : Act} (hd : A.defers = A0.defers) (hs : A.tmps.size = A0.tmps.size) (ds : List Nat) (h : ∀ t, t ∉ ds → PB.slot A t = PB.slot A0 t) : A = puts A A0 ds := by
  have h1 : (puts A A0 ds).tmps.size = A.tmps.size := by rw [puts_size, hs]
  have h2 : (puts A A0 ds).defers = A.defers := by rw [puts_defers, hd]
  have h3 : ∀ t, t < A.tmps.size → PB.slot (puts A A0 ds) t = PB.slot A t := fun t ht => puts_slot A t ds A0 (by omega) fun hn => (h t hn).symm
  generalize puts A A0 ds = B at *
  obtain ⟨ta, da⟩ := A
  obtain ⟨tb, db⟩ := B
  simp only at h1 h2
  subst h2
  congr 1
  apply Array.ext (by omega)
  intro i hi1 hi2
  have := h3 i hi1
  simpa [PB.slot, Array.getD, hi1, hi2] using this.symm

/-- A list beside the queue: a slice that reads as L, its rows below block number B, its cells outside the queue's two blocks. -/
structure IsWant (B : Nat) (w : World) (G R : Nat) (v : Value) (L : List U) : Prop where
  ex : ∃ a cap, v = .slice a L.length cap ∧ L.length ≤ cap ∧ ((a = none ∧ L.length = 0 ∧ cap = 0) ∨ ∃ ad, a = some ad) ∧ (L ≠ [] → ∃ b off, a = some ⟨b, off, none⟩ ∧ b < w.heap.size ∧ b ≠ G ∧ b ≠ R ∧ Us (fun k => k < B) w b off L)

theorem IsWant.nil (B : Nat) (w : World) (G R : Nat) : IsWant B w G R (.slice none 0 0) [] := ⟨none, 0, rfl, Nat.le_refl _, .inl ⟨rfl, rfl, rfl⟩, fun h => absurd rfl h⟩

theorem IsWant.on {B : Nat} {w w' : World} {G R : Nat} {v : Value} {L : List U} (h : IsWant B w G R v L) (hb : Below w.heap.size w w') (hB : B ≤ w.heap.size) : IsWant B w' G R v L := by
  obtain ⟨a, cap, e, hc, hs, hl⟩ := h.ex
  refine ⟨a, cap, e, hc, hs, fun hne => ?_⟩
  obtain ⟨b, off, e2, hbw, hG, hR, hu⟩ := hl hne
  exact ⟨b, off, e2, Nat.lt_of_lt_of_le hbw hb.size, hG, hR, hu.keep (hb.block b hbw) (fun k hP hk => ⟨hb.block k hk, hP⟩) hb.size⟩

/-- The queue has changed: the list has not. -/
theorem IsWant.kp {B : Nat} {w w' : World} {G R : Nat} {v : Value} {L : List U} (h : IsWant B w G R v L) (hk : Kp G R w w') (hG : B ≤ G) (hR : B ≤ R) : IsWant B w' G R v L := by
  obtain ⟨a, cap, e, hc, hs, hl⟩ := h.ex
  refine ⟨a, cap, e, hc, hs, fun hne => ?_⟩
  obtain ⟨b, off, e2, hbw, hbG, hbR, hu⟩ := hl hne
  exact ⟨b, off, e2, Nat.lt_of_lt_of_le hbw hk.size, hbG, hbR, hu.keep (hk.block b hbw hbG hbR) (fun k hP hkw => ⟨hk.block k hkw (by omega) (by omega), hP⟩) hk.size⟩

theorem Us.part {P : Nat → Prop} {w : World} {b off : Nat} {L : List U} (h : Us P w b off L) (i n : Nat) : Us P w b (off + i * 4) ((L.drop i).take n) := by
  intro j hj
  rw [List.length_take, List.length_drop] at hj
  obtain ⟨s, h1, h2⟩ := h (i + j) (by omega)
  refine ⟨s, ?_, ?_⟩
  · rw [show off + i * 4 + j * 4 = off + (i + j) * 4 by omega]; exact h1
  · rw [show ((L.drop i).take n).getD j u0 = L.getD (i + j) u0 by simp [List.getD, List.getElem?_take_of_lt (show j < n by omega)]]
    exact h2

/-- The first one is gone. -/
theorem IsWant.tail {B : Nat} {w : World} {G R a1 o1 cap : Nat} {u : U} {L : List U} (h : IsWant B w G R (.slice (some ⟨a1, o1, none⟩) (L.length + 1) cap) (u :: L)) : IsWant B w G R (.slice (if cap = 1 then some ⟨a1, o1, none⟩ else some ⟨a1, o1 + 4, none⟩) L.length (cap - 1)) L := by
  obtain ⟨a, cap', e, hc, hs, hl⟩ := h.ex
  simp at e
  obtain ⟨rfl, rfl⟩ := e
  simp only [List.length_cons] at hc
  refine ⟨_, _, rfl, by omega, .inr (by split <;> exact ⟨_, rfl⟩), fun hne => ?_⟩
  obtain ⟨b, off, e2, hbw, hG, hR, hu⟩ := hl (by simp)
  simp at e2
  obtain ⟨rfl, rfl⟩ := e2
  have h1 : ¬ cap = 1 := by
    have : 0 < L.length := List.length_pos_iff.2 hne
    omega
  rw [if_neg h1]
  refine ⟨_, _, rfl, hbw, hG, hR, ?_⟩
  have := hu.part 1 L.length
  simpa using this

/-- One of them. -/
theorem IsWant.one {B : Nat} {w : World} {G R a1 o1 n cap i : Nat} {L : List U} (h : IsWant B w G R (.slice (some ⟨a1, o1, none⟩) n cap) L) (hi : i < L.length) (c : Nat) : OneIs (L.getD i u0) (.slice (some ⟨a1, o1 + i * 4, none⟩) 1 c) w := by
  obtain ⟨a, cap', e, hc, hs, hl⟩ := h.ex
  simp at e
  obtain ⟨rfl, _⟩ := e
  obtain ⟨b, off, e2, hbw, hG, hR, hu⟩ := hl (by rintro rfl; simp at hi)
  simp at e2
  obtain ⟨rfl, rfl⟩ := e2
  refine ⟨_, _, c, rfl, hbw, fun j hj => ?_⟩
  obtain ⟨s, h1, h2⟩ := hu i hi
  have hj0 : j = 0 := by simpa using hj
  subst hj0
  exact ⟨s, by simpa using h1, h2.mono (fun _ _ => trivial)⟩

theorem IsWant.shape {B : Nat} {w : World} {G R : Nat} {v : Value} {L : List U} (h : IsWant B w G R v L) (hne : L ≠ []) : ∃ a o cap, v = .slice (some ⟨a, o, none⟩) L.length cap ∧ L.length ≤ cap := by
  obtain ⟨a, cap, e, hc, hs, hl⟩ := h.ex
  obtain ⟨b, off, rfl, _⟩ := hl hne
  exact ⟨b, off, cap, e, hc⟩

/-- The places of a slice of changes. -/
theorem Us.slots {P : Nat → Prop} {w : World} {b off : Nat} {L : List U} (h : Us P w b off L) : ∃ S : List Slot, S.length = L.length ∧ (∀ i, i < L.length → Rd P w (S.getD i s0) (L.getD i u0)) ∧ ∀ j u, (flatS S)[j]? = some u → w.cell? ((⟨b, off, none⟩ : Addr).add j) = some u := by
  have : ∃ q : Nat → Slot, ∀ i, i < L.length → C4 w b (off + i * 4) (q i) ∧ Rd P w (q i) (L.getD i u0) := by
    refine ⟨fun i => if hi : i < L.length then (h i hi).choose else s0, fun i hi => ?_⟩
    simp only [dif_pos hi]
    exact (h i hi).choose_spec
  obtain ⟨q, hq⟩ := this
  have hg : ∀ i, i < L.length → ((List.range L.length).map q).getD i s0 = q i := fun i hi => by simp [List.getD, hi]
  refine ⟨(List.range L.length).map q, by simp, fun i hi => ?_, fun j u hj => ?_⟩
  · rw [hg i hi]; exact (hq i hi).2
  · have hlt : j < (flatS ((List.range L.length).map q)).length := by
      rcases Nat.lt_or_ge j (flatS ((List.range L.length).map q)).length with h' | h'
      · exact h'
      · rw [List.getElem?_eq_none h'] at hj; cases hj
    rw [length_flatS] at hlt
    have h2 : j / 4 < L.length := by simp at hlt; omega
    have hf := flatS_get ((List.range L.length).map q) (j / 4) (by simpa using h2)
    rw [hg _ h2] at hf
    have hc := (hq _ h2).1
    rw [addr_addQ]
    have h3 : j % 4 = 0 ∨ j % 4 = 1 ∨ j % 4 = 2 ∨ j % 4 = 3 := by omega
    rcases h3 with hm | hm | hm | hm
    · have e : j / 4 * 4 = j := by omega
      rw [e, hj] at hf; rw [← e, hc.k0, ← hf.1]
    · have e : j / 4 * 4 + 1 = j := by omega
      rw [e, hj] at hf; rw [← e, ← Nat.add_assoc, hc.k1, ← hf.2.1]
    · have e : j / 4 * 4 + 2 = j := by omega
      rw [e, hj] at hf; rw [← e, ← Nat.add_assoc, hc.k2, ← hf.2.2.1]
    · have e : j / 4 * 4 + 3 = j := by omega
      rw [e, hj] at hf; rw [← e, ← Nat.add_assoc, hc.k3, ← hf.2.2.2]

/-- append of changes, as one step of a statement that leaves its order open. -/
theorem step_append {ops : Array Oper} {o : Oper} {a : Act} {w : World} {K : Act → World → Prop} {Q : Exit → Act → World → Prop} {E : Prop} (hgd : o.guard = none) (s x : Operand)
    (ho : o.op = .call { callee := .builtin .append, args := #[s, x], argTypes := #[30, 30] }) (base : Nat) (v : Value) (n : Nat) (xs : List Value) (hs : a.eval s = v) (hown : w.ownsRow base 38 4 v n xs)
    (ao : Option Addr) (m c : Nat) (S : List Slot) (hx : a.eval x = .slice ao m c) (hm : S.length = m) (hsh : (ao = none ∧ m = 0 ∧ c = 0) ∨ ∃ ad, ao = some ad)
    (hnews : ∀ ad, ao = some ad → ∀ j u, (flatS S)[j]? = some u → w.cell? (ad.add j) = some u) (hsm : n + m ≤ 1000000) (hbase : base ≤ w.heap.size)
    (h : ∀ v' w', w'.ownsRow base 38 4 v' (n + m) (xs ++ flatS S) → w.grownBy w' v.ownBlock → K (a.put o.dst v') w') :
    if Region.wanted o (yielded ops a.tmps) = true then Oper.wp Try.prog o a w K Q else E := by
  have hw : Region.wanted o (yielded ops a.tmps) = true := by simp [Region.wanted, hgd]
  rw [if_pos hw]
  obtain ⟨iU, hiU, hU0, hU1, hU2⟩ := info_parts Try.infoUp
  rcases hsh with ⟨rfl, rfl, rfl⟩ | ⟨ad, rfl⟩
  · obtain rfl : S = [] := List.eq_nil_of_length_eq_zero hm
    have hrun := run_append_owned_none (P := Try.prog) (w := w) base 30 o.type 38 iU 4 Try.underlying30 hiU v n xs hown
    unfold Oper.wp
    simp [execOp, ho, resolve, invoke, builtin, hs, hx, hrun, Result.andThen]
    exact h v w (by simpa [flatS] using hown) (World.grownBy.refl _ _)
  · exact wp_append_own w s x 30 ho base 38 iU s0.val 4 48 Try.underlying30 hiU hU0 hU1 hU2 rfl (by decide) v n xs hs hown ad m c (flatS S) hx (by rw [length_flatS, hm]) (hnews ad rfl) (flatS_ones S) (by unfold maxLen; omega) (by omega) hbase (fun v' w' h1 h2 _ => h v' w' h1 h2)

/-- What is appended is the list behind. -/
theorem IsWant.of_owns {B base : Nat} {w : World} {G R : Nat} {v : Value} {L : List U} {S : List Slot} (h : w.ownsRow base 38 4 v L.length (flatS S)) (hS : S.length = L.length) (hr : ∀ i, i < L.length → Rd (fun k => k < B) w (S.getD i s0) (L.getD i u0)) (hG : G < base) (hR : R < base) : IsWant B w G R v L := by
  have hh := h
  obtain ⟨h1, ⟨rfl, h0⟩ | ⟨g, cap, cur, rfl, hg, hcur, hle, hm, hs, ht⟩⟩ := h
  · exact ⟨none, 0, by rw [h0], by omega, .inl ⟨rfl, h0, rfl⟩, fun hl => absurd (List.length_eq_zero_iff.1 h0) hl⟩
  · refine ⟨_, _, rfl, hle, .inr ⟨_, rfl⟩, fun hl => ⟨g, 0, rfl, (hh.lt g rfl).2, by omega, by omega, fun i hi => ?_⟩⟩
    have := flatS_get S i (by omega)
    refine ⟨S.getD i s0, ?_, hr i hi⟩
    rw [Nat.zero_add]
    refine ⟨?_, ?_, ?_, ?_⟩ <;> rw [hh.cellAt _ (by omega)]
    · exact this.1
    · exact this.2.1
    · exact this.2.2.1
    · exact this.2.2.2

section
variable {a : Act} {t u v c : Nat} {dst : Option Tmp} {ty : TypeId} {pos : String} {aft : Array Edge} {guard : Option (Nat × Bool)}

theorem run_lenU {b : Option Addr} {n cap : Nat} (w : World) (h : PB.slot a t = .slice b n cap) :
    (execOp a.eval { dst := dst, op := .call { callee := .builtin .len, args := #[.tmp t], argTypes := #[30] }, type := ty, pos := pos, after := aft, guard := guard }).run Try.prog w = .ok (.value (.int .i64 (n : Int))) w := by
  have h1 : a.tmps[t]?.getD undef = .slice b n cap := by rw [← Array.getD_eq_getD_getElem?]; exact h
  go_simp

theorem run_buildU {s : Slot} (w : World) (h : PB.slot a t = s.val) :
    (execOp a.eval { dst := dst, op := .buildSlice 30 1 #[(0, .tmp t)], type := ty, pos := pos, after := aft, guard := guard }).run Try.prog w = .ok (.value (.slice (some ⟨w.heap.size, 0, none⟩) 1 1)) (w.alloc (.cells #[.slice s.a s.n s.c, .int .i64 s.t.1, .int .i64 s.t.2, .int .i64 s.d] 38)) := by
  unfold Slot.val at h
  have h0 : a.tmps[t]?.getD undef = .agg #[.slice s.a s.n s.c, .int .i64 s.t.1, .int .i64 s.t.2, .int .i64 s.d] := by rw [← Array.getD_eq_getD_getElem?]; exact h
  go_simp

theorem run_sliceU {b off n cap i : Nat} (w : World) (h : PB.slot a t = .slice (some ⟨b, off, none⟩) n cap) (h1 : PB.slot a u = .int .i64 (i : Int)) (h2 : PB.slot a v = .int .i64 ((i : Int) + 1)) (hi : i < n) (hn : n ≤ cap) :
    (execOp a.eval { dst := dst, op := .slice 30 (.tmp t) (some (.tmp u)) (some (.tmp v)) none, type := ty, pos := pos, after := aft, guard := guard }).run Try.prog w = .ok (.value (.slice (some ⟨b, off + i * 4, none⟩) 1 (cap - i))) w := by
  have g0 : a.tmps[t]?.getD undef = .slice (some ⟨b, off, none⟩) n cap := by rw [← Array.getD_eq_getD_getElem?]; exact h
  have g1 : a.tmps[u]?.getD undef = .int .i64 (i : Int) := by rw [← Array.getD_eq_getD_getElem?]; exact h1
  have g2 : a.tmps[v]?.getD undef = .int .i64 ((i : Int) + 1) := by rw [← Array.getD_eq_getD_getElem?]; exact h2
  have e1 : i ≤ i + 1 := by omega
  have e2 : i + 1 ≤ cap := by omega
  have e3 : ¬ cap = i := by omega
  have e4 : (0 : Int) ≤ (i : Int) + 1 := by omega
  have e5 : ((i : Int) + 1).toNat = i + 1 := by omega
  have e6 : i + 1 - i = 1 := by omega
  go_simp
  intro hlt
  omega

theorem run_slice1 {b off n cap : Nat} (w : World) (h : PB.slot a t = .slice (some ⟨b, off, none⟩) n cap) (hi : 0 < n) (hn : n ≤ cap) :
    (execOp a.eval { dst := dst, op := .slice 30 (.tmp t) none (some (.const (.int .i64 1))) none, type := ty, pos := pos, after := aft, guard := guard }).run Try.prog w = .ok (.value (.slice (some ⟨b, off, none⟩) 1 cap)) w := by
  have g0 : a.tmps[t]?.getD undef = .slice (some ⟨b, off, none⟩) n cap := by rw [← Array.getD_eq_getD_getElem?]; exact h
  have e2 : 1 ≤ cap := by omega
  have e3 : ¬ cap = 0 := by omega
  go_simp
  intro hlt
  omega
end

theorem run_ltI (w : World) (z z' : Int) (x y : Operand) : ((do eqGuard .lss 3 x y (.int .i64 z) (.int .i64 z'); binOp .lss 3 (.int .i64 z) (.int .i64 z') : Sem Value)).run Try.prog w = .ok (.bool (decide (z < z'))) w := by
  go_simp

theorem run_add1 (w : World) (z : Nat) (x y : Operand) (h : z ≤ 1000000) : ((do eqGuard .add 3 x y (.int .i64 (z : Int)) (.int .i64 1); binOp .add 3 (.int .i64 (z : Int)) (.int .i64 1) : Sem Value)).run Try.prog w = .ok (.int .i64 ((z : Int) + 1)) w := by
  go_simp
  simp only [IntKind.wrap, IntKind.bits, IntKind.signed]
  simp
  omega

theorem one_new (w : World) (s : Slot) (u : U) (P : Nat → Prop) (h : Rd P w s u) : OneIs u (.slice (some ⟨w.heap.size, 0, none⟩) 1 1) (w.alloc (.cells #[.slice s.a s.n s.c, .int .i64 s.t.1, .int .i64 s.t.2, .int .i64 s.d] 38)) := by
  refine ⟨w.heap.size, 0, 1, rfl, by simp, fun i hi => ?_⟩
  have hi0 : i = 0 := by simpa using hi
  subst hi0
  have hb : (w.alloc (.cells #[.slice s.a s.n s.c, .int .i64 s.t.1, .int .i64 s.t.2, .int .i64 s.d] 38)).heap[w.heap.size]? = some (.cells (flatS [s]).toArray 38 (0, 0)) := heap_alloc_new w _
  refine ⟨s, C4.of_block hb (i := 0) (by simp), ?_⟩
  have hbl : Below w.heap.size w (w.alloc (.cells #[.slice s.a s.n s.c, .int .i64 s.t.1, .int .i64 s.t.2, .int .i64 s.d] 38)) := (Below.refl _ w).alloc (Nat.le_refl _) _
  exact h.keep (fun k hP hk => ⟨hbl.block k hk, trivial⟩) hbl.size

/-- The places of the list beside the queue. -/
theorem IsWant.slots {B : Nat} {w : World} {G R : Nat} {a : Option Addr} {n cap : Nat} {L : List U} (h : IsWant B w G R (.slice a n cap) L) : ∃ S : List Slot, S.length = n ∧ n = L.length ∧ (∀ i, i < L.length → Rd (fun k => k < B) w (S.getD i s0) (L.getD i u0)) ∧ ((a = none ∧ n = 0 ∧ cap = 0) ∨ ∃ ad, a = some ad) ∧ ∀ w', Below w.heap.size w w' → ∀ ad, a = some ad → ∀ j u, (flatS S)[j]? = some u → w'.cell? (ad.add j) = some u := by
  obtain ⟨a', cap', e, hc, hs, hl⟩ := h.ex
  simp at e
  obtain ⟨rfl, rfl, rfl⟩ := e
  by_cases hne : L = []
  · subst hne
    exact ⟨[], rfl, rfl, fun i hi => by simp at hi, hs, fun w' _ ad _ j u hj => by simp [flatS] at hj⟩
  · obtain ⟨b, off, rfl, hbw, _, _, hu⟩ := hl hne
    obtain ⟨S, h1, h2, h3⟩ := hu.slots
    refine ⟨S, h1, rfl, h2, hs, fun w' hb ad e j u hj => ?_⟩
    cases e
    have := h3 j u hj
    rw [addr_addQ] at this ⊢
    exact (hb.cell (p := ⟨b, off + j, none⟩) hbw).trans this

/-- The places of changes that were handed in. -/
theorem IsUps.slots {B : Nat} {w : World} {a : Option Addr} {n c : Nat} {l : List U} (h : IsUps B w a n c l) : ∃ S : List Slot, S.length = n ∧ (∀ i, i < l.length → Rd (fun k => k < B) w (S.getD i s0) (l.getD i u0)) ∧ ∀ w', Below B w w' → ∀ ad, a = some ad → ∀ j u, (flatS S)[j]? = some u → w'.cell? (ad.add j) = some u := by
  by_cases hne : l = []
  · subst hne
    exact ⟨[], h.len, fun i hi => by simp at hi, fun w' _ ad _ j u hj => by simp [flatS] at hj⟩
  · obtain ⟨b, off, rfl, hbw, hu⟩ := h.cells hne
    obtain ⟨S, h1, h2, h3⟩ := hu.slots
    refine ⟨S, h1.trans h.len, h2, fun w' hb ad e j u hj => ?_⟩
    cases e
    have := h3 j u hj
    rw [addr_addQ] at this ⊢
    exact (hb.cell (p := ⟨b, off + j, none⟩) hbw).trans this

/-- A new slice of no change. -/
theorem owns_empty (w : World) : (w.alloc (.cells #[] 38)).ownsRow w.heap.size 38 4 (.slice (some ⟨w.heap.size, 0, none⟩) 0 0) 0 [] :=
  ⟨rfl, .inr ⟨w.heap.size, 0, #[], rfl, Nat.le_refl _, heap_alloc_new w _, Nat.le_refl _, Nat.zero_le _, rfl, rfl⟩⟩

/-- Push of changes that were handed in. -/
theorem push_ups (w : World) (B G R : Nat) (room : Int) (L l : List U) (p n c : Nat) (a : Option Addr) (h : Q w G R room L p) (hu : IsUps B w a n c l) (hf : Few l) (hB : B ≤ w.heap.size) (hG : B ≤ G) (hR : B ≤ R) (hm : L.length ≤ 10000) :
    Calls Try.prog 12 #[.pointer (some ⟨G, 0, none⟩), .slice a n c] w fun e w' => e = .returned (.int .i64 0) ∧ ∃ R', (R' = R ∨ w.heap.size ≤ R') ∧ Q w' G R' room (L ++ l) p ∧ Kp G R w w' := by
  have hlen := hu.len
  have h60 := hf.1
  refine push_ok w G R room L l p n c a h hlen (fun u hu' => ⟨by have := hf.2 u hu'; omega, hu.range u hu'⟩) (by omega) (fun hne => ?_)
  obtain ⟨b, off, e, hb, hus⟩ := hu.cells hne
  exact ⟨b, off, e, by omega, by omega, by omega, hus.keep rfl (fun k hP hk => ⟨rfl, by omega, by omega⟩) (Nat.le_refl _)⟩

theorem Q.real {w : World} {G R : Nat} {room : Int} {L : List U} {p : Nat} (h : Q w G R room L p) : ∃ R2, (R2 = R ∨ R2 = G) ∧ R2 < w.heap.size ∧ Q w G R2 room L p := by
  obtain ⟨S, f, ra, h⟩ := h
  by_cases hS : S = []
  · subst hS
    have hL : L = [] := by have := h.fits; simpa using this
    subst hL
    refine ⟨G, .inr rfl, h.lt, [], f, ra, h.obj, ?_, h.fits, h.most, fun i hi => by simp at hi, h.good⟩
    rcases h.ring with h1 | ⟨h1, _⟩
    · exact .inl h1
    · simp at h1
  · exact ⟨R, .inl rfl, (h.ne hS).2.2.2.2, S, f, ra, h⟩

theorem want_append {B base n ln : Nat} {w3 w5 : World} {G R : Nat} {v5 : Value} {L xl : List U} {S1 S2 : List Slot} (hown : w5.ownsRow base 38 4 v5 (0 + n + ln) (([] ++ flatS S1) ++ flatS S2)) (hS1 : S1.length = n) (hn : n = L.length) (hS2 : S2.length = ln) (hlen : xl.length = ln)
    (hR1 : ∀ i, i < L.length → Rd (fun k => k < B) w3 (S1.getD i s0) (L.getD i u0)) (hR2 : ∀ i, i < xl.length → Rd (fun k => k < B) w3 (S2.getD i s0) (xl.getD i u0)) (hb : Below w3.heap.size w3 w5) (hG : G < base) (hR : R < base) : IsWant B w5 G R v5 (L ++ xl) := by
  subst hn hlen
  rw [List.nil_append, ← flatS_append, Nat.zero_add, ← List.length_append] at hown
  refine IsWant.of_owns hown (by simp [hS1, hS2]) (fun i hi => ?_) hG hR
  rw [List.length_append] at hi
  by_cases h : i < L.length
  · rw [show (S1 ++ S2).getD i s0 = S1.getD i s0 by simp [List.getD, List.getElem?_append_left (show i < S1.length by omega)], show (L ++ xl).getD i u0 = L.getD i u0 by simp [List.getD, List.getElem?_append_left h]]
    exact (hR1 i h).keep (fun k hP hk => ⟨hb.block k hk, hP⟩) hb.size
  · rw [show (S1 ++ S2).getD i s0 = S2.getD (i - L.length) s0 by simp [List.getD, List.getElem?_append_right (show S1.length ≤ i by omega), hS1], show (L ++ xl).getD i u0 = xl.getD (i - L.length) u0 by simp [List.getD, List.getElem?_append_right (show L.length ≤ i by omega)]]
    exact (hR2 _ (by omega)).keep (fun k hP hk => ⟨hb.block k hk, hP⟩) hb.size

end Go.Proofs.Ytboeodcjcbgeaaa
