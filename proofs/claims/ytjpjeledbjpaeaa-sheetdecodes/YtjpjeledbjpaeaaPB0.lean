/-
  What is proved here: the bytes of plans as data; what a call may write that appends to bytes of its own; putNumber.
-/
import Derived.Test.YtjpjeledbjpaeaaSameQ
import Derived.Test.YtjpjeledbjpaeaaTxt
namespace Go.Proofs.Ytjpjeledbjpaeaa
open Go.RowKit Go.Proofs
set_option maxRecDepth 20000
set_option linter.unusedVariables false
set_option linter.unusedSimpArgs false

/-- A number's bytes. -/
def oneB (z : Int) : List Int := bytesOf (zig z).toNat

/-- How many there are, and each. -/
def listB {α : Type} (f : α → List Int) (l : List α) : List Int := bytesOf l.length ++ l.flatMap f

def numsB (l : List Int) : List Int := listB oneB l
def strB (s : ByteArray) : List Int := bytesOf s.size ++ nums s
def stepB (t : V) : List Int := oneB t.1 ++ (oneB t.2.1 ++ strB t.2.2)
def stepsB (l : List V) : List Int := listB stepB l
def exprsB (l : List (List V)) : List Int := listB stepsB l
def nodeB (x : Nd) : List Int := oneB x.kind ++ (numsB x.ins ++ (numsB x.kinds ++ (exprsB x.exprs ++ (numsB x.cols ++ (oneB x.key ++ (oneB x.n ++ (oneB x.size ++ oneB x.slide)))))))
def nodesB (l : List Nd) : List Int := listB nodeB l
def planB (p : Pl) : List Int := [80] ++ (oneB p.room ++ (numsB p.outs ++ nodesB p.nodes))

/-- All of a list are bytes. -/
def Byt (l : List Int) : Prop := ∀ z ∈ l, 0 ≤ z ∧ z < 256

theorem Byt.app {l r : List Int} (h : Byt l) (k : Byt r) : Byt (l ++ r) := fun z hz => by
  rcases List.mem_append.1 hz with hz | hz
  · exact h z hz
  · exact k z hz
theorem byt_one (z : Int) : Byt (oneB z) := bytesOf_range _
theorem byt_list {α : Type} (f : α → List Int) (l : List α) (h : ∀ x, Byt (f x)) : Byt (listB f l) := (show Byt (bytesOf _) from bytesOf_range _).app fun z hz => by
  obtain ⟨x, _, hx⟩ := List.mem_flatMap.1 hz
  exact h x z hx
theorem byt_step (t : V) : Byt (stepB t) := (byt_one _).app ((byt_one _).app ((show Byt (bytesOf _) from bytesOf_range _).app (nums_range _)))
theorem byt_node (x : Nd) : Byt (nodeB x) :=
  (byt_one _).app ((byt_list _ _ byt_one).app ((byt_list _ _ byt_one).app ((byt_list _ _ fun l => byt_list _ _ byt_step).app ((byt_list _ _ byt_one).app ((byt_one _).app ((byt_one _).app ((byt_one _).app (byt_one _))))))))
theorem byt_plan (p : Pl) : Byt (planB p) := Byt.app (fun z hz => by simp at hz; omega) ((byt_one _).app ((byt_list _ _ byt_one).app (byt_list _ _ byt_node)))

/-- A step that may be told. -/
structure TOK (t : V) : Prop where
  op : R64 t.1
  int : R64 t.2.1
  str : t.2.2.size ≤ 4096

/-- A node whose numbers are such, and whose steps may be told. -/
structure NdOK (x : Nd) : Prop where
  kind : R64 x.kind
  ins : ∀ z ∈ x.ins, R64 z
  kinds : ∀ z ∈ x.kinds, R64 z
  exprs : ∀ e ∈ x.exprs, e.length ≤ 64 ∧ ∀ t ∈ e, TOK t
  cols : ∀ z ∈ x.cols, R64 z
  key : R64 x.key
  n : R64 x.n
  size : R64 x.size
  slide : R64 x.slide
  n1 : x.ins.length ≤ 8
  n2 : x.kinds.length ≤ 16
  n3 : x.exprs.length ≤ 16
  n4 : x.cols.length ≤ 16

structure PlOK (p : Pl) : Prop where
  nodes : ∀ x ∈ p.nodes, NdOK x
  m1 : p.nodes.length ≤ 64
  m2 : p.outs.length ≤ 8
  outs : ∀ z ∈ p.outs, R64 z
  room : R64 p.room

theorem zig_small {z : Int} (h : R64 z) : (zig z).toNat < 18446744073709551616 := by
  have := zig_range z h.1 h.2
  omega

theorem len_one {z : Int} (h : R64 z) : (oneB z).length ≤ 10 := by
  unfold oneB
  rw [length_bytesOf]
  exact sz_le_ten _ (zig_small h)

theorem len_flat {α : Type} (f : α → List Int) (m : Nat) : ∀ l : List α, (∀ x ∈ l, (f x).length ≤ m) → (l.flatMap f).length ≤ l.length * m
  | [], _ => by simp
  | x :: l, h => by
    rw [List.flatMap_cons, List.length_append, List.length_cons, Nat.add_mul]
    have h1 := h x (by simp)
    have h2 := len_flat f m l fun y hy => h y (List.mem_cons_of_mem _ hy)
    omega

theorem len_list {α : Type} (f : α → List Int) (m k : Nat) (l : List α) (hk : l.length ≤ k) (hk1 : k ≤ 1000000000) (h : ∀ x ∈ l, (f x).length ≤ m) : (listB f l).length ≤ 10 + k * m := by
  unfold listB
  have h1 := len_flat f m l h
  have h2 := sz_le_ten l.length (by omega)
  have h3 : l.length * m ≤ k * m := Nat.mul_le_mul_right _ hk
  rw [List.length_append, length_bytesOf]
  omega

theorem len_step {t : V} (h : TOK t) : (stepB t).length ≤ 4126 := by
  have h1 := len_one h.op
  have h2 := len_one h.int
  have h3 := sz_le_ten t.2.2.size (by have := h.str; omega)
  have := h.str
  simp only [stepB, strB, List.length_append, length_bytesOf, nums_length]
  omega

theorem len_node {x : Nd} (h : NdOK x) : (nodeB x).length ≤ 5000000 := by
  have a0 := len_one h.kind
  have a5 := len_one h.key
  have a6 := len_one h.n
  have a7 := len_one h.size
  have a8 := len_one h.slide
  have a1 := len_list oneB 10 8 x.ins h.n1 (by omega) fun z hz => len_one (h.ins z hz)
  have a2 := len_list oneB 10 16 x.kinds h.n2 (by omega) fun z hz => len_one (h.kinds z hz)
  have a4 := len_list oneB 10 16 x.cols h.n4 (by omega) fun z hz => len_one (h.cols z hz)
  have a3 := len_list stepsB (10 + 64 * 4126) 16 x.exprs h.n3 (by omega) fun l hl => len_list stepB 4126 64 l (h.exprs l hl).1 (by omega) fun t ht => len_step ((h.exprs l hl).2 t ht)
  simp only [nodeB, numsB, exprsB, List.length_append]
  omega

theorem len_plan {p : Pl} (h : PlOK p) : (planB p).length ≤ 900000000 := by
  have a0 := len_one h.room
  have a1 := len_list oneB 10 8 p.outs h.m2 (by omega) fun z hz => len_one (h.outs z hz)
  have a2 := len_list nodeB 5000000 64 p.nodes h.m1 (by omega) fun x hx => len_node (h.nodes x hx)
  simp only [planB, numsB, nodesB, List.length_append, List.length_cons, List.length_nil]
  omega

/-- Nothing below base, and no block but such of bytes, has changed. -/
structure Kb (base : Nat) (w w' : World) : Prop where
  os : w'.os = w.os
  tape : w'.tape = w.tape
  output : w'.output = w.output
  size : w.heap.size ≤ w'.heap.size
  block : ∀ k, k < w.heap.size → (k < base ∨ ∀ c z, w.heap[k]? ≠ some (.cells c 5 z)) → w'.heap[k]? = w.heap[k]?

theorem Kb.refl (base : Nat) (w : World) : Kb base w w := ⟨rfl, rfl, rfl, Nat.le_refl _, fun _ _ _ => rfl⟩

theorem Kb.trans {base : Nat} {a b c : World} (h : Kb base a b) (k : Kb base b c) : Kb base a c := by
  refine ⟨k.os.trans h.os, k.tape.trans h.tape, k.output.trans h.output, Nat.le_trans h.size k.size, fun i hi hc => ?_⟩
  have e := h.block i hi hc
  rw [k.block i (Nat.lt_of_lt_of_le hi h.size) (by rw [e]; exact hc), e]

theorem Kb.below {base : Nat} {w w' : World} (h : Kb base w w') (hB : base ≤ w.heap.size) : Below base w w' :=
  ⟨h.os, h.tape, h.output, h.size, fun k hk => h.block k (by omega) (.inl hk)⟩

theorem Kb.of_below {base : Nat} {w w' : World} (h : Below w.heap.size w w') : Kb base w w' := ⟨h.os, h.tape, h.output, h.size, fun k hk _ => h.block k hk⟩

theorem Kb.alloc {base : Nat} {w w' : World} (h : Kb base w w') (o : Obj) : Kb base w (w'.alloc o) := h.trans (Kb.of_below ((Below.refl _ _).alloc (Nat.le_refl _) o))

theorem Kb.grown {base : Nat} {w w' : World} {v : Value} {n : Nat} {xs : List Value} (h : w.grownBy w' v.ownBlock) (ho : w.ownsRow base 5 1 v n xs) : Kb base w w' := by
  refine ⟨h.os, h.tape, h.output, h.size, fun k hk hc => h.block k hk fun e => ?_⟩
  have h1 := ho.lt k e.symm
  rcases ho.2 with ⟨rfl, _⟩ | ⟨g, cap, cur, rfl, _, hg, _⟩
  · simp [Value.ownBlock] at e
  · simp [Value.ownBlock] at e
    subst e
    rcases hc with hc | hc
    · omega
    · exact hc _ _ hg

theorem owns_below {base e sz n : Nat} {w w' : World} {v : Value} {xs : List Value} (h : w.ownsRow base e sz v n xs) (hb : Below w.heap.size w w') : w'.ownsRow base e sz v n xs := by
  have hg : w.grownBy w' none := ⟨hb.os, hb.tape, hb.output, hb.size, fun k hk _ => hb.block k hk⟩
  refine h.kept hg ?_
  cases v.ownBlock with
  | none => exact .inl rfl
  | some k => exact .inr (by simp)

/-- v is a slice of bytes of the call's own that reads as l. -/
def Own (base : Nat) (w : World) (v : Value) (l : List Int) : Prop := w.ownsRow base 5 1 v l.length (B8 l)

/-- What a call answers that puts r behind its own bytes l. -/
def PutAns (base : Nat) (w : World) (l r : List Int) (e : Ending) (w' : World) : Prop := ∃ v, e = .returned v ∧ Own base w' v (l ++ r) ∧ Kb base w w'

theorem putNumber_any (base : Nat) (w : World) (v : Value) (l : List Int) (z : Int) (hB : base ≤ w.heap.size) (ho : Own base w v l) (hz : R64 z) (hl : (l ++ oneB z).length ≤ 1000000000) :
    Calls Try.prog 18 #[v, .int .i64 z] w (PutAns base w l (oneB z)) := by
  obtain ⟨i0, hi, hz0, hz1, hz2⟩ := info_parts Try.info5
  have H := hid' (putInt_any w none 0 [] z (Bts.nil _ _ _) (by simp) hz.1 hz.2)
  have HL := hid' hl
  have HO := hid' ho
  unfold oneB at HL ⊢
  rw [List.length_append, length_bytesOf] at HL
  simp only [List.length_nil, Nat.zero_add, List.nil_append] at H
  generalize (zig z).toNat = m at *
  clear hl ho hz
  go_enter Try.func18, Try.ntmps18
  go_wp2_with fail
  refine H.out.mono ?_
  rintro e w2 ⟨g, c, rfl, hown, hbel⟩
  have HW := hid' (owns_below HO.out hbel)
  have HS := hid' (hbel.size)
  go_wp2_with (first
    | (at_builtin; refine wpList_append_own _ rfl (.tmp 5) (.tmp 7) 28 rfl base 5 i0 (.int .u8 0) 1 1 Try.underlying28 hi hz0 hz1 hz2 rfl (by decide) v l.length (B8 l) rfl HW.out ⟨g, 0, none⟩ (sz m) c (B8 (bytesOf m)) rfl (by rw [length_B8, length_bytesOf]; omega) (hown.cells rfl) (B8_one _) (by have := HL.out; unfold maxLen; omega) (by have := HL.out; omega) (by have := HS.out; omega) ?_; intro v' w1 hown1 hgrow1 hnil1))
  have K := hid' ((Kb.of_below (base := base) hbel).trans (Kb.grown hgrow1 HW.out))
  have O : Hid (Own base w1 v' (l ++ bytesOf m)) := (by
    unfold Own
    rw [B8_append, List.length_append, length_bytesOf]
    exact hown1 : Own base w1 v' (l ++ bytesOf m))
  clear hown1 hgrow1 hnil1 hown hbel HW
  go_wp2
  go_ret
  exact ⟨v', rfl, O.out, K.out⟩

end Go.Proofs.Ytjpjeledbjpaeaa
