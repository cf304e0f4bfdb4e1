/-
  What is proved here: a reader in memory; the program's move, number, count and text: what they read, and that nothing but the reader has changed.
-/
import Derived.Test.YtjpjeledbjpaeaaReg6
import Derived.Test.YtjpjeledbjpaeaaPF
import Derived.Test.YtjpjeledbjpaeaaReg6
namespace Go.Proofs.Ytjpjeledbjpaeaa
open Go.RowKit Go.Proofs
set_option maxRecDepth 20000
set_option linter.unusedVariables false
set_option linter.unusedSimpArgs false

theorem mixed' : Try.prog.follows .mixedOrders = true := by kernel_rfl

/-- Nothing that was there has changed but block g. -/
structure But (g : Nat) (w w' : World) : Prop where
  os : w'.os = w.os
  tape : w'.tape = w.tape
  output : w'.output = w.output
  size : w.heap.size ≤ w'.heap.size
  block : ∀ k, k < w.heap.size → k ≠ g → w'.heap[k]? = w.heap[k]?

theorem But.refl (g : Nat) (w : World) : But g w w := ⟨rfl, rfl, rfl, Nat.le_refl _, fun _ _ _ => rfl⟩
theorem But.trans {g : Nat} {a b c : World} (h : But g a b) (k : But g b c) : But g a c :=
  ⟨k.os.trans h.os, k.tape.trans h.tape, k.output.trans h.output, Nat.le_trans h.size k.size, fun i hi hg => (k.block i (Nat.lt_of_lt_of_le hi h.size) hg).trans (h.block i hi hg)⟩
theorem But.of_below {g : Nat} {w w' : World} (h : Below w.heap.size w w') : But g w w' := ⟨h.os, h.tape, h.output, h.size, fun k hk _ => h.block k hk⟩
theorem But.below {g : Nat} {w w' : World} (h : But g w w') (hg : g ≤ w.heap.size) : Below g w w' := ⟨h.os, h.tape, h.output, h.size, fun k hk => h.block k (by omega) (by omega)⟩
theorem But.setCell (g i : Nat) (w : World) (v : Value) : But g w (w.setCell ⟨g, i, none⟩ v) :=
  have b : Below g w (w.setCell ⟨g, i, none⟩ v) := (Below.refl g w).setCell (p := ⟨g, i, none⟩) (Nat.le_refl _) v
  ⟨b.os, b.tape, b.output, b.size, fun k _ hk => Below.heap_setCell _ _ _ _ hk⟩
theorem But.alloc {g : Nat} {w w' : World} (h : But g w w') (o : Obj) : But g w (w'.alloc o) := h.trans (But.of_below ((Below.refl _ _).alloc (Nat.le_refl _) o))

theorem Bx.setCell {w : World} {g i : Nat} {cs : Array Value} {t : TypeId} {v : Value} (h : Bx w g cs t) : Bx (w.setCell ⟨g, i, none⟩ v) g (cs.setIfInBounds i v) t := by
  rw [setCell_eq_setRow w g i cs t (0, 0) v h]
  exact h.set

theorem Bx.but {w w' : World} {g b : Nat} {cs : Array Value} {t : TypeId} (h : Bx w b cs t) (k : But g w w') (hb : b ≠ g) : Bx w' b cs t := (k.block b h.lt hb).trans h

theorem Bx.frozen {w : World} {g : Nat} {cs : Array Value} {t : TypeId} (h : Bx w g cs t) (i : Nat) : w.frozen? ⟨g, i, none⟩ = false := by
  unfold Bx at h
  simp [World.frozen?, h]

set_option maxHeartbeats 2000000 in
theorem move_good (w : World) (g : Nat) (s : Value) (a next : Int) (h : Bx w g #[s, .int .i64 a, .bool false] 55) :
    Calls Try.prog 68 #[.pointer (some ⟨g, 0, none⟩), .int .i64 next, .int .i64 0] w fun e w' => (∃ v, e = .returned v) ∧ Bx w' g #[s, .int .i64 next, .bool false] 55 ∧ But g w w' := by
  have c2 : w.cell? ⟨g, 2, none⟩ = some (.bool false) := h.cell 2
  have c1 : w.cell? ⟨g, 1, none⟩ = some (.int .i64 a) := h.cell 1
  have f2 := h.frozen 2
  have h2 : Bx (w.setCell ⟨g, 2, none⟩ (.bool false)) g #[s, .int .i64 a, .bool false] 55 := h.setCell (i := 2)
  have d2 : (w.setCell ⟨g, 2, none⟩ (.bool false)).cell? ⟨g, 2, none⟩ = some (.bool false) := h2.cell 2
  have d1 : (w.setCell ⟨g, 2, none⟩ (.bool false)).cell? ⟨g, 1, none⟩ = some (.int .i64 a) := h2.cell 1
  have f1 := h2.frozen 1
  have HB : Hid (Bx ((w.setCell ⟨g, 2, none⟩ (.bool false)).setCell ⟨g, 1, none⟩ (.int .i64 next)) g #[s, .int .i64 next, .bool false] 55) := (h2.setCell (i := 1) : _)
  have HG := hid' ((But.setCell g 2 w (.bool false)).trans (But.setCell g 1 _ (.int .i64 next)))
  clear h h2
  go_enter Try.func68, Try.ntmps68
  go_wp2
  go_end0
  exact ⟨⟨_, rfl⟩, HB.out, HG.out⟩

set_option maxHeartbeats 2000000 in
theorem move_bad (w : World) (g : Nat) (s : Value) (a next e0 : Int) (he : e0 ≠ 0) (h : Bx w g #[s, .int .i64 a, .bool false] 55) :
    Calls Try.prog 68 #[.pointer (some ⟨g, 0, none⟩), .int .i64 next, .int .i64 e0] w fun e w' => (∃ v, e = .returned v) ∧ Bx w' g #[s, .int .i64 a, .bool true] 55 ∧ But g w w' := by
  have c2 : w.cell? ⟨g, 2, none⟩ = some (.bool false) := h.cell 2
  have f2 := h.frozen 2
  have h2 : Bx (w.setCell ⟨g, 2, none⟩ (.bool true)) g #[s, .int .i64 a, .bool true] 55 := h.setCell (i := 2)
  have d2 : (w.setCell ⟨g, 2, none⟩ (.bool true)).cell? ⟨g, 2, none⟩ = some (.bool true) := h2.cell 2
  have HB := hid' h2
  have HG := hid' (But.setCell g 2 w (.bool true))
  have hb : (e0 != 0) = true := by simpa using he
  clear he
  clear h h2
  go_enter Try.func68, Try.ntmps68
  go_wp2
  go_end0
  exact ⟨⟨_, rfl⟩, HB.out, HG.out⟩

set_option maxHeartbeats 2000000 in
theorem move_was (w : World) (g : Nat) (s : Value) (a next e0 : Int) (h : Bx w g #[s, .int .i64 a, .bool true] 55) :
    Calls Try.prog 68 #[.pointer (some ⟨g, 0, none⟩), .int .i64 next, .int .i64 e0] w fun e w' => (∃ v, e = .returned v) ∧ Bx w' g #[s, .int .i64 a, .bool true] 55 ∧ But g w w' := by
  have c2 : w.cell? ⟨g, 2, none⟩ = some (.bool true) := h.cell 2
  have f2 := h.frozen 2
  have h2 : Bx (w.setCell ⟨g, 2, none⟩ (.bool true)) g #[s, .int .i64 a, .bool true] 55 := h.setCell (i := 2)
  have d2 : (w.setCell ⟨g, 2, none⟩ (.bool true)).cell? ⟨g, 2, none⟩ = some (.bool true) := h2.cell 2
  have HB := hid' h2
  have HG := hid' (But.setCell g 2 w (.bool true))
  clear h h2
  go_enter Try.func68, Try.ntmps68
  go_wp2
  go_end0
  exact ⟨⟨_, rfl⟩, HB.out, HG.out⟩

/-- A reader in block g goes through the bytes l, which lie at ba; s: what is left, or none if something was wrong. -/
def RdS (ty : TypeId) (w : World) (g : Nat) (ba : Option Addr) (cap : Nat) (l : List Int) (s : Option (List Int)) : Prop :=
  ∃ at' : Nat, at' ≤ l.length ∧ ((∃ r, s = some r ∧ l.drop at' = r ∧ Bx w g #[.slice ba l.length cap, .int .i64 (at' : Int), .bool false] ty) ∨ (s = none ∧ Bx w g #[.slice ba l.length cap, .int .i64 (at' : Int), .bool true] ty))

theorem RdS.lt {ty : TypeId} {w : World} {g : Nat} {ba : Option Addr} {cap : Nat} {l : List Int} {s : Option (List Int)} (h : RdS ty w g ba cap l s) : g < w.heap.size := by
  obtain ⟨a, _, ⟨r, _, _, hb⟩ | ⟨_, hb⟩⟩ := h <;> exact hb.lt

theorem RdS.keep {ty : TypeId} {w w' : World} {g : Nat} {ba : Option Addr} {cap : Nat} {l : List Int} {s : Option (List Int)} (h : RdS ty w g ba cap l s) (hb : Below w.heap.size w w') : RdS ty w' g ba cap l s := by
  obtain ⟨a, h1, ⟨r, h2, h3, h4⟩ | ⟨h2, h4⟩⟩ := h
  · exact ⟨a, h1, .inl ⟨r, h2, h3, h4.keep hb⟩⟩
  · exact ⟨a, h1, .inr ⟨h2, h4.keep hb⟩⟩

theorem getRel_total (l : List Int) (at' : Int) : ∃ n next er, GetRel l at' n next er := by
  by_cases h : at' < 0 ∨ (l.length : Int) < at'
  · exact ⟨0, 0, 9, Or.inl ⟨h, rfl, rfl, rfl⟩⟩
  · by_cases hh : ∃ m, Hit (l.drop at'.toNat) m
    · obtain ⟨m, hm⟩ := hh
      exact ⟨m, at' + sz m, 0, Or.inr (Or.inl ⟨by omega, by omega, by omega, by simpa using hm, by simp, rfl⟩)⟩
    · exact ⟨0, 0, 6, Or.inr (Or.inr ⟨by omega, by omega, fun m hm => hh ⟨m, hm⟩, rfl, rfl, rfl⟩)⟩

theorem zig_unzig {n : Int} (h0 : 0 ≤ n) : zig (unzig n) = n := by
  unfold zig unzig
  by_cases h : n % 2 = 1
  · rw [if_pos h, if_pos (by omega)]; omega
  · rw [if_neg h, if_neg (by omega)]; omega

theorem unzig_rng {n : Int} (h0 : 0 ≤ n) (h1 : n ≤ 18446744073709551615) : R64 (unzig n) := by
  unfold R64 unzig
  by_cases h : n % 2 = 1
  · rw [if_pos h]; omega
  · rw [if_neg h]; omega

theorem drop_hit {l : List Int} {at' n : Nat} (h : (l.drop at').take (sz n) = bytesOf n) : l.drop at' = bytesOf n ++ l.drop (at' + sz n) := by
  have e : l.drop at' = (l.drop at').take (sz n) ++ (l.drop at').drop (sz n) := (List.take_append_drop _ _).symm
  rw [e, h, List.drop_drop]

/-- A number that is told. -/
theorem get_yes {l : List Int} {at' : Nat} {n next : Int} (h : GetRel l (at' : Int) n next 0) : l.drop at' = bytesOf n.toNat ++ l.drop next.toNat ∧ 0 ≤ n ∧ n ≤ 18446744073709551615 ∧ (next.toNat : Int) = next ∧ next.toNat ≤ l.length := by
  obtain ⟨h0, h1, h2, h3, h4, h5, _⟩ := h.yes
  rw [Int.toNat_natCast] at h3
  have e := drop_hit h3
  have en : next.toNat = at' + sz n.toNat := by omega
  rw [en]
  exact ⟨e, h1, h2, by omega, by omega⟩

/-- None is told. -/
theorem get_no {l : List Int} {at' : Nat} {n next er : Int} (ha : at' ≤ l.length) (h : GetRel l (at' : Int) n next er) (he : er ≠ 0) : ∀ m r, m < 18446744073709551616 → l.drop at' ≠ bytesOf m ++ r := by
  intro m r hm e
  have hit : Hit (l.drop at') m := ⟨hm, by rw [e, List.take_append_of_le_length (by rw [length_bytesOf]; exact Nat.le_refl _), List.take_of_length_le (by rw [length_bytesOf]; exact Nat.le_refl _)]⟩
  rcases h with ⟨a, _⟩ | ⟨_, _, _, _, _, rfl⟩ | ⟨_, _, c, _⟩
  · omega
  · exact he rfl
  · exact c m (by simpa using hit)

section
variable {a : Act} {t u c : Nat} {dst : Option Tmp} {ty : TypeId} {pos : String} {aft : Array Edge} {guard : Option (Nat × Bool)}

theorem run_nilc {g : Nat} (w : World) (h : PB.slot a t = ptr g) : (execOp a.eval { dst := dst, op := .nilCheck (.tmp t), type := ty, pos := pos, after := aft, guard := guard }).run Try.prog w = .ok (.value (ptr g)) w := by
  have h1 : a.tmps[t]?.getD undef = ptr g := by rw [← Array.getD_eq_getD_getElem?]; exact h
  unfold ptr at *
  go_simp

theorem run_loadBy {g k : Nat} {x : Option Addr} {n m : Nat} (w : World) (h : PB.slot a t = .pointer (some ⟨g, k, none⟩)) (hc : w.cell? ⟨g, k, none⟩ = some (.slice x n m)) :
    (execOp a.eval { dst := dst, op := .load 28 (.tmp t), type := ty, pos := pos, after := aft, guard := guard }).run Try.prog w = .ok (.value (.slice x n m)) w := by
  have h0 : a.tmps[t]?.getD undef = .pointer (some ⟨g, k, none⟩) := by rw [← Array.getD_eq_getD_getElem?]; exact h
  go_simp

theorem run_loadZ {g k : Nat} {z : Int} (w : World) (h : PB.slot a t = .pointer (some ⟨g, k, none⟩)) (hc : w.cell? ⟨g, k, none⟩ = some (.int .i64 z)) :
    (execOp a.eval { dst := dst, op := .load 3 (.tmp t), type := ty, pos := pos, after := aft, guard := guard }).run Try.prog w = .ok (.value (.int .i64 z)) w := by
  have h0 : a.tmps[t]?.getD undef = .pointer (some ⟨g, k, none⟩) := by rw [← Array.getD_eq_getD_getElem?]; exact h
  go_simp

theorem run_ext0 {x y z : Value} (w : World) (h : PB.slot a t = .tuple #[x, y, z]) : (execOp a.eval { dst := dst, op := .extract (.tmp t) 0, type := ty, pos := pos, after := aft, guard := guard }).run Try.prog w = .ok (.value x) w := by
  have h1 : a.tmps[t]?.getD undef = .tuple #[x, y, z] := by rw [← Array.getD_eq_getD_getElem?]; exact h
  go_simp
theorem run_ext1 {x y z : Value} (w : World) (h : PB.slot a t = .tuple #[x, y, z]) : (execOp a.eval { dst := dst, op := .extract (.tmp t) 1, type := ty, pos := pos, after := aft, guard := guard }).run Try.prog w = .ok (.value y) w := by
  have h1 : a.tmps[t]?.getD undef = .tuple #[x, y, z] := by rw [← Array.getD_eq_getD_getElem?]; exact h
  go_simp
theorem run_ext2 {x y z : Value} (w : World) (h : PB.slot a t = .tuple #[x, y, z]) : (execOp a.eval { dst := dst, op := .extract (.tmp t) 2, type := ty, pos := pos, after := aft, guard := guard }).run Try.prog w = .ok (.value z) w := by
  have h1 : a.tmps[t]?.getD undef = .tuple #[x, y, z] := by rw [← Array.getD_eq_getD_getElem?]; exact h
  go_simp
theorem run_fReader0 {g : Nat} (w : World) (h : PB.slot a t = ptr g) : (execOp a.eval { dst := dst, op := .fieldAddr 55 (.tmp t) 0, type := ty, pos := pos, after := aft, guard := guard }).run Try.prog w = .ok (.value (.pointer (some ⟨g, 0, none⟩))) w := by
  have h1 : a.tmps[t]?.getD undef = ptr g := by rw [← Array.getD_eq_getD_getElem?]; exact h
  unfold ptr at *
  go_simp
theorem run_fReader1 {g : Nat} (w : World) (h : PB.slot a t = ptr g) : (execOp a.eval { dst := dst, op := .fieldAddr 55 (.tmp t) 1, type := ty, pos := pos, after := aft, guard := guard }).run Try.prog w = .ok (.value (.pointer (some ⟨g, 1, none⟩))) w := by
  have h1 : a.tmps[t]?.getD undef = ptr g := by rw [← Array.getD_eq_getD_getElem?]; exact h
  unfold ptr at *
  go_simp
theorem run_fFrom0 {g : Nat} (w : World) (h : PB.slot a t = ptr g) : (execOp a.eval { dst := dst, op := .fieldAddr 67 (.tmp t) 0, type := ty, pos := pos, after := aft, guard := guard }).run Try.prog w = .ok (.value (.pointer (some ⟨g, 0, none⟩))) w := by
  have h1 : a.tmps[t]?.getD undef = ptr g := by rw [← Array.getD_eq_getD_getElem?]; exact h
  unfold ptr at *
  go_simp
theorem run_fFrom1 {g : Nat} (w : World) (h : PB.slot a t = ptr g) : (execOp a.eval { dst := dst, op := .fieldAddr 67 (.tmp t) 1, type := ty, pos := pos, after := aft, guard := guard }).run Try.prog w = .ok (.value (.pointer (some ⟨g, 1, none⟩))) w := by
  have h1 : a.tmps[t]?.getD undef = ptr g := by rw [← Array.getD_eq_getD_getElem?]; exact h
  unfold ptr at *
  go_simp
end

/-- What a reader's call answers: something of D, as bytes f tell it. -/
def RdAns {α : Type} (ty : TypeId) (f : α → List Int) (D : α → Prop) (mk : α → Value) (w : World) (g : Nat) (ba : Option Addr) (cap : Nat) (l : List Int) (s : Option (List Int)) (e : Ending) (w' : World) : Prop :=
  ∃ x s', e = .returned (mk x) ∧ Rd f D s x s' ∧ RdS ty w' g ba cap l s' ∧ But g w w'

theorem rd_yes {α : Type} {ty : TypeId} {f : α → List Int} {D : α → Prop} {mk : α → Value} {w w' : World} {g : Nat} {ba : Option Addr} {cap : Nat} {l : List Int} {at' nx : Nat} {x : α} (hD : D x) (he : l.drop at' = f x ++ l.drop nx) (hn : nx ≤ l.length) (hb : Bx w' g #[.slice ba l.length cap, .int .i64 (nx : Int), .bool false] ty) (hg : But g w w') :
    RdAns ty f D mk w g ba cap l (some (l.drop at')) (.returned (mk x)) w' := ⟨x, some (l.drop nx), rfl, ⟨hD, he⟩, ⟨nx, hn, .inl ⟨_, rfl, rfl, hb⟩⟩, hg⟩

theorem rd_no {α : Type} {ty : TypeId} {f : α → List Int} {D : α → Prop} {mk : α → Value} {w w' : World} {g : Nat} {ba : Option Addr} {cap : Nat} {l : List Int} {at' : Nat} (x : α) {v : Value} (hv : v = mk x) {s : Option (List Int)} (hs : s = none ∨ (s = some (l.drop at') ∧ ∀ y r, D y → l.drop at' ≠ f y ++ r)) (hn : at' ≤ l.length) (hb : Bx w' g #[.slice ba l.length cap, .int .i64 (at' : Int), .bool true] ty) (hg : But g w w') :
    RdAns ty f D mk w g ba cap l s (.returned v) w' := by
  refine ⟨x, none, by rw [hv], ?_, ⟨at', hn, .inr ⟨rfl, hb⟩⟩, hg⟩
  rcases hs with rfl | ⟨rfl, h⟩
  · trivial
  · exact h

set_option maxHeartbeats 4000000 in
theorem number_any (w : World) (g : Nat) (ba : Option Addr) (cap : Nat) (l : List Int) (s : Option (List Int)) (hr : RdS 55 w g ba cap l s) (hb : Bts g w ba l) (hc : l.length ≤ cap) (hl : l.length ≤ 1000000000) :
    Calls Try.prog 48 #[.pointer (some ⟨g, 0, none⟩)] w (RdAns 55 oneB R64 (Value.int .i64) w g ba cap l s) := by
  have hgl := hr.lt
  obtain ⟨at', ha, hs⟩ := hr
  obtain ⟨n, next, er, hrel⟩ := getRel_total l (at' : Int)
  obtain ⟨bad, hbx⟩ : ∃ bad : Bool, Bx w g #[.slice ba l.length cap, .int .i64 (at' : Int), .bool bad] 55 := by
    rcases hs with ⟨r, _, _, h⟩ | ⟨_, h⟩
    · exact ⟨_, h⟩
    · exact ⟨_, h⟩
  have HC : Hid (∀ W, Below w.heap.size w W → W.cell? ⟨g, 0, none⟩ = some (.slice ba l.length cap) ∧ W.cell? ⟨g, 1, none⟩ = some (.int .i64 (at' : Int))) := fun W hB => ⟨(hbx.keep hB).cell 0, (hbx.keep hB).cell 1⟩
  have HBT : Hid (∀ W, Below w.heap.size w W → Bts W.heap.size W ba l) := fun W hB => (hb.keep (hB.mono (Nat.le_of_lt hgl))).mono (by have := hB.size; omega)
  have HG : Hid (∀ W, Below w.heap.size w W → Calls Try.prog 67 #[.slice ba l.length cap, .int .i64 (at' : Int)] W fun e w' => ∃ v, e = .returned v ∧ Below W.heap.size W w' ∧ PB.E (.tuple #[.int .i64 (unzig n), .int .i64 next, .int .i64 er]) v w') := fun W hB => (getInt_any W ba cap l at' (HBT.out W hB) hc (by omega)).mono (by
    rintro e w' ⟨⟨n', next', er', rfl, h'⟩, hw⟩
    obtain ⟨rfl, rfl, rfl⟩ := hrel.uniq h'
    exact ⟨_, rfl, (by rw [hw]; exact Below.refl _ _), rfl⟩)
  have HS := hid' hs
  clear hs hb hbx
  go_enter Try.func48, Try.ntmps48
  go_wp2_with fail
  refine PT.wp_region_tail 16 (PB.phi [PB.E (ptr g), PB.E (ptr g), PB.E (.pointer (some ⟨g, 0, none⟩)), PB.E (.slice ba l.length cap), PB.E (ptr g), PB.E (ptr g), PB.E (.pointer (some ⟨g, 1, none⟩)), PB.E (.int .i64 (at' : Int)), PB.E (.tuple #[.int .i64 (unzig n), .int .i64 next, .int .i64 er]), PB.E (.tuple #[.int .i64 (unzig n), .int .i64 next, .int .i64 er]), PB.E (.int .i64 (unzig n)), PB.E (.int .i64 next), PB.E (.int .i64 er), PB.E (.int .i64 (unzig n)), PB.E (.int .i64 next), PB.E (.int .i64 er)]) mixed' (by kernel_rfl)
    (PB.phi_lasts _ ⟨PB.E_lasts _, PB.E_lasts _, PB.E_lasts _, PB.E_lasts _, PB.E_lasts _, PB.E_lasts _, PB.E_lasts _, PB.E_lasts _, PB.E_lasts _, PB.E_lasts _, PB.E_lasts _, PB.E_lasts _, PB.E_lasts _, PB.E_lasts _, PB.E_lasts _, PB.E_lasts _, trivial⟩) ?_ ?_
  · refine ⟨?_, ?_, ?_, ?_, ?_, ?_, ?_, ?_, ?_, ?_, ?_, ?_, ?_, ?_, ?_, ?_, trivial⟩ <;> intro A W hB hS hA hF
    · exact Or.inl (PB.does_move (PB.wanted_free rfl) rfl (hS.slots 0 rfl))
    · exact Or.inl (PB.does_run (PB.wanted_free rfl) (run_nilc W (hA 0 rfl)) rfl)
    · exact Or.inl (PB.does_run (PB.wanted_free rfl) (run_fReader0 W (hA 1 rfl)) rfl)
    · exact Or.inl (PB.does_run (PB.wanted_free rfl) (run_loadBy W (hA 2 rfl) (HC.out W hB).1) rfl)
    · exact Or.inl (PB.does_move (PB.wanted_free rfl) rfl (hS.slots 0 rfl))
    · exact Or.inl (PB.does_run (PB.wanted_free rfl) (run_nilc W (hA 4 rfl)) rfl)
    · exact Or.inl (PB.does_run (PB.wanted_free rfl) (run_fReader1 W (hA 5 rfl)) rfl)
    · exact Or.inl (PB.does_run (PB.wanted_free rfl) (run_loadZ W (hA 6 rfl) (HC.out W hB).2) rfl)
    · exact Or.inl (PB.does_call #[.slice ba l.length cap, .int .i64 (at' : Int)] (PB.wanted_free rfl) rfl Try.func67 rfl rfl (by show [PB.slot A 10, PB.slot A 14] = _; rw [show PB.slot A 10 = .slice ba l.length cap from hA 3 rfl, show PB.slot A 14 = .int .i64 (at' : Int) from hA 7 rfl]) (HG.out W hB))
    · exact Or.inl (PB.does_move (PB.wanted_free rfl) rfl (hA 8 rfl))
    · exact Or.inl (PB.does_run (PB.wanted_free rfl) (run_ext0 W (hA 9 rfl)) rfl)
    · exact Or.inl (PB.does_run (PB.wanted_free rfl) (run_ext1 W (hA 9 rfl)) rfl)
    · exact Or.inl (PB.does_run (PB.wanted_free rfl) (run_ext2 W (hA 9 rfl)) rfl)
    · exact Or.inl (PB.does_assign (PB.wanted_free rfl) rfl (hA 10 rfl))
    · exact Or.inl (PB.does_assign (PB.wanted_free rfl) rfl (hA 11 rfl))
    · exact Or.inl (PB.does_assign (PB.wanted_free rfl) rfl (hA 12 rfl))
  · intro A W hB hS hL
    have h_7 : PB.slot A 7 = ptr g := hL 0 (by decide)
    have h_8 : PB.slot A 8 = ptr g := hL 1 (by decide)
    have h_9 : PB.slot A 9 = .pointer (some ⟨g, 0, none⟩) := hL 2 (by decide)
    have h_10 : PB.slot A 10 = .slice ba l.length cap := hL 3 (by decide)
    have h_11 : PB.slot A 11 = ptr g := hL 4 (by decide)
    have h_12 : PB.slot A 12 = ptr g := hL 5 (by decide)
    have h_13 : PB.slot A 13 = .pointer (some ⟨g, 1, none⟩) := hL 6 (by decide)
    have h_14 : PB.slot A 14 = .int .i64 (at' : Int) := hL 7 (by decide)
    have h_15 : PB.slot A 15 = .tuple #[.int .i64 (unzig n), .int .i64 next, .int .i64 er] := hL 8 (by decide)
    have h_6 : PB.slot A 6 = .tuple #[.int .i64 (unzig n), .int .i64 next, .int .i64 er] := hL 9 (by decide)
    have h_16 : PB.slot A 16 = .int .i64 (unzig n) := hL 10 (by decide)
    have h_17 : PB.slot A 17 = .int .i64 next := hL 11 (by decide)
    have h_18 : PB.slot A 18 = .int .i64 er := hL 12 (by decide)
    have h_3 : PB.slot A 3 = .int .i64 (unzig n) := hL 13 (by decide)
    have h_4 : PB.slot A 4 = .int .i64 next := hL 14 (by decide)
    have h_5 : PB.slot A 5 = .int .i64 er := hL 15 (by decide)
    have q_0 : PB.slot A 0 = ptr g := hS.slots 0 rfl
    have q_2 : PB.slot A 2 = .int .i64 0 := hS.slots 2 rfl
    have hA := PT.frame_of (A := A) (n := 24) hS.size
    have hd : A.defers = [] := hS.defers
    rw [hd] at hA
    obtain ⟨fr, hf⟩ : ∃ f, PB.slot A = f := ⟨_, rfl⟩
    rw [hf] at hA h_7 h_8 h_9 h_10 h_11 h_12 h_13 h_14 h_15 h_6 h_16 h_17 h_18 h_3 h_4 h_5 q_0 q_2
    rw [hA]
    clear hA hf hd hL hS
    simp only [List.range, List.range.loop, List.map_cons, List.map_nil, List.drop_succ_cons, List.drop_zero, h_7, h_8, h_9, h_10, h_11, h_12, h_13, h_14, h_15, h_6, h_16, h_17, h_18, h_3, h_4, h_5, q_0, q_2]
    clear h_7 h_8 h_9 h_10 h_11 h_12 h_13 h_14 h_15 h_6 h_16 h_17 h_18 h_3 h_4 h_5 q_0 q_2
    have BG : Hid (But g w W) := But.of_below hB
    simp only [ptr]
    clear HC HBT HG
    rcases HS.out with ⟨r, rfl, rfl, hbx⟩ | ⟨rfl, hbx⟩
    · replace hbx := hid' (hbx.keep hB)
      clear HS hB
      by_cases h0 : er = 0
      · subst h0
        obtain ⟨y1, y2, y3, y4, y5⟩ := get_yes hrel
        go_wp2_with fail
        refine (move_good W g _ _ next hbx.out).mono ?_
        rintro e w2 ⟨⟨v2, rfl⟩, hb2, hg2⟩
        have HF : Hid (RdAns 55 oneB R64 (Value.int .i64) w g ba cap l (some (l.drop at')) (.returned (.int .i64 (unzig n))) w2) := rd_yes (unzig_rng y2 y3) (by unfold oneB; rw [zig_unzig y2]; exact y1) y5 (by rw [y4]; exact hb2) (BG.out.trans hg2)
        go_wp2
        go_ret
        exact HF.out
      · go_wp2_with fail
        refine (move_bad W g _ _ next er h0 hbx.out).mono ?_
        rintro e w2 ⟨⟨v2, rfl⟩, hb2, hg2⟩
        have HF : Hid (RdAns 55 oneB R64 (Value.int .i64) w g ba cap l (some (l.drop at')) (.returned (.int .i64 (unzig n))) w2) := rd_no (unzig n) rfl (.inr ⟨rfl, fun y r hy => get_no ha hrel h0 _ r (zig_small hy)⟩) ha hb2 (BG.out.trans hg2)
        go_wp2
        go_ret
        exact HF.out
    · replace hbx := hid' (hbx.keep hB)
      clear HS hB
      go_wp2_with fail
      refine (move_was W g _ _ next er hbx.out).mono ?_
      rintro e w2 ⟨⟨v2, rfl⟩, hb2, hg2⟩
      have HF : Hid (RdAns 55 oneB R64 (Value.int .i64) w g ba cap l none (.returned (.int .i64 (unzig n))) w2) := rd_no (at' := at') (unzig n) rfl (.inl rfl) ha hb2 (BG.out.trans hg2)
      go_wp2
      go_ret
      exact HF.out

/-- What count answers: at most so many, also where something was wrong. -/
def CntAns (ty : TypeId) (most : Nat) (w : World) (g : Nat) (ba : Option Addr) (cap : Nat) (l : List Int) (s : Option (List Int)) (e : Ending) (w' : World) : Prop :=
  ∃ (x : Nat) (s' : Option (List Int)), e = .returned (.int .i64 (x : Int)) ∧ x ≤ most ∧ Rd bytesOf (fun m => m ≤ most) s x s' ∧ RdS ty w' g ba cap l s' ∧ But g w w'

theorem cnt_yes {ty : TypeId} {most : Nat} {w w' : World} {g : Nat} {ba : Option Addr} {cap : Nat} {l : List Int} {at' nx x : Nat} (hD : x ≤ most) (he : l.drop at' = bytesOf x ++ l.drop nx) (hn : nx ≤ l.length) (hb : Bx w' g #[.slice ba l.length cap, .int .i64 (nx : Int), .bool false] ty) (hg : But g w w') :
    CntAns ty most w g ba cap l (some (l.drop at')) (.returned (.int .i64 (x : Int))) w' := ⟨x, some (l.drop nx), rfl, hD, ⟨hD, he⟩, ⟨nx, hn, .inl ⟨_, rfl, rfl, hb⟩⟩, hg⟩

theorem cnt_no {ty : TypeId} {most : Nat} {w w' : World} {g : Nat} {ba : Option Addr} {cap : Nat} {l : List Int} {at' : Nat} (x : Nat) (hx : x ≤ most) {s : Option (List Int)} (hs : s = none ∨ (s = some (l.drop at') ∧ ∀ (y : Nat) r, y ≤ most → l.drop at' ≠ bytesOf y ++ r)) (hn : at' ≤ l.length) (hb : Bx w' g #[.slice ba l.length cap, .int .i64 (at' : Int), .bool true] ty) (hg : But g w w') :
    CntAns ty most w g ba cap l s (.returned (.int .i64 (x : Int))) w' := by
  refine ⟨x, none, rfl, hx, ?_, ⟨at', hn, .inr ⟨rfl, hb⟩⟩, hg⟩
  rcases hs with rfl | ⟨rfl, h⟩
  · trivial
  · exact h

theorem many_no {l : List Int} {at' most : Nat} {n next : Int} (h : GetRel l (at' : Int) n next 0) (hm : (most : Int) < n) : ∀ (y : Nat) r, y ≤ most → l.drop at' ≠ bytesOf y ++ r := by
  intro y r hy e
  obtain ⟨y1, y2, _⟩ := get_yes h
  rw [y1] at e
  have := (bytes_pf e).1
  omega

set_option maxHeartbeats 4000000 in
theorem count_any (w : World) (g : Nat) (ba : Option Addr) (cap : Nat) (l : List Int) (s : Option (List Int)) (most : Nat) (hm : most ≤ 64) (hr : RdS 55 w g ba cap l s) (hb : Bts g w ba l) (hc : l.length ≤ cap) (hl : l.length ≤ 1000000000) :
    Calls Try.prog 70 #[.pointer (some ⟨g, 0, none⟩), .int .i64 (most : Int)] w (CntAns 55 most w g ba cap l s) := by
  have hgl := hr.lt
  obtain ⟨at', ha, hs⟩ := hr
  obtain ⟨n, next, er, hrel⟩ := getRel_total l (at' : Int)
  obtain ⟨bad, hbx⟩ : ∃ bad : Bool, Bx w g #[.slice ba l.length cap, .int .i64 (at' : Int), .bool bad] 55 := by
    rcases hs with ⟨r, _, _, h⟩ | ⟨_, h⟩
    · exact ⟨_, h⟩
    · exact ⟨_, h⟩
  have HC : Hid (∀ W, Below w.heap.size w W → W.cell? ⟨g, 0, none⟩ = some (.slice ba l.length cap) ∧ W.cell? ⟨g, 1, none⟩ = some (.int .i64 (at' : Int))) := fun W hB => ⟨(hbx.keep hB).cell 0, (hbx.keep hB).cell 1⟩
  have HBT : Hid (∀ W, Below w.heap.size w W → Bts W.heap.size W ba l) := fun W hB => (hb.keep (hB.mono (Nat.le_of_lt hgl))).mono (by have := hB.size; omega)
  have HG : Hid (∀ W, Below w.heap.size w W → Calls Try.prog 79 #[.slice ba l.length cap, .int .i64 (at' : Int)] W fun e w' => ∃ v, e = .returned v ∧ Below W.heap.size W w' ∧ PB.E (.tuple #[.int .u64 (n), .int .i64 next, .int .i64 er]) v w') := fun W hB => (get_any W ba cap l at' (HBT.out W hB) hc (by omega)).mono (by
    rintro e w' ⟨⟨n', next', er', rfl, h'⟩, hw⟩
    obtain ⟨rfl, rfl, rfl⟩ := hrel.uniq h'
    exact ⟨_, rfl, (by rw [hw]; exact Below.refl _ _), rfl⟩)
  have HS := hid' hs
  clear hs hb hbx
  have hnr := hrel.range
  go_enter Try.func70, Try.ntmps70
  go_wp2_with fail
  refine PT.wp_region_tail 16 (PB.phi [PB.E (ptr g), PB.E (ptr g), PB.E (.pointer (some ⟨g, 0, none⟩)), PB.E (.slice ba l.length cap), PB.E (ptr g), PB.E (ptr g), PB.E (.pointer (some ⟨g, 1, none⟩)), PB.E (.int .i64 (at' : Int)), PB.E (.tuple #[.int .u64 n, .int .i64 next, .int .i64 er]), PB.E (.tuple #[.int .u64 n, .int .i64 next, .int .i64 er]), PB.E (.int .u64 n), PB.E (.int .i64 next), PB.E (.int .i64 er), PB.E (.int .u64 n), PB.E (.int .i64 next), PB.E (.int .i64 er)]) mixed' (by kernel_rfl)
    (PB.phi_lasts _ ⟨PB.E_lasts _, PB.E_lasts _, PB.E_lasts _, PB.E_lasts _, PB.E_lasts _, PB.E_lasts _, PB.E_lasts _, PB.E_lasts _, PB.E_lasts _, PB.E_lasts _, PB.E_lasts _, PB.E_lasts _, PB.E_lasts _, PB.E_lasts _, PB.E_lasts _, PB.E_lasts _, trivial⟩) ?_ ?_
  · refine ⟨?_, ?_, ?_, ?_, ?_, ?_, ?_, ?_, ?_, ?_, ?_, ?_, ?_, ?_, ?_, ?_, trivial⟩ <;> intro A W hB hS hA hF
    · exact Or.inl (PB.does_move (PB.wanted_free rfl) rfl (hS.slots 0 rfl))
    · exact Or.inl (PB.does_run (PB.wanted_free rfl) (run_nilc W (hA 0 rfl)) rfl)
    · exact Or.inl (PB.does_run (PB.wanted_free rfl) (run_fReader0 W (hA 1 rfl)) rfl)
    · exact Or.inl (PB.does_run (PB.wanted_free rfl) (run_loadBy W (hA 2 rfl) (HC.out W hB).1) rfl)
    · exact Or.inl (PB.does_move (PB.wanted_free rfl) rfl (hS.slots 0 rfl))
    · exact Or.inl (PB.does_run (PB.wanted_free rfl) (run_nilc W (hA 4 rfl)) rfl)
    · exact Or.inl (PB.does_run (PB.wanted_free rfl) (run_fReader1 W (hA 5 rfl)) rfl)
    · exact Or.inl (PB.does_run (PB.wanted_free rfl) (run_loadZ W (hA 6 rfl) (HC.out W hB).2) rfl)
    · exact Or.inl (PB.does_call #[.slice ba l.length cap, .int .i64 (at' : Int)] (PB.wanted_free rfl) rfl Try.func79 rfl rfl (by show [PB.slot A 12, PB.slot A 16] = _; rw [show PB.slot A 12 = .slice ba l.length cap from hA 3 rfl, show PB.slot A 16 = .int .i64 (at' : Int) from hA 7 rfl]) (HG.out W hB))
    · exact Or.inl (PB.does_move (PB.wanted_free rfl) rfl (hA 8 rfl))
    · exact Or.inl (PB.does_run (PB.wanted_free rfl) (run_ext0 W (hA 9 rfl)) rfl)
    · exact Or.inl (PB.does_run (PB.wanted_free rfl) (run_ext1 W (hA 9 rfl)) rfl)
    · exact Or.inl (PB.does_run (PB.wanted_free rfl) (run_ext2 W (hA 9 rfl)) rfl)
    · exact Or.inl (PB.does_assign (PB.wanted_free rfl) rfl (hA 10 rfl))
    · exact Or.inl (PB.does_assign (PB.wanted_free rfl) rfl (hA 11 rfl))
    · exact Or.inl (PB.does_assign (PB.wanted_free rfl) rfl (hA 12 rfl))
  · intro A W hB hS hL
    have h_9 : PB.slot A 9 = ptr g := hL 0 (by decide)
    have h_10 : PB.slot A 10 = ptr g := hL 1 (by decide)
    have h_11 : PB.slot A 11 = .pointer (some ⟨g, 0, none⟩) := hL 2 (by decide)
    have h_12 : PB.slot A 12 = .slice ba l.length cap := hL 3 (by decide)
    have h_13 : PB.slot A 13 = ptr g := hL 4 (by decide)
    have h_14 : PB.slot A 14 = ptr g := hL 5 (by decide)
    have h_15 : PB.slot A 15 = .pointer (some ⟨g, 1, none⟩) := hL 6 (by decide)
    have h_16 : PB.slot A 16 = .int .i64 (at' : Int) := hL 7 (by decide)
    have h_17 : PB.slot A 17 = .tuple #[.int .u64 n, .int .i64 next, .int .i64 er] := hL 8 (by decide)
    have h_8 : PB.slot A 8 = .tuple #[.int .u64 n, .int .i64 next, .int .i64 er] := hL 9 (by decide)
    have h_18 : PB.slot A 18 = .int .u64 n := hL 10 (by decide)
    have h_19 : PB.slot A 19 = .int .i64 next := hL 11 (by decide)
    have h_20 : PB.slot A 20 = .int .i64 er := hL 12 (by decide)
    have h_5 : PB.slot A 5 = .int .u64 n := hL 13 (by decide)
    have h_6 : PB.slot A 6 = .int .i64 next := hL 14 (by decide)
    have h_7 : PB.slot A 7 = .int .i64 er := hL 15 (by decide)
    have q_0 : PB.slot A 0 = ptr g := hS.slots 0 rfl
    have q_1 : PB.slot A 1 = .int .i64 (most : Int) := hS.slots 1 rfl
    have q_4 : PB.slot A 4 = .int .i64 0 := hS.slots 4 rfl
    have hA := PT.frame_of (A := A) (n := 31) hS.size
    have hd : A.defers = [] := hS.defers
    rw [hd] at hA
    obtain ⟨fr, hf⟩ : ∃ f, PB.slot A = f := ⟨_, rfl⟩
    rw [hf] at hA h_9 h_10 h_11 h_12 h_13 h_14 h_15 h_16 h_17 h_8 h_18 h_19 h_20 h_5 h_6 h_7 q_0 q_1 q_4
    rw [hA]
    clear hA hf hd hL hS
    simp only [List.range, List.range.loop, List.map_cons, List.map_nil, List.drop_succ_cons, List.drop_zero, h_9, h_10, h_11, h_12, h_13, h_14, h_15, h_16, h_17, h_8, h_18, h_19, h_20, h_5, h_6, h_7, q_0, q_1, q_4]
    clear h_9 h_10 h_11 h_12 h_13 h_14 h_15 h_16 h_17 h_8 h_18 h_19 h_20 h_5 h_6 h_7 q_0 q_1 q_4
    have BG : Hid (But g w W) := But.of_below hB
    simp only [ptr]
    clear HC HBT HG
    by_cases hbig : (most : Int) < n
    · have her : Hid (er = 0) := (by
        rcases hrel with ⟨_, h, _⟩ | ⟨_, _, _, _, _, h⟩ | ⟨_, _, _, h, _⟩
        · omega
        · exact h
        · omega : er = 0)
      rcases HS.out with ⟨r, rfl, rfl, hbx⟩ | ⟨rfl, hbx⟩
      · replace hbx := hid' (hbx.keep hB)
        clear HS hB
        go_wp2_with fail
        refine (move_bad W g _ _ next 3 (by omega) hbx.out).mono ?_
        rintro e w2 ⟨⟨v2, rfl⟩, hb2, hg2⟩
        have HF : Hid (CntAns 55 most w g ba cap l (some (l.drop at')) (.returned (.int .i64 ((0 : Nat) : Int))) w2) := cnt_no 0 (by omega) (.inr ⟨rfl, many_no (by rw [her.out] at hrel; exact hrel) hbig⟩) ha hb2 (BG.out.trans hg2)
        go_wp2
        go_ret
        exact HF.out
      · replace hbx := hid' (hbx.keep hB)
        clear HS hB
        go_wp2_with fail
        refine (move_was W g _ _ next 3 hbx.out).mono ?_
        rintro e w2 ⟨⟨v2, rfl⟩, hb2, hg2⟩
        have HF : Hid (CntAns 55 most w g ba cap l none (.returned (.int .i64 ((0 : Nat) : Int))) w2) := cnt_no (at' := at') 0 (by omega) (.inl rfl) ha hb2 (BG.out.trans hg2)
        go_wp2
        go_ret
        exact HF.out
    · obtain ⟨k, rfl⟩ := Int.eq_ofNat_of_zero_le hnr.1
      have hk : k ≤ most := by omega
      rcases HS.out with ⟨r, rfl, rfl, hbx⟩ | ⟨rfl, hbx⟩
      · replace hbx := hid' (hbx.keep hB)
        clear HS hB
        by_cases h0 : er = 0
        · subst h0
          obtain ⟨y1, y2, y3, y4, y5⟩ := get_yes hrel
          go_wp2_with fail
          refine (move_good W g _ _ next hbx.out).mono ?_
          rintro e w2 ⟨⟨v2, rfl⟩, hb2, hg2⟩
          have HF : Hid (CntAns 55 most w g ba cap l (some (l.drop at')) (.returned (.int .i64 (k : Int))) w2) := cnt_yes hk (by rw [Int.toNat_natCast] at y1; exact y1) y5 (by rw [y4]; exact hb2) (BG.out.trans hg2)
          clear y1 y2 y3 y4 y5 hrel hnr
          go_wp2
          go_ret
          exact HF.out
        · go_wp2_with fail
          refine (move_bad W g _ _ next er h0 hbx.out).mono ?_
          rintro e w2 ⟨⟨v2, rfl⟩, hb2, hg2⟩
          have HF : Hid (CntAns 55 most w g ba cap l (some (l.drop at')) (.returned (.int .i64 (k : Int))) w2) := cnt_no k hk (.inr ⟨rfl, fun y r hy => get_no ha hrel h0 y r (by omega)⟩) ha hb2 (BG.out.trans hg2)
          clear hrel hnr
          go_wp2
          go_ret
          exact HF.out
      · replace hbx := hid' (hbx.keep hB)
        clear HS hB
        go_wp2_with fail
        refine (move_was W g _ _ next er hbx.out).mono ?_
        rintro e w2 ⟨⟨v2, rfl⟩, hb2, hg2⟩
        have HF : Hid (CntAns 55 most w g ba cap l none (.returned (.int .i64 (k : Int))) w2) := cnt_no (at' := at') k hk (.inl rfl) ha hb2 (BG.out.trans hg2)
        clear hrel hnr
        go_wp2
        go_ret
        exact HF.out

theorem nums_str {s : List Int} (h : Byt s) : nums (strOfNums s) = s := by
  unfold nums
  rw [strOfNums_data, List.map_map]
  conv => rhs; rw [← List.map_id s]
  apply List.map_congr_left
  intro z hz
  have := h z hz
  simp
  omega

theorem textRel_total (l : List Int) (at' : Int) : ∃ s next er, TextRel l at' 4096 s next er := by
  obtain ⟨n, fr, e0, h⟩ := getRel_total l at'
  by_cases h0 : e0 = 0
  · by_cases h1 : 4096 < n
    · exact ⟨[], 0, 2, Or.inr ⟨by omega, n, fr, e0, h, Or.inr (Or.inl ⟨h0, h1, rfl, rfl, rfl⟩)⟩⟩
    · by_cases h2 : (l.length : Int) - fr < n
      · exact ⟨[], 0, 6, Or.inr ⟨by omega, n, fr, e0, h, Or.inr (Or.inr (Or.inl ⟨h0, by omega, h2, rfl, rfl, rfl⟩))⟩⟩
      · exact ⟨_, _, 0, Or.inr ⟨by omega, n, fr, e0, h, Or.inr (Or.inr (Or.inr ⟨h0, by omega, by omega, rfl, rfl, rfl⟩))⟩⟩
  · exact ⟨[], 0, e0, Or.inr ⟨by omega, n, fr, e0, h, Or.inl ⟨h0, rfl, rfl, rfl⟩⟩⟩

def SD (s : ByteArray) : Prop := s.size ≤ 4096

theorem text_yes {l : List Int} (hl : Byt l) {at' : Nat} {s : List Int} {next : Int} (h : TextRel l (at' : Int) 4096 s next 0) : SD (strOfNums s) ∧ l.drop at' = strB (strOfNums s) ++ l.drop next.toNat ∧ (next.toNat : Int) = next ∧ next.toNat ≤ l.length := by
  rcases h with ⟨h0, _⟩ | ⟨_, n, fr, e0, hr, h⟩
  · omega
  · rcases h with ⟨h1, _, _, h2⟩ | ⟨_, _, _, _, h2⟩ | ⟨_, _, _, _, _, h2⟩ | ⟨h1, h2, h3, rfl, rfl, _⟩
    · exact absurd h2.symm h1
    · omega
    · omega
    · subst h1
      obtain ⟨y1, y2, y3, y4, y5⟩ := get_yes hr
      have hlen : ((l.drop fr.toNat).take n.toNat).length = n.toNat := by rw [List.length_take, List.length_drop]; omega
      have hb : Byt ((l.drop fr.toNat).take n.toNat) := fun z hz => hl z (List.mem_of_mem_drop (List.mem_of_mem_take hz))
      have en : (fr + n).toNat = fr.toNat + n.toNat := by omega
      refine ⟨by unfold SD; rw [strOfNums_size, hlen]; omega, ?_, by omega, by omega⟩
      unfold strB
      rw [nums_str hb, strOfNums_size, hlen, y1, List.append_assoc, en, ← List.drop_drop, List.take_append_drop]

theorem text_no {l : List Int} {at' : Nat} (ha : at' ≤ l.length) {s : List Int} {next er : Int} (h : TextRel l (at' : Int) 4096 s next er) (he : er ≠ 0) : ∀ y r, SD y → l.drop at' ≠ strB y ++ r := by
  intro y r hy e
  unfold strB at e
  unfold SD at hy
  rw [List.append_assoc] at e
  rcases h with ⟨h0, _⟩ | ⟨_, n, fr, e0, hr, h⟩
  · omega
  · rcases h with ⟨h1, _, _, h2⟩ | ⟨h1, h2, _⟩ | ⟨h1, h2, h3, _⟩ | ⟨_, _, _, _, _, h2⟩
    · exact get_no ha hr h1 _ _ (by omega) e
    · subst h1
      obtain ⟨y1, y2, _⟩ := get_yes hr
      rw [y1] at e
      have := (bytes_pf e).1
      omega
    · subst h1
      obtain ⟨y1, y2, y3, y4, y5⟩ := get_yes hr
      rw [y1] at e
      obtain ⟨e1, e2⟩ := bytes_pf e
      have := congrArg List.length e2
      rw [List.length_drop, List.length_append, nums_length] at this
      omega
    · exact he h2

set_option maxHeartbeats 4000000 in
theorem text_any (w : World) (g : Nat) (ba : Option Addr) (cap : Nat) (l : List Int) (s : Option (List Int)) (hr : RdS 55 w g ba cap l s) (hb : Bts g w ba l) (hc : l.length ≤ cap) (hl : l.length ≤ 1000000000) :
    Calls Try.prog 75 #[.pointer (some ⟨g, 0, none⟩)] w (RdAns 55 strB SD Value.string w g ba cap l s) := by
  have hgl := hr.lt
  obtain ⟨at', ha, hs⟩ := hr
  obtain ⟨tx, next, er, hrel⟩ := textRel_total l (at' : Int)
  have HBY : Hid (Byt l) := hb.range
  obtain ⟨bad, hbx⟩ : ∃ bad : Bool, Bx w g #[.slice ba l.length cap, .int .i64 (at' : Int), .bool bad] 55 := by
    rcases hs with ⟨r, _, _, h⟩ | ⟨_, h⟩
    · exact ⟨_, h⟩
    · exact ⟨_, h⟩
  have HC : Hid (∀ W, Below w.heap.size w W → W.cell? ⟨g, 0, none⟩ = some (.slice ba l.length cap) ∧ W.cell? ⟨g, 1, none⟩ = some (.int .i64 (at' : Int))) := fun W hB => ⟨(hbx.keep hB).cell 0, (hbx.keep hB).cell 1⟩
  have HBT : Hid (∀ W, Below w.heap.size w W → Bts W.heap.size W ba l) := fun W hB => (hb.keep (hB.mono (Nat.le_of_lt hgl))).mono (by have := hB.size; omega)
  have HG : Hid (∀ W, Below w.heap.size w W → Calls Try.prog 81 #[.slice ba l.length cap, .int .i64 (at' : Int), .int .i64 4096] W fun e w' => ∃ v, e = .returned v ∧ Below W.heap.size W w' ∧ PB.E (.tuple #[.string (strOfNums tx), .int .i64 next, .int .i64 er]) v w') := fun W hB => (getText_any W ba cap l at' 4096 (HBT.out W hB) hc (by omega) (by omega)).mono (by
    rintro e w' ⟨⟨n', next', er', rfl, h'⟩, hw⟩
    obtain ⟨rfl, rfl, rfl⟩ := hrel.uniq h'
    exact ⟨_, rfl, (by rw [hw]; exact Below.refl _ _), rfl⟩)
  have HS := hid' hs
  clear hs hb hbx
  go_enter Try.func75, Try.ntmps75
  go_wp2_with fail
  refine PT.wp_region_tail 16 (PB.phi [PB.E (ptr g), PB.E (ptr g), PB.E (.pointer (some ⟨g, 0, none⟩)), PB.E (.slice ba l.length cap), PB.E (ptr g), PB.E (ptr g), PB.E (.pointer (some ⟨g, 1, none⟩)), PB.E (.int .i64 (at' : Int)), PB.E (.tuple #[.string (strOfNums tx), .int .i64 next, .int .i64 er]), PB.E (.tuple #[.string (strOfNums tx), .int .i64 next, .int .i64 er]), PB.E (.string (strOfNums tx)), PB.E (.int .i64 next), PB.E (.int .i64 er), PB.E (.string (strOfNums tx)), PB.E (.int .i64 next), PB.E (.int .i64 er)]) mixed' (by kernel_rfl)
    (PB.phi_lasts _ ⟨PB.E_lasts _, PB.E_lasts _, PB.E_lasts _, PB.E_lasts _, PB.E_lasts _, PB.E_lasts _, PB.E_lasts _, PB.E_lasts _, PB.E_lasts _, PB.E_lasts _, PB.E_lasts _, PB.E_lasts _, PB.E_lasts _, PB.E_lasts _, PB.E_lasts _, PB.E_lasts _, trivial⟩) ?_ ?_
  · refine ⟨?_, ?_, ?_, ?_, ?_, ?_, ?_, ?_, ?_, ?_, ?_, ?_, ?_, ?_, ?_, ?_, trivial⟩ <;> intro A W hB hS hA hF
    · exact Or.inl (PB.does_move (PB.wanted_free rfl) rfl (hS.slots 0 rfl))
    · exact Or.inl (PB.does_run (PB.wanted_free rfl) (run_nilc W (hA 0 rfl)) rfl)
    · exact Or.inl (PB.does_run (PB.wanted_free rfl) (run_fReader0 W (hA 1 rfl)) rfl)
    · exact Or.inl (PB.does_run (PB.wanted_free rfl) (run_loadBy W (hA 2 rfl) (HC.out W hB).1) rfl)
    · exact Or.inl (PB.does_move (PB.wanted_free rfl) rfl (hS.slots 0 rfl))
    · exact Or.inl (PB.does_run (PB.wanted_free rfl) (run_nilc W (hA 4 rfl)) rfl)
    · exact Or.inl (PB.does_run (PB.wanted_free rfl) (run_fReader1 W (hA 5 rfl)) rfl)
    · exact Or.inl (PB.does_run (PB.wanted_free rfl) (run_loadZ W (hA 6 rfl) (HC.out W hB).2) rfl)
    · exact Or.inl (PB.does_call #[.slice ba l.length cap, .int .i64 (at' : Int), .int .i64 4096] (PB.wanted_free rfl) rfl Try.func81 rfl rfl (by show [PB.slot A 10, PB.slot A 14, .int .i64 4096] = _; rw [show PB.slot A 10 = .slice ba l.length cap from hA 3 rfl, show PB.slot A 14 = .int .i64 (at' : Int) from hA 7 rfl]) (HG.out W hB))
    · exact Or.inl (PB.does_move (PB.wanted_free rfl) rfl (hA 8 rfl))
    · exact Or.inl (PB.does_run (PB.wanted_free rfl) (run_ext0 W (hA 9 rfl)) rfl)
    · exact Or.inl (PB.does_run (PB.wanted_free rfl) (run_ext1 W (hA 9 rfl)) rfl)
    · exact Or.inl (PB.does_run (PB.wanted_free rfl) (run_ext2 W (hA 9 rfl)) rfl)
    · exact Or.inl (PB.does_assign (PB.wanted_free rfl) rfl (hA 10 rfl))
    · exact Or.inl (PB.does_assign (PB.wanted_free rfl) rfl (hA 11 rfl))
    · exact Or.inl (PB.does_assign (PB.wanted_free rfl) rfl (hA 12 rfl))
  · intro A W hB hS hL
    have h_7 : PB.slot A 7 = ptr g := hL 0 (by decide)
    have h_8 : PB.slot A 8 = ptr g := hL 1 (by decide)
    have h_9 : PB.slot A 9 = .pointer (some ⟨g, 0, none⟩) := hL 2 (by decide)
    have h_10 : PB.slot A 10 = .slice ba l.length cap := hL 3 (by decide)
    have h_11 : PB.slot A 11 = ptr g := hL 4 (by decide)
    have h_12 : PB.slot A 12 = ptr g := hL 5 (by decide)
    have h_13 : PB.slot A 13 = .pointer (some ⟨g, 1, none⟩) := hL 6 (by decide)
    have h_14 : PB.slot A 14 = .int .i64 (at' : Int) := hL 7 (by decide)
    have h_15 : PB.slot A 15 = .tuple #[.string (strOfNums tx), .int .i64 next, .int .i64 er] := hL 8 (by decide)
    have h_6 : PB.slot A 6 = .tuple #[.string (strOfNums tx), .int .i64 next, .int .i64 er] := hL 9 (by decide)
    have h_16 : PB.slot A 16 = .string (strOfNums tx) := hL 10 (by decide)
    have h_17 : PB.slot A 17 = .int .i64 next := hL 11 (by decide)
    have h_18 : PB.slot A 18 = .int .i64 er := hL 12 (by decide)
    have h_3 : PB.slot A 3 = .string (strOfNums tx) := hL 13 (by decide)
    have h_4 : PB.slot A 4 = .int .i64 next := hL 14 (by decide)
    have h_5 : PB.slot A 5 = .int .i64 er := hL 15 (by decide)
    have q_0 : PB.slot A 0 = ptr g := hS.slots 0 rfl
    have q_2 : PB.slot A 2 = .string ⟨#[]⟩ := hS.slots 2 rfl
    have hA := PT.frame_of (A := A) (n := 24) hS.size
    have hd : A.defers = [] := hS.defers
    rw [hd] at hA
    obtain ⟨fr, hf⟩ : ∃ f, PB.slot A = f := ⟨_, rfl⟩
    rw [hf] at hA h_7 h_8 h_9 h_10 h_11 h_12 h_13 h_14 h_15 h_6 h_16 h_17 h_18 h_3 h_4 h_5 q_0 q_2
    rw [hA]
    clear hA hf hd hL hS
    simp only [List.range, List.range.loop, List.map_cons, List.map_nil, List.drop_succ_cons, List.drop_zero, h_7, h_8, h_9, h_10, h_11, h_12, h_13, h_14, h_15, h_6, h_16, h_17, h_18, h_3, h_4, h_5, q_0, q_2]
    clear h_7 h_8 h_9 h_10 h_11 h_12 h_13 h_14 h_15 h_6 h_16 h_17 h_18 h_3 h_4 h_5 q_0 q_2
    have BG : Hid (But g w W) := But.of_below hB
    simp only [ptr]
    clear HC HBT HG
    rcases HS.out with ⟨r, rfl, rfl, hbx⟩ | ⟨rfl, hbx⟩
    · replace hbx := hid' (hbx.keep hB)
      clear HS hB
      by_cases h0 : er = 0
      · subst h0
        obtain ⟨y1, y2, y3, y4⟩ := text_yes HBY.out hrel
        generalize strOfNums tx = st at *
        go_wp2_with fail
        refine (move_good W g _ _ next hbx.out).mono ?_
        rintro e w2 ⟨⟨v2, rfl⟩, hb2, hg2⟩
        have HF : Hid (RdAns 55 strB SD Value.string w g ba cap l (some (l.drop at')) (.returned (.string st)) w2) := rd_yes y1 y2 y4 (by rw [y3]; exact hb2) (BG.out.trans hg2)
        go_wp2
        go_ret
        exact HF.out
      · have HNO := hid' (text_no ha hrel h0)
        generalize strOfNums tx = st at *
        go_wp2_with fail
        refine (move_bad W g _ _ next er h0 hbx.out).mono ?_
        rintro e w2 ⟨⟨v2, rfl⟩, hb2, hg2⟩
        have HF : Hid (RdAns 55 strB SD Value.string w g ba cap l (some (l.drop at')) (.returned (.string st)) w2) := rd_no st rfl (.inr ⟨rfl, HNO.out⟩) ha hb2 (BG.out.trans hg2)
        go_wp2
        go_ret
        exact HF.out
    · replace hbx := hid' (hbx.keep hB)
      clear HS hB
      generalize strOfNums tx = st at *
      go_wp2_with fail
      refine (move_was W g _ _ next er hbx.out).mono ?_
      rintro e w2 ⟨⟨v2, rfl⟩, hb2, hg2⟩
      have HF : Hid (RdAns 55 strB SD Value.string w g ba cap l none (.returned (.string st)) w2) := rd_no (at' := at') st rfl (.inl rfl) ha hb2 (BG.out.trans hg2)
      go_wp2
      go_ret
      exact HF.out

end Go.Proofs.Ytjpjeledbjpaeaa
