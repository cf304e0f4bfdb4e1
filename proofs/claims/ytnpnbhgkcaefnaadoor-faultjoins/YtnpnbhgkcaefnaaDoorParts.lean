/-
  What is proved here: innermost, and parts: what joins several gives them, a number and nil give none.
-/
import Derived.Test.YtnpnbhgkcaefnaaDoorFactsJ
import Derived.Test.YtnpnbhgkcaefnaaDoorChain
namespace Go.Proofs.YtnpnbhgkcaefnaaDoor
open Go.RowKit Go.Extern.Stop Go.Stop Go.Extern
set_option linter.unusedVariables false

/-- Where innermost's loop stands: err, and what it wraps. -/
def MostAt (b : Value) (k : Nat) (p q : Value) : Prop := (k = 0 ∧ p = b ∧ q = .nilIface) ∨ ∃ op r, k = r.length + 1 ∧ p = failV op (wrapV r b) ∧ q = wrapV r b

theorem inner_wrap (b : Value) (hb : ∃ t v, b = .iface t v) (hin : ∀ W : World, Calls Tryd.prog 21 #[b] W fun e w' => e = .returned .nilIface ∧ Below W.heap.size W w') (r : List ByteArray) (W : World) :
    Calls Tryd.prog 21 #[wrapV r b] W fun e w' => (∃ q, e = .returned q ∧ MostAt b r.length (wrapV r b) q) ∧ Below W.heap.size W w' := by
  cases r with
  | nil => exact (hin W).mono fun e w' ⟨h, h'⟩ => ⟨⟨_, h, .inl ⟨rfl, rfl, rfl⟩⟩, h'⟩
  | cons op r => exact (inner_fail op _ (isErr_wrap hb r) W).mono fun e w' ⟨h, h'⟩ => ⟨⟨_, h, .inr ⟨op, r, rfl, rfl, rfl⟩⟩, h'⟩

set_option maxHeartbeats 1000000 in
theorem most_of (tb : TypeId) (vb : Value) (hin : ∀ W : World, Calls Tryd.prog 21 #[.iface tb vb] W fun e w' => e = .returned .nilIface ∧ Below W.heap.size W w') (ops : List ByteArray) (w : World) :
    Calls Tryd.prog 29 #[wrapV ops (.iface tb vb)] w fun e w' => e = .returned (.iface tb vb) ∧ Below w.heap.size w w' := by
  have HI := hid' (inner_wrap (.iface tb vb) ⟨_, _, rfl⟩ hin)
  go_enter Tryd.func29, Tryd.ntmps29
  go_wp2_with fail
  refine (HI.out ops w).mono ?_
  rintro e w1 ⟨⟨q, rfl, hq⟩, hb⟩
  have HQ := hid' hq
  have HB := hid' hb
  clear hq hb
  go_wp2
  go_loopg [0, 3] ops.length (fun k p q wr => MostAt (.iface tb vb) k p q ∧ Below w.heap.size w wr)
  case atStart => exact ⟨HQ.out, HB.out⟩
  case round =>
    obtain ⟨⟨hk, rfl, rfl⟩ | ⟨op, r, hk, rfl, rfl⟩, hb⟩ := hrel
    · have HB1 := hid' hb
      clear hb
      go_wp2
      go_ret
      exact ⟨rfl, HB1.out⟩
    · have HK := hid' hk
      have HB1 := hid' hb
      obtain ⟨tr, vr, hr⟩ := wrapV_iface (b := .iface tb vb) ⟨_, _, rfl⟩ r
      have HW := hid' (HI.out r wr)
      rw [hr] at HW ⊢
      clear hb hk hr HQ
      unfold failV
      go_wp2_with fail
      refine HW.out.mono ?_
      rintro e w2 ⟨⟨q2, rfl, hq2⟩, hb2⟩
      have HQ2 := hid' hq2
      have HB2 := hid' (HB1.out.trans (hb2.mono HB1.out.size))
      clear hq2 hb2
      go_wp2
      go_roundg r.length
      case measure => have := HK.out; omega
      case rel => exact ⟨HQ2.out, HB2.out⟩

theorem most_nil (w : World) : Calls Tryd.prog 29 #[.nilIface] w fun e w' => e = .returned .nilIface ∧ Below w.heap.size w w' := by
  have HI := hid' (inner_nil w)
  go_enter Tryd.func29, Tryd.ntmps29
  go_wp2_with fail
  refine HI.out.mono ?_
  rintro e w1 ⟨rfl, hb⟩
  have HB := hid' hb
  clear hb
  go_wp2
  refine wp_loop_rounds 1 ?_
  rw [rounds_succ]
  go_wp2
  go_ret
  exact ⟨rfl, HB.out⟩

/-- What a caller is told of errors.As(x, &t), t a variable for what joins several. -/
def AsJoin (x : Value) (ok : Bool) (y : Value) : Prop := ∀ (t : Addr) (W : World), W.cell? t = some .nilIface → W.frozen? t = false →
  Calls Tryd.prog 26 #[x, .iface 80 (.pointer (some t))] W fun e w' => e = .returned (.bool ok) ∧ Onto t W w' ∧ w'.cell? t = some y ∧ w'.frozen? t = false

theorem asJoin_nil : AsJoin .nilIface false .nilIface := fun t W hc hz => (as_nil _ W).mono fun e w' ⟨h, h'⟩ => ⟨h, h' ▸ Onto.of_below (Below.refl _ _), h' ▸ hc, h' ▸ hz⟩

set_option maxHeartbeats 4000000 in
theorem asInJ_num (v : Value) (t a : Addr) (w : World) :
    Calls Tryd.prog 37 #[.iface 27 v, .iface 80 (.pointer (some t)), .agg #[.pointer (some ⟨1, 80, none⟩), .pointer (some a), .int .u64 150], .iface 86 (.agg #[.pointer (some ⟨1, 79, none⟩)])] w
      fun e w' => e = .returned (.bool false) ∧ Below w.heap.size w w' := by
  have h40 := Tryd.h40
  have h70 := Tryd.h70
  have mA := Tryd.methodAssignableTo
  have tN := Tryd.typeOf27
  have aN := Tryd.assignableNJ
  have nN := Tryd.noAsN
  have uN := Tryd.uN
  have vN := Tryd.vN
  go_enter Tryd.func37, Tryd.ntmps37
  go_wp2
  refine wp_loop_rounds 1 ?_
  rw [rounds_succ]
  go_wp2
  go_ret
  exact ⟨rfl, (Below.refl _ _).alloc (Nat.le_refl _) _⟩

set_option maxHeartbeats 4000000 in
theorem asInJ_join (p t a : Addr) (old : Value) (w : World) (ha : w.cell? a = some (.pointer (some t))) (ht : w.cell? t = some old) (hf : w.frozen? t = false) :
    Calls Tryd.prog 37 #[.iface 60 (.pointer (some p)), .iface 80 (.pointer (some t)), .agg #[.pointer (some ⟨1, 80, none⟩), .pointer (some a), .int .u64 150], .iface 86 (.agg #[.pointer (some ⟨1, 79, none⟩)])] w
      fun e w' => e = .returned (.bool true) ∧ ∃ w1, Below w.heap.size w w1 ∧ w' = w1.setCell t (.iface 60 (.pointer (some p))) := by
  have hal := lt_of_cell ha
  have htl := lt_of_cell ht
  have h40 := Tryd.h40
  have h70 := Tryd.h70
  have h42 := Tryd.h42
  have h34 := Tryd.h34
  have h43 := Tryd.h43
  have mA := Tryd.methodAssignableTo
  have tJ := Tryd.typeOf60
  have aJ := Tryd.assignableJJ
  have vJ := Tryd.valueOf60
  have hb1 : Hid (Below w.heap.size w (w.alloc (.cells #[.pointer (some ⟨1, 80, none⟩), .pointer (some a), .int .u64 150] 66))) := (Below.refl _ _).alloc (Nat.le_refl _) _
  have hb2 : Hid (Below w.heap.size w ((w.alloc (.cells #[.pointer (some ⟨1, 80, none⟩), .pointer (some a), .int .u64 150] 66)).alloc (.cells #[.pointer (some p)] 60))) := hb1.out.alloc (by simp) _
  have st := Tryd.set79 t ⟨w.heap.size + 1, 0, none⟩ p old ((w.alloc (.cells #[.pointer (some ⟨1, 80, none⟩), .pointer (some a), .int .u64 150] 66)).alloc (.cells #[.pointer (some p)] 60)) (by rw [World.cell?_alloc_at _ _ _ _ (by simp)]; rfl)
    (by rw [hb2.out.cell htl]; exact ht) (by rw [hb2.out.frozen htl]; exact hf)
  have el := Tryd.elemV80 a t (w.alloc (.cells #[.pointer (some ⟨1, 80, none⟩), .pointer (some a), .int .u64 150] 66)) (by rw [hb1.out.cell hal]; exact ha)
  go_enter Tryd.func37, Tryd.ntmps37
  go_wp2
  refine wp_loop_rounds 1 ?_
  rw [rounds_succ]
  go_wp2
  go_ret
  exact ⟨rfl, _, hb2.out, rfl⟩
end Go.Proofs.YtnpnbhgkcaefnaaDoor
