/-
  What is proved here: the program's Decode: bytes that are a plan's are told as that plan, all others are refused.
-/
import Derived.Test.YtjpjeledbjpaeaaLst
namespace Go.Proofs.Ytjpjeledbjpaeaa
open Go.RowKit Go.Proofs
set_option maxRecDepth 20000
set_option linter.unusedVariables false
set_option linter.unusedSimpArgs false

theorem planB_eq (p : Pl) : planB p = [80] ++ plB p := rfl

theorem pf_plB : PF plB PlOK := fun x y r s hx hy h => pf_plan x y r s hx hy (by rw [planB_eq, planB_eq, List.append_assoc, List.append_assoc, h])

def p0 : Pl := ⟨[], [], 0⟩
def ps0 : PlS := ⟨none, 0, none, 0⟩

/-- What Decode answers. -/
def DecAns (l : List Int) (w : World) (e : Ending) (w' : World) : Prop :=
  (∃ p s, PlOK p ∧ l = planB p ∧ e = .returned (.tuple #[plV p s, .int .i64 0]) ∧ PlR w'.heap.size w' p s ∧ Below w.heap.size w w') ∨
  ((∀ p, PlOK p → l ≠ planB p) ∧ e = .returned (.tuple #[plV p0 ps0, .int .i64 6]) ∧ Below w.heap.size w w')

theorem no_plan {l : List Int} (h : l.head? ≠ some 80) : ∀ p, PlOK p → l ≠ planB p := by
  rintro p _ rfl
  exact h rfl

theorem but_below {g : Nat} {w0 w w' : World} (h0 : Below w0.heap.size w0 w) (h : But g w w') (hg : w0.heap.size ≤ g) : Below w0.heap.size w0 w' :=
  ⟨h.os.trans h0.os, h.tape.trans h0.tape, h.output.trans h0.output, Nat.le_trans h0.size h.size, fun k hk => (h.block k (by have := h0.size; omega) (by omega)).trans (h0.block k hk)⟩

theorem bel_trans' {a b c : World} (h : Below a.heap.size a b) (k : Below b.heap.size b c) : Below a.heap.size a c := h.trans (k.mono h.size)

set_option maxHeartbeats 8000000 in
theorem Decode_any (w : World) (a : Option Addr) (cap : Nat) (l : List Int) (hb : Bts w.heap.size w a l) (hc : l.length ≤ cap) (hl : l.length ≤ 1000000000) :
    Calls Try.prog 12 #[.slice a l.length cap] w (DecAns l w) := by
  have BZ := hid' (Bx.new w #[.slice none 0 0, .slice none 0 0, .int .i64 0] 25)
  have B0 : Below w.heap.size w (w.alloc (Obj.cells #[.slice none 0 0, .slice none 0 0, .int .i64 0] 25)) := (Below.refl _ w).alloc (Nat.le_refl _) _
  have hone : (#[.slice none 0 0, .slice none 0 0, .int .i64 0] : Array Value).all (·.oneCell') = true := by simp [Value.oneCell']
  by_cases hn : l = []
  · subst hn
    have HF : Hid (DecAns [] w (.returned (.tuple #[.agg #[.slice none 0 0, .slice none 0 0, .int .i64 0], .int .i64 6])) ((w.alloc (Obj.cells #[.slice none 0 0, .slice none 0 0, .int .i64 0] 25)).setRow w.heap.size #[.slice none 0 0, .slice none 0 0, .int .i64 0])) := .inr ⟨no_plan (by simp), rfl, below_setRow B0 (Nat.le_refl _) _⟩
    have BR : Hid (Bx ((w.alloc (Obj.cells #[.slice none 0 0, .slice none 0 0, .int .i64 0] 25)).setRow w.heap.size #[.slice none 0 0, .slice none 0 0, .int .i64 0]) w.heap.size #[.slice none 0 0, .slice none 0 0, .int .i64 0] 25) := BZ.out.set
    have q0 := BR.out.cell 0
    have q1 := BR.out.cell 1
    have q2 := BR.out.cell 2
    simp only [List.getElem?_toArray, List.getElem?_cons_zero, List.getElem?_cons_succ, List.length_nil] at q0 q1 q2 ⊢
    clear hb hc hl B0
    go_enter Try.func12, Try.ntmps12
    go_wp2_with (refine wpList_store_row rfl 25 (.tmp 2) (.tmp 15) rfl w.heap.size #[.slice none 0 0, .slice none 0 0, .int .i64 0] rfl rfl 25 _ BZ.out (by kernel_rfl) rfl hone ?_)
    (try simp only [Exit.inBlock, Exit.then])
    refine bodyPost_ret (v := .tuple #[.agg #[.slice none 0 0, .slice none 0 0, .int .i64 0], .int .i64 6]) ?_ rfl HF.out
    unfold results
    go_simp
  · obtain ⟨b, off, rfl, hB, hcell⟩ := hb.cells hn
    have hpos : 0 < l.length := List.length_pos_iff.2 hn
    have ez : ((l.length : Int) == 0) = false := by simp; exact hn
    have k0 : (w.alloc (Obj.cells #[.slice none 0 0, .slice none 0 0, .int .i64 0] 25)).cell? ⟨b, off, none⟩ = some (.int .u8 (l.getD 0 0)) := (B0.cell (p := ⟨b, off, none⟩) hB).trans (by have := hcell 0 hpos; rwa [Nat.add_zero] at this)
    by_cases h80 : l.getD 0 0 = 80
    · have HH : Hid (∀ q, PlOK q → l = planB q → l.drop 1 = plB q) := fun q _ h => by rw [h, planB_eq]; simp
      have HL : Hid (l = 80 :: l.drop 1) := by
        cases l with
        | nil => exact absurd rfl hn
        | cons x l =>
          simp only [List.getD_cons_zero] at h80
          rw [h80]; rfl
      have BW : Below w.heap.size w ((w.alloc (Obj.cells #[.slice none 0 0, .slice none 0 0, .int .i64 0] 25)).alloc (Obj.cells #[.slice (some ⟨b, off, none⟩) l.length cap, .int .i64 1, .bool false] 55)) := B0.alloc (by simp) _
      have R0 := Bx.new (w.alloc (Obj.cells #[.slice none 0 0, .slice none 0 0, .int .i64 0] 25)) #[.slice (some ⟨b, off, none⟩) l.length cap, .int .i64 1, .bool false] 55
      rw [sz1] at R0
      have H := hid' (plan_any _ (w.heap.size + 1) (some ⟨b, off, none⟩) cap l (some (l.drop 1)) ⟨1, hpos, .inl ⟨_, rfl, rfl, R0⟩⟩ ((hb.keep BW).mono (by omega)) hc hl)
      have BZ1 := hid' (BZ.out.keep ((Below.refl _ _).alloc (Nat.le_refl _) (Obj.cells #[.slice (some ⟨b, off, none⟩) l.length cap, .int .i64 1, .bool false] 55)))
      have HBW := hid' BW
      have HSZ : Hid (w.heap.size + 2 ≤ ((w.alloc (Obj.cells #[.slice none 0 0, .slice none 0 0, .int .i64 0] 25)).alloc (Obj.cells #[.slice (some ⟨b, off, none⟩) l.length cap, .int .i64 1, .bool false] 55)).heap.size) := (by simp : _ ≤ _)
      have eb : (l.getD 0 0 != 80) = false := by rw [h80]; rfl
      generalize l.getD 0 0 = z at *
      subst h80
      clear hb hcell hn B0 BZ R0 BW
      go_enter Try.func12, Try.ntmps12
      go_wp2_with fail
      generalize hW1 : (w.alloc (Obj.cells #[.slice none 0 0, .slice none 0 0, .int .i64 0] 25)).alloc (Obj.cells #[.slice (some ⟨b, off, none⟩) l.length cap, .int .i64 1, .bool false] 55) = W1 at *
      clear hW1 k0
      refine H.out.mono ?_
      rintro e w2 ⟨p, v1, v2, s', rfl, hn1, hn2, hrd, hrs, hbut⟩
      obtain ⟨a1, c1, rfl⟩ := hn1.form
      obtain ⟨a2, c2, rfl⟩ := hn2.form
      have BZ2 := hid' (BZ1.out.but hbut (by omega))
      have hsz := hbut.size
      have BA : Below w2.heap.size w2 (w2.alloc (Obj.cells #[.slice a1 p.nodes.length c1, .slice a2 p.outs.length c2, .int .i64 p.room] 25)) := (Below.refl _ w2).alloc (Nat.le_refl _) _
      have BZ3 := hid' (BZ2.out.keep BA)
      have BX3 := hid' (Bx.new w2 #[.slice a1 p.nodes.length c1, .slice a2 p.outs.length c2, .int .i64 p.room] 25)
      have HRS := hid' (hrs.keep BA)
      have HB3 := hid' (bel_trans' (but_below HBW.out hbut (by omega)) BA)
      have HRD := hid' hrd
      have FX : Fix (w.heap.size + 2) (fun _ => True) w2 (w2.alloc (Obj.cells #[.slice a1 p.nodes.length c1, .slice a2 p.outs.length c2, .int .i64 p.room] 25)) := Fix.of_but (But.of_below (g := w.heap.size) BA) (by omega)
      have HN1 := hid' ((hn1.base EN_base HSZ.out).fix EN_lasts FX trivial (fun _ _ => trivial))
      have HN2 := hid' ((hn2.base EI_base HSZ.out).fix EI_lasts FX trivial (fun _ _ => trivial))
      clear hn1 hn2 hrs hrd FX BZ1 BZ2 H BA HBW
      have HBAD : Hid ((∀ q, PlOK q → l ≠ planB q) → DecAns l w (.returned (.tuple #[.agg #[.slice none 0 0, .slice none 0 0, .int .i64 0], .int .i64 6])) ((w2.alloc (Obj.cells #[.slice a1 p.nodes.length c1, .slice a2 p.outs.length c2, .int .i64 p.room] 25)).setRow w.heap.size #[.slice none 0 0, .slice none 0 0, .int .i64 0])) := fun h => .inr ⟨h, rfl, below_setRow HB3.out (Nat.le_refl _) _⟩
      have BR : Hid (Bx ((w2.alloc (Obj.cells #[.slice a1 p.nodes.length c1, .slice a2 p.outs.length c2, .int .i64 p.room] 25)).setRow w.heap.size #[.slice none 0 0, .slice none 0 0, .int .i64 0]) w.heap.size #[.slice none 0 0, .slice none 0 0, .int .i64 0] 25) := BZ3.out.set
      obtain ⟨at', hat, hcase⟩ := HRS.out
      rcases hcase with ⟨r, rfl, hr, hbx⟩ | ⟨rfl, hbx⟩
      · have d2 := hbx.cell 2
        have d1 := hbx.cell 1
        simp only [List.getElem?_toArray, List.getElem?_cons_zero, List.getElem?_cons_succ] at d1 d2
        obtain ⟨hok, hrest⟩ := HRD.out
        by_cases hlt : at' < l.length
        · have hrne : r ≠ [] := by
            intro h
            rw [h] at hr
            have := congrArg List.length hr
            simp at this
            omega
          have HF := hid' (HBAD.out (fun q hq hlq => by
            have e1 := HH.out q hq hlq
            rw [hrest] at e1
            obtain ⟨_, e2⟩ := pf_plB p q r [] hok hq (by rw [e1, List.append_nil])
            exact hrne e2))
          have q0 := BR.out.cell 0
          have q1 := BR.out.cell 1
          have q2 := BR.out.cell 2
          simp only [List.getElem?_toArray, List.getElem?_cons_zero, List.getElem?_cons_succ] at q0 q1 q2
          clear HH HL HSZ hbut HBAD BR BX3 HRS HB3 HRD HN1 HN2 hbx hr hrest hrne hok
          go_wp2_with (refine wpList_store_row rfl 25 (.tmp 2) (.tmp 34) rfl w.heap.size #[.slice none 0 0, .slice none 0 0, .int .i64 0] rfl rfl 25 _ BZ3.out (by kernel_rfl) rfl hone ?_)
          (try simp only [Exit.inBlock, Exit.then])
          refine bodyPost_ret (v := .tuple #[.agg #[.slice none 0 0, .slice none 0 0, .int .i64 0], .int .i64 6]) ?_ rfl HF.out
          unfold results
          go_simp
        · have hr0 : r = [] := by rw [← hr]; exact List.drop_eq_nil_of_le (by omega)
          subst hr0
          have HEQ : Hid (l = planB p) := (by rw [HL.out, hrest, List.append_nil]; rfl : l = planB p)
          have BR2 : Hid (Bx ((w2.alloc (Obj.cells #[.slice a1 p.nodes.length c1, .slice a2 p.outs.length c2, .int .i64 p.room] 25)).setRow w.heap.size #[.slice a1 p.nodes.length c1, .slice a2 p.outs.length c2, .int .i64 p.room]) w.heap.size #[.slice a1 p.nodes.length c1, .slice a2 p.outs.length c2, .int .i64 p.room] 25) := BZ3.out.set
          have FY : Fix (w.heap.size + 2) (fun _ => True) (w2.alloc (Obj.cells #[.slice a1 p.nodes.length c1, .slice a2 p.outs.length c2, .int .i64 p.room] 25)) ((w2.alloc (Obj.cells #[.slice a1 p.nodes.length c1, .slice a2 p.outs.length c2, .int .i64 p.room] 25)).setRow w.heap.size #[.slice a1 p.nodes.length c1, .slice a2 p.outs.length c2, .int .i64 p.room]) := Fix.row (by omega)
          have HF : Hid (DecAns l w (.returned (.tuple #[.agg #[.slice a1 p.nodes.length c1, .slice a2 p.outs.length c2, .int .i64 p.room], .int .i64 0])) ((w2.alloc (Obj.cells #[.slice a1 p.nodes.length c1, .slice a2 p.outs.length c2, .int .i64 p.room] 25)).setRow w.heap.size #[.slice a1 p.nodes.length c1, .slice a2 p.outs.length c2, .int .i64 p.room])) :=
            .inl ⟨p, ⟨a1, c1, a2, c2⟩, hok, HEQ.out, rfl, ⟨RNodes.nds (HN1.out.fix EN_lasts FY trivial (fun _ _ => trivial)), RInts.ns (HN2.out.fix EI_lasts FY trivial (fun _ _ => trivial))⟩, below_setRow HB3.out (Nat.le_refl _) _⟩
          have q0 := BR2.out.cell 0
          have q1 := BR2.out.cell 1
          have q2 := BR2.out.cell 2
          have o0 := BX3.out.cell 0
          have o1 := BX3.out.cell 1
          have o2 := BX3.out.cell 2
          simp only [List.getElem?_toArray, List.getElem?_cons_zero, List.getElem?_cons_succ] at q0 q1 q2 o0 o1 o2
          have hone2 : (#[.slice a1 p.nodes.length c1, .slice a2 p.outs.length c2, .int .i64 p.room] : Array Value).all (·.oneCell') = true := by simp [Value.oneCell']
          clear HH HL HSZ hbut HBAD BR BX3 HRS HB3 HRD HN1 HN2 hbx hr hrest hok FY HEQ BR2
          go_wp2_with (refine wpList_store_row rfl 25 (.tmp 2) (.tmp 35) rfl w.heap.size #[.slice a1 p.nodes.length c1, .slice a2 p.outs.length c2, .int .i64 p.room] rfl rfl 25 _ BZ3.out (by kernel_rfl) rfl hone2 ?_)
          (try simp only [Exit.inBlock, Exit.then])
          refine bodyPost_ret (v := .tuple #[.agg #[.slice a1 p.nodes.length c1, .slice a2 p.outs.length c2, .int .i64 p.room], .int .i64 0]) ?_ rfl HF.out
          unfold results
          go_simp
      · have d2 := hbx.cell 2
        simp only [List.getElem?_toArray, List.getElem?_cons_zero, List.getElem?_cons_succ] at d2
        have HF := hid' (HBAD.out (fun q hq hlq => HRD.out q [] hq (by rw [List.append_nil]; exact HH.out q hq hlq)))
        have q0 := BR.out.cell 0
        have q1 := BR.out.cell 1
        have q2 := BR.out.cell 2
        simp only [List.getElem?_toArray, List.getElem?_cons_zero, List.getElem?_cons_succ] at q0 q1 q2
        clear HH HL HSZ hbut HBAD BR BX3 HRS HB3 HRD HN1 HN2 hbx
        go_wp2_with (refine wpList_store_row rfl 25 (.tmp 2) (.tmp 34) rfl w.heap.size #[.slice none 0 0, .slice none 0 0, .int .i64 0] rfl rfl 25 _ BZ3.out (by kernel_rfl) rfl hone ?_)
        (try simp only [Exit.inBlock, Exit.then])
        refine bodyPost_ret (v := .tuple #[.agg #[.slice none 0 0, .slice none 0 0, .int .i64 0], .int .i64 6]) ?_ rfl HF.out
        unfold results
        go_simp
    · have HF : Hid (DecAns l w (.returned (.tuple #[.agg #[.slice none 0 0, .slice none 0 0, .int .i64 0], .int .i64 6])) ((w.alloc (Obj.cells #[.slice none 0 0, .slice none 0 0, .int .i64 0] 25)).setRow w.heap.size #[.slice none 0 0, .slice none 0 0, .int .i64 0])) := .inr ⟨no_plan (fun h => h80 (by cases l with
        | nil => simp at h
        | cons x l => simpa using h)), rfl, below_setRow B0 (Nat.le_refl _) _⟩
      have BR : Hid (Bx ((w.alloc (Obj.cells #[.slice none 0 0, .slice none 0 0, .int .i64 0] 25)).setRow w.heap.size #[.slice none 0 0, .slice none 0 0, .int .i64 0]) w.heap.size #[.slice none 0 0, .slice none 0 0, .int .i64 0] 25) := BZ.out.set
      have q0 := BR.out.cell 0
      have q1 := BR.out.cell 1
      have q2 := BR.out.cell 2
      simp only [List.getElem?_toArray, List.getElem?_cons_zero, List.getElem?_cons_succ] at q0 q1 q2
      have eb : (l.getD 0 0 != 80) = true := by simpa using h80
      generalize l.getD 0 0 = z at *
      generalize l.length = n at *
      clear hb hcell hn B0 h80
      go_enter Try.func12, Try.ntmps12
      go_wp2_with (refine wpList_store_row rfl 25 (.tmp 2) (.tmp 15) rfl w.heap.size #[.slice none 0 0, .slice none 0 0, .int .i64 0] rfl rfl 25 _ BZ.out (by kernel_rfl) rfl hone ?_)
      (try simp only [Exit.inBlock, Exit.then])
      refine bodyPost_ret (v := .tuple #[.agg #[.slice none 0 0, .slice none 0 0, .int .i64 0], .int .i64 6]) ?_ rfl HF.out
      unfold results
      go_simp

end Go.Proofs.Ytjpjeledbjpaeaa
