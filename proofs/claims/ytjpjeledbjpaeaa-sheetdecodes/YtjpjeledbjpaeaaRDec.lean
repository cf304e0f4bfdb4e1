/-
  What is proved here: the document's Decode: bytes that are a plan's are told as that plan, all others are refused.
-/
import Derived.Test.YtjpjeledbjpaeaaRDec0
namespace Go.Proofs.Ytjpjeledbjpaeaa
open Go.RowKit Go.Proofs
set_option maxRecDepth 20000
set_option linter.unusedVariables false
set_option linter.unusedSimpArgs false

/-- Decode's loop over the nodes: k are still to come. -/
def OLoop (w : World) (gP : Nat) (ba : Option Addr) (cap : Nat) (l : List Int) (room : Int) (outs : List Int) (n : Nat) (s : Option (List Int)) (k : Nat) (i : Value) (W : World) : Prop :=
  ∃ xs s1 a cb ao co, i = .int .i64 (k : Int) ∧ xs.length + k = n ∧ DS w gP ba cap l #[.slice a xs.length cb, .slice ao outs.length co, .int .i64 room] s1 W ∧ RNodes (w.heap.size + 2) W (.slice a xs.length cb) xs ∧ RInts (w.heap.size + 2) W (.slice ao outs.length co) outs ∧ RdL nodeB NdOK 64 n s xs s1

/-- Its loop over a node's expressions. -/
def XLoop (w wr : World) (gP gN : Nat) (ba : Option Addr) (cap : Nat) (l : List Int) (pcs : Array Value) (k0 v1 v2 : Value) (x1 x2 : List Int) (n : Nat) (s : Option (List Int)) (k : Nat) (i : Value) (W : World) : Prop :=
  ∃ xs s1 a cb, i = .int .i64 (k : Int) ∧ xs.length + k = n ∧ XS w wr gP gN ba cap l pcs k0 v1 v2 x1 x2 (.slice a xs.length cb) xs (.slice a xs.length cb) s1 W ∧ RdL stepsB (LD 64 TOK) 16 n s xs s1

theorem XLoop.next {w wr : World} {gP gN : Nat} {ba : Option Addr} {cap : Nat} {l : List Int} {pcs : Array Value} {k0 v1 v2 : Value} {x1 x2 : List Int} {n : Nat} {s s1 s2 : Option (List Int)} {k : Nat} {W : World} {xs : List (List V)} {x : List V} {v : Value} (hk : xs.length + (k + 1) = n) (h : XS w wr gP gN ba cap l pcs k0 v1 v2 x1 x2 v (xs ++ [x]) v s2 W) (hl : RdL stepsB (LD 64 TOK) 16 n s xs s1) (hr : Rd stepsB (LD 64 TOK) s1 x s2) : XLoop w wr gP gN ba cap l pcs k0 v1 v2 x1 x2 n s k (.int .i64 (k : Int)) W := by
  obtain ⟨a, c, rfl⟩ := h.ex.form
  exact ⟨xs ++ [x], s2, a, c, rfl, by rw [List.length_append, List.length_singleton]; omega, h, hl.push pf_steps (by omega) hr⟩

theorem but_z {w : World} {o : Obj} : But (w.heap.size + 1) w (w.alloc o) := But.of_below ((Below.refl _ _).alloc (Nat.le_refl _) _)

/-- A plan's box is new. -/
theorem DS.start {w W : World} {ba : Option Addr} {cap : Nat} {l : List Int} {s : Option (List Int)} {cs : Array Value} (hb : Below w.heap.size w W) (hr : Bx W w.heap.size #[.slice none 0 0, .slice none 0 0, .int .i64 0] 25) (hd : RdS 67 W (w.heap.size + 1) ba cap l s) (hs : w.heap.size + 2 ≤ W.heap.size) : DS w W.heap.size ba cap l cs s ((W.alloc (Obj.cells #[.slice none 0 0, .slice none 0 0, .int .i64 0] 25)).setRow W.heap.size cs) := by
  have B : Below W.heap.size W ((W.alloc (Obj.cells #[.slice none 0 0, .slice none 0 0, .int .i64 0] 25)).setRow W.heap.size cs) := below_setRow ((Below.refl _ W).alloc (Nat.le_refl _) _) (Nat.le_refl _) _
  exact ⟨bel_trans' hb B, hr.keep B, (Bx.new W _ _).set, hd.keep B, hs⟩

/-- A node's box is new. -/
theorem NS.start {w wr W : World} {gP : Nat} {ba : Option Addr} {cap : Nat} {l : List Int} {s : Option (List Int)} {pcs cs : Array Value} (hd : DS w gP ba cap l pcs s W) (hb : But (w.heap.size + 1) wr W) (hp : gP < wr.heap.size) : NS w wr gP W.heap.size ba cap l pcs cs s ((W.alloc (Obj.cells #[.int .i64 0, .slice none 0 0, .slice none 0 0, .slice none 0 0, .slice none 0 0, .int .i64 0, .int .i64 0, .int .i64 0, .int .i64 0] 44)).setRow W.heap.size cs) := by
  have B : Below W.heap.size W ((W.alloc (Obj.cells #[.int .i64 0, .slice none 0 0, .slice none 0 0, .slice none 0 0, .slice none 0 0, .int .i64 0, .int .i64 0, .int .i64 0, .int .i64 0] 44)).setRow W.heap.size cs) := below_setRow ((Below.refl _ W).alloc (Nat.le_refl _) _) (Nat.le_refl _) _
  exact ⟨hd.keep B, (Bx.new W _ _).set, hb.trans (But.of_below B), hb.size, hp⟩

/-- The node is appended, and the plan's box knows. -/
theorem OLoop.next {w wr W X w9 : World} {gP gN : Nat} {ba : Option Addr} {cap : Nat} {l : List Int} {room : Int} {outs : List Int} {n : Nat} {s s1 s2 : Option (List Int)} {k : Nat} {xs : List Nd} {a : Option Addr} {cb : Nat} {ao : Option Addr} {co : Nat} {x : Nd} {b1 b2 b3 b4 v4 : Value} {cs : Nat → List Value} {ncs : Array Value}
    (hk : xs.length + (k + 1) = n) (hn : NS w wr gP gN ba cap l #[.slice a xs.length cb, .slice ao outs.length co, .int .i64 room] ncs s2 W) (hX : Below W.heap.size W X) (hx : NdO wr.heap.size W x b1 b2 b3 b4) (h1 : X.ownsRow (w.heap.size + 2) 44 9 (.slice a xs.length cb) xs.length ((List.range xs.length).flatMap cs)) (h2 : ∀ i, i < xs.length → EN (w.heap.size + 2) X (xs.getD i n0) (cs i))
    (ho : RInts (w.heap.size + 2) X (.slice ao outs.length co) outs) (hg : X.grownBy w9 (Value.slice a xs.length cb).ownBlock) (hown : w9.ownsRow (w.heap.size + 2) 44 9 v4 (xs.length + 1) ((List.range xs.length).flatMap cs ++ nd9 x b1 b2 b3 b4)) (hrl : RdL nodeB NdOK 64 n s xs s1) (hrd : Rd nodeB NdOK s1 x s2) :
    OLoop w gP ba cap l room outs n s k (.int .i64 (k : Int)) (w9.setCell ⟨gP, 0, none⟩ v4) := by
  have hnb := hn.base
  have hFX : Fix wr.heap.size (fun _ => True) W X := Fix.of_but (But.of_below (g := w.heap.size + 1) hX) (by omega)
  have hD9 := (hn.ds.keep hX).grown h1 (by decide) (Nat.le_refl _) hg
  have hF9 : Fix (w.heap.size + 2) (fun t => t ≠ 44) X w9 := Fix.of_grown hg h1
  have hFS : Fix (w.heap.size + 2) (fun t => t ≠ 25) w9 (w9.setCell ⟨gP, 0, none⟩ v4) := Fix.setBx hD9.pb
  have hrow : RNodes (w.heap.size + 2) w9 v4 (xs ++ [x]) := Row.push EN_lasts (fun t ht => by rcases ht with ht | ht | ht <;> rw [ht] <;> decide) h1 h2 ⟨b1, b2, b3, b4, rfl, (hx.fix hFX (fun _ _ => trivial)).base hnb⟩ hg hown
  obtain ⟨a', c', hv⟩ := hrow.form
  subst hv
  exact ⟨xs ++ [x], s2, a', c', ao, co, rfl, by rw [List.length_append, List.length_singleton]; omega, hD9.setP (i := 0), hrow.fix EN_lasts hFS (by decide) (fun t ht => by rcases ht with ht | ht | ht <;> rw [ht] <;> decide), (ho.fix EI_lasts hF9 (by decide) (fun _ h => h.elim)).fix EI_lasts hFS (by decide) (fun _ h => h.elim), hrl.push pf_node (by omega) hrd⟩

set_option maxHeartbeats 16000000 in
theorem rDecode_any (w : World) (a : Option Addr) (cap : Nat) (l : List Int) (hb : Bts w.heap.size w a l) (hc : l.length ≤ cap) (hl : l.length ≤ 1000000000) :
    Calls Try.prog 15 #[.slice a l.length cap] w (DecAns l w) := by
  obtain ⟨iN, hiN, hz0, hz1, hz2⟩ := info_parts Try.info_node
  have BZ := hid' (Bx.new w #[.slice none 0 0, .slice none 0 0, .int .i64 0] 25)
  have B0 : Below w.heap.size w (w.alloc (Obj.cells #[.slice none 0 0, .slice none 0 0, .int .i64 0] 25)) := (Below.refl _ w).alloc (Nat.le_refl _) _
  have hone : (#[.slice none 0 0, .slice none 0 0, .int .i64 0] : Array Value).all (·.oneCell') = true := by simp [Value.oneCell']
  by_cases hn : l = []
  · subst hn
    have HF : Hid (DecAns [] w (.returned (.tuple #[.agg #[.slice none 0 0, .slice none 0 0, .int .i64 0], .int .i64 6])) ((w.alloc (Obj.cells #[.slice none 0 0, .slice none 0 0, .int .i64 0] 25)).setRow w.heap.size #[.slice none 0 0, .slice none 0 0, .int .i64 0])) := .inr ⟨no_plan (by simp), rfl, below_setRow B0 (Nat.le_refl _) _⟩
    have BR : Hid (Bx ((w.alloc (Obj.cells #[.slice none 0 0, .slice none 0 0, .int .i64 0] 25)).setRow w.heap.size #[.slice none 0 0, .slice none 0 0, .int .i64 0]) w.heap.size #[.slice none 0 0, .slice none 0 0, .int .i64 0] 25) := BZ.out.set
    have q0 := BR.out.cell 0
    have q1 := BR.out.cell 1
    have q2 := BR.out.cell 2
    simp only [List.getElem?_toArray, List.getElem?_cons_zero, List.getElem?_cons_succ, List.length_nil] at q0 q1 q2 ⊢
    clear hb hc hl B0
    go_enter Try.func15, Try.ntmps15
    go_wp2_with (refine wpList_store_row rfl 25 (.tmp 2) (.tmp 18) rfl w.heap.size #[.slice none 0 0, .slice none 0 0, .int .i64 0] rfl rfl 25 _ BZ.out (by kernel_rfl) rfl hone ?_)
    (try simp only [Exit.inBlock, Exit.then])
    refine bodyPost_ret (v := .tuple #[.agg #[.slice none 0 0, .slice none 0 0, .int .i64 0], .int .i64 6]) ?_ rfl HF.out
    unfold results
    go_simp
  · obtain ⟨b, off, rfl, hB, hcell⟩ := hb.cells hn
    have hpos : 0 < l.length := List.length_pos_iff.2 hn
    have ez : decide ((l.length : Int) < 1) = false := by simp; omega
    have ez1 : ¬ ((l.length : Int) < 1) := by omega
    have k0 : (w.alloc (Obj.cells #[.slice none 0 0, .slice none 0 0, .int .i64 0] 25)).cell? ⟨b, off, none⟩ = some (.int .u8 (l.getD 0 0)) := (B0.cell (p := ⟨b, off, none⟩) hB).trans (by have := hcell 0 hpos; rwa [Nat.add_zero] at this)
    by_cases h80 : l.getD 0 0 = 80
    · have HH : Hid (∀ q, PlOK q → l = planB q → l.drop 1 = plB q) := fun q _ h => by rw [h, planB_eq]; simp
      have HL : Hid (l = 80 :: l.drop 1) := by
        cases l with
        | nil => exact absurd rfl hn
        | cons x l =>
          simp only [List.getD_cons_zero] at h80
          rw [h80]; rfl
      have BW : Below w.heap.size w ((w.alloc (Obj.cells #[.slice none 0 0, .slice none 0 0, .int .i64 0] 25)).alloc (Obj.cells #[.slice (some ⟨b, off, none⟩) l.length cap, .int .i64 1, .bool false] 67)) := B0.alloc (by simp) _
      have R0 := Bx.new (w.alloc (Obj.cells #[.slice none 0 0, .slice none 0 0, .int .i64 0] 25)) #[.slice (some ⟨b, off, none⟩) l.length cap, .int .i64 1, .bool false] 67
      rw [sz1] at R0
      have HB := hid' hb
      have HR0 : Hid (RdS 67 ((w.alloc (Obj.cells #[.slice none 0 0, .slice none 0 0, .int .i64 0] 25)).alloc (Obj.cells #[.slice (some ⟨b, off, none⟩) l.length cap, .int .i64 1, .bool false] 67)) (w.heap.size + 1) (some ⟨b, off, none⟩) cap l (some (l.drop 1))) := ⟨1, hpos, .inl ⟨_, rfl, rfl, R0⟩⟩
      have H := hid' (rnumber_any _ (w.heap.size + 1) (some ⟨b, off, none⟩) cap l (some (l.drop 1)) HR0.out ((hb.keep BW).mono (by omega)) hc hl)
      have BZ1 := hid' (BZ.out.keep ((Below.refl _ _).alloc (Nat.le_refl _) (Obj.cells #[.slice (some ⟨b, off, none⟩) l.length cap, .int .i64 1, .bool false] 67)))
      have HBW := hid' BW
      have HSZ : Hid (w.heap.size + 2 ≤ ((w.alloc (Obj.cells #[.slice none 0 0, .slice none 0 0, .int .i64 0] 25)).alloc (Obj.cells #[.slice (some ⟨b, off, none⟩) l.length cap, .int .i64 1, .bool false] 67)).heap.size) := (by simp : _ ≤ _)
      have eb : (l.getD 0 0 != 80) = false := by rw [h80]; rfl
      generalize l.getD 0 0 = z at *
      subst h80
      clear hb hcell hn B0 BZ R0 BW
      go_enter Try.func15, Try.ntmps15
      go_wp2_with fail
      generalize hW1 : (w.alloc (Obj.cells #[.slice none 0 0, .slice none 0 0, .int .i64 0] 25)).alloc (Obj.cells #[.slice (some ⟨b, off, none⟩) l.length cap, .int .i64 1, .bool false] 67) = W1 at *
      clear hW1 k0
      generalize hba : some (⟨b, off, none⟩ : Addr) = ba at *
      refine H.out.mono ?_
      rintro e w2 ⟨room, s1, rfl, hrd0, hrs, hbut⟩
      have hsz2 : w.heap.size + 2 ≤ w2.heap.size := Nat.le_trans HSZ.out hbut.size
      have D1 : Hid (DS w w2.heap.size ba cap l #[.slice none 0 0, .slice none 0 0, .int .i64 room] s1 ((w2.alloc (Obj.cells #[.slice none 0 0, .slice none 0 0, .int .i64 0] 25)).setRow w2.heap.size #[.slice none 0 0, .slice none 0 0, .int .i64 room])) := DS.start (but_below HBW.out hbut (by omega)) (BZ1.out.but hbut (by omega)) hrs hsz2
      have BN := hid' (Bx.new w2 #[.slice none 0 0, .slice none 0 0, .int .i64 0] 25)
      have hd0 := hid' hrd0
      have hone1 : (#[.slice none 0 0, .slice none 0 0, .int .i64 room] : Array Value).all (·.oneCell') = true := by simp [Value.oneCell']
      clear hrd0 hrs hbut BZ1 HBW H HR0 HSZ
      go_wp2_with (refine wpList_store_row rfl 25 (.tmp 5) (.tmp 24) rfl w2.heap.size #[.slice none 0 0, .slice none 0 0, .int .i64 room] rfl rfl 25 _ BN.out (by kernel_rfl) rfl hone1 ?_)
      generalize (w2.alloc (Obj.cells #[.slice none 0 0, .slice none 0 0, .int .i64 0] 25)).setRow w2.heap.size #[.slice none 0 0, .slice none 0 0, .int .i64 room] = W2 at *
      clear BN
      generalize w2.heap.size = gP at *
      refine (rnumbers_any W2 (w.heap.size + 1) ba cap l _ 8 (by omega) D1.out.rd (D1.out.bts HB.out) hc hl).mono ?_
      rintro e w3 ⟨vo, outs, s2, rfl, hrep, hrd1, hrs, hbut⟩
      obtain ⟨ao, co, hv⟩ := hrep.form
      subst hv
      have DC := D1.out.call hbut hrs
      have f1 := DC.pb.frozen 1
      have c1 : w3.cell? ⟨gP, 1, none⟩ = some (.slice none 0 0) := DC.pb.cell 1
      have D2 : Hid (DS w gP ba cap l #[.slice none 0 0, .slice ao outs.length co, .int .i64 room] s2 (w3.setCell ⟨gP, 1, none⟩ (.slice ao outs.length co))) := (DC.setP (i := 1) (v := .slice ao outs.length co) : _)
      have RO := hid' ((hrep.base EI_base D1.out.size).fix EI_lasts (Fix.setBx DC.pb (i := 1) (v := .slice ao outs.length co)) (by decide) (fun _ h => h.elim))
      have hd1 := hid' hrd1
      clear hrep hrd1 hrs hbut DC D1
      go_wp2_with fail
      generalize w3.setCell ⟨gP, 1, none⟩ (.slice ao outs.length co) = W3 at *
      clear f1 c1
      refine (rcount_any W3 (w.heap.size + 1) ba cap l _ 64 (by omega) D2.out.rd (D2.out.bts HB.out) hc hl).mono ?_
      rintro e w4 ⟨n, s3, rfl, hn64, hrd2, hrs, hbut⟩
      have I0 : Hid (OLoop w gP ba cap l room outs n s2 n (.int .i64 (n : Int)) w4) := ⟨[], s3, none, 0, ao, co, rfl, by simp, D2.out.call hbut hrs, Row.nil (own_nil _ _ _ _), RO.out.fix EI_lasts (Fix.of_but (ok := fun _ => True) hbut (by omega)) trivial (fun _ h => h.elim), RdL.start hrd2⟩
      clear hrd2 hrs hbut D2 RO
      go_wp2
      go_loopg [6] n (fun k i W => OLoop w gP ba cap l room outs n s2 k i W)
      case atStart => exact I0.out
      case round =>
        clear I0
        obtain ⟨xs, s4, a0, cb, ao, co, rfl, hk, hds, hrow, hout, hrl⟩ := hrel
        obtain ⟨m, hm2⟩ : ∃ m, xs.length = m := ⟨_, rfl⟩
        have HM := hid' hm2
        cases gk with
        | zero =>
          have hdone := hrl.done (.inr (by omega))
          have hplan := rd_plan hd0.out hd1.out hdone
          rw [hm2] at hds hrow
          clear hrl hdone hk
          obtain ⟨at', hat, hcase⟩ := hds.rd
          rcases hcase with ⟨r, rfl, hr, hbx⟩ | ⟨rfl, hbx⟩
          · have d2 := hbx.cell 2
            have d1 := hbx.cell 1
            simp only [List.getElem?_toArray, List.getElem?_cons_zero, List.getElem?_cons_succ] at d1 d2
            obtain ⟨hok, hrest⟩ := hplan
            by_cases hlt : at' < l.length
            · have hrne : r ≠ [] := by
                intro h
                rw [h] at hr
                have := congrArg List.length hr
                simp at this
                omega
              have HBAD : Hid (∀ q, PlOK q → l ≠ planB q) := (fun q hq hlq => by
                have e1 := HH.out q hq hlq
                rw [hrest] at e1
                obtain ⟨_, e2⟩ := pf_plB _ q r [] hok hq (by rw [e1, List.append_nil])
                exact hrne e2 : ∀ q, PlOK q → l ≠ planB q)
              clear hbx hr hrest hrne hok
              have HF : Hid (DecAns l w (.returned (.tuple #[.agg #[.slice none 0 0, .slice none 0 0, .int .i64 0], .int .i64 6])) (wr.setRow w.heap.size #[.slice none 0 0, .slice none 0 0, .int .i64 0])) := .inr ⟨HBAD.out, rfl, below_setRow hds.bel (Nat.le_refl _) _⟩
              have BR : Hid (Bx (wr.setRow w.heap.size #[.slice none 0 0, .slice none 0 0, .int .i64 0]) w.heap.size #[.slice none 0 0, .slice none 0 0, .int .i64 0] 25) := hds.res.set
              have BZ3 := hid' hds.res
              have q0 := BR.out.cell 0
              have q1 := BR.out.cell 1
              have q2 := BR.out.cell 2
              simp only [List.getElem?_toArray, List.getElem?_cons_zero, List.getElem?_cons_succ] at q0 q1 q2
              clear HBAD BR hds hrow hout HH HL HB hd0 hd1 hiN hz0 hz1 hz2
              go_wp2_with (refine wpList_store_row rfl 25 (.tmp 2) (.tmp 104) rfl w.heap.size #[.slice none 0 0, .slice none 0 0, .int .i64 0] rfl rfl 25 _ BZ3.out (by kernel_rfl) rfl hone ?_)
              (try simp only [Exit.inBlock, Exit.then])
              refine bodyPost_ret (v := .tuple #[.agg #[.slice none 0 0, .slice none 0 0, .int .i64 0], .int .i64 6]) ?_ rfl HF.out
              unfold results
              go_simp
            · have hr0 : r = [] := by rw [← hr]; exact List.drop_eq_nil_of_le (by omega)
              subst hr0
              have HEQ : Hid (l = planB ⟨xs, outs, room⟩) := (by rw [HL.out, hrest, List.append_nil]; rfl : l = planB ⟨xs, outs, room⟩)
              have BR2 : Hid (Bx (wr.setRow w.heap.size #[.slice a0 m cb, .slice ao outs.length co, .int .i64 room]) w.heap.size #[.slice a0 m cb, .slice ao outs.length co, .int .i64 room] 25) := hds.res.set
              have FY : Fix (w.heap.size + 2) (fun _ => True) wr (wr.setRow w.heap.size #[.slice a0 m cb, .slice ao outs.length co, .int .i64 room]) := Fix.row (by omega)
              have HF : Hid (DecAns l w (.returned (.tuple #[.agg #[.slice a0 m cb, .slice ao outs.length co, .int .i64 room], .int .i64 0])) (wr.setRow w.heap.size #[.slice a0 m cb, .slice ao outs.length co, .int .i64 room])) :=
                .inl ⟨⟨xs, outs, room⟩, ⟨a0, cb, ao, co⟩, hok, HEQ.out, by rw [← HM.out]; rfl, ⟨RNodes.nds (hrow.fix EN_lasts FY trivial (fun _ _ => trivial)), RInts.ns (hout.fix EI_lasts FY trivial (fun _ _ => trivial))⟩, below_setRow hds.bel (Nat.le_refl _) _⟩
              have BZ3 := hid' hds.res
              have q0 := BR2.out.cell 0
              have q1 := BR2.out.cell 1
              have q2 := BR2.out.cell 2
              have o0 := hds.pb.cell 0
              have o1 := hds.pb.cell 1
              have o2 := hds.pb.cell 2
              simp only [List.getElem?_toArray, List.getElem?_cons_zero, List.getElem?_cons_succ] at q0 q1 q2 o0 o1 o2
              have hone2 : (#[.slice a0 m cb, .slice ao outs.length co, .int .i64 room] : Array Value).all (·.oneCell') = true := by simp [Value.oneCell']
              have eL : (at' : Int) = (l.length : Int) := by omega
              clear hbx hr hrest hok FY HEQ BR2 hds hrow hout HH HL HB hd0 hd1 hiN hz0 hz1 hz2
              go_wp2_with (refine wpList_store_row rfl 25 (.tmp 2) (.tmp 105) rfl w.heap.size #[.slice a0 m cb, .slice ao outs.length co, .int .i64 room] rfl rfl 25 _ BZ3.out (by kernel_rfl) rfl hone2 ?_)
              (try simp only [Exit.inBlock, Exit.then])
              refine bodyPost_ret (v := .tuple #[.agg #[.slice a0 m cb, .slice ao outs.length co, .int .i64 room], .int .i64 0]) ?_ rfl HF.out
              unfold results
              go_simp
          · have d2 := hbx.cell 2
            simp only [List.getElem?_toArray, List.getElem?_cons_zero, List.getElem?_cons_succ] at d2
            have HBAD : Hid (∀ q, PlOK q → l ≠ planB q) := (fun q hq hlq => hplan q [] hq (by rw [List.append_nil]; exact HH.out q hq hlq) : ∀ q, PlOK q → l ≠ planB q)
            clear hbx
            have HF : Hid (DecAns l w (.returned (.tuple #[.agg #[.slice none 0 0, .slice none 0 0, .int .i64 0], .int .i64 6])) (wr.setRow w.heap.size #[.slice none 0 0, .slice none 0 0, .int .i64 0])) := .inr ⟨HBAD.out, rfl, below_setRow hds.bel (Nat.le_refl _) _⟩
            have BR : Hid (Bx (wr.setRow w.heap.size #[.slice none 0 0, .slice none 0 0, .int .i64 0]) w.heap.size #[.slice none 0 0, .slice none 0 0, .int .i64 0] 25) := hds.res.set
            have BZ3 := hid' hds.res
            have q0 := BR.out.cell 0
            have q1 := BR.out.cell 1
            have q2 := BR.out.cell 2
            simp only [List.getElem?_toArray, List.getElem?_cons_zero, List.getElem?_cons_succ] at q0 q1 q2
            clear HBAD BR hds hrow hout HH HL HB hd0 hd1 hiN hz0 hz1 hz2
            go_wp2_with (refine wpList_store_row rfl 25 (.tmp 2) (.tmp 104) rfl w.heap.size #[.slice none 0 0, .slice none 0 0, .int .i64 0] rfl rfl 25 _ BZ3.out (by kernel_rfl) rfl hone ?_)
            (try simp only [Exit.inBlock, Exit.then])
            refine bodyPost_ret (v := .tuple #[.agg #[.slice none 0 0, .slice none 0 0, .int .i64 0], .int .i64 6]) ?_ rfl HF.out
            unfold results
            go_simp
        | succ k =>
          cases s4 with
          | none =>
            have hplan := rd_plan hd0.out hd1.out (hrl.done (.inl rfl))
            rw [hm2] at hds hrow
            obtain ⟨at', hat, hcase⟩ := hds.rd
            rcases hcase with ⟨r, hh, _⟩ | ⟨_, hbx⟩
            · cases hh
            · have d2 := hbx.cell 2
              simp only [List.getElem?_toArray, List.getElem?_cons_zero, List.getElem?_cons_succ] at d2
              have HBAD : Hid (∀ q, PlOK q → l ≠ planB q) := (fun q hq hlq => hplan q [] hq (by rw [List.append_nil]; exact HH.out q hq hlq) : ∀ q, PlOK q → l ≠ planB q)
              have hpos' : (0 : Int) < ((k + 1 : Nat) : Int) := by omega
              clear hbx hrl hk
              have HF : Hid (DecAns l w (.returned (.tuple #[.agg #[.slice none 0 0, .slice none 0 0, .int .i64 0], .int .i64 6])) (wr.setRow w.heap.size #[.slice none 0 0, .slice none 0 0, .int .i64 0])) := .inr ⟨HBAD.out, rfl, below_setRow hds.bel (Nat.le_refl _) _⟩
              have BR : Hid (Bx (wr.setRow w.heap.size #[.slice none 0 0, .slice none 0 0, .int .i64 0]) w.heap.size #[.slice none 0 0, .slice none 0 0, .int .i64 0] 25) := hds.res.set
              have BZ3 := hid' hds.res
              have q0 := BR.out.cell 0
              have q1 := BR.out.cell 1
              have q2 := BR.out.cell 2
              simp only [List.getElem?_toArray, List.getElem?_cons_zero, List.getElem?_cons_succ] at q0 q1 q2
              clear HBAD BR hds hrow hout HH HL HB hd0 hd1 hiN hz0 hz1 hz2
              go_wp2_with (refine wpList_store_row rfl 25 (.tmp 2) (.tmp 104) rfl w.heap.size #[.slice none 0 0, .slice none 0 0, .int .i64 0] rfl rfl 25 _ BZ3.out (by kernel_rfl) rfl hone ?_)
              (try simp only [Exit.inBlock, Exit.then])
              refine bodyPost_ret (v := .tuple #[.agg #[.slice none 0 0, .slice none 0 0, .int .i64 0], .int .i64 6]) ?_ rfl HF.out
              unfold results
              go_simp
          | some r4 =>
            rw [hm2] at hds hrow hk
            have hgpl := hds.pb.lt
            have hpos' : (0 : Int) < ((k + 1 : Nat) : Int) := by omega
            have d2 : wr.cell? ⟨w.heap.size + 1, 2, none⟩ = some (.bool false) := by
              obtain ⟨a, _, ⟨r, _, _, h⟩ | ⟨h, _⟩⟩ := hds.rd
              · exact h.cell 2
              · cases h
            obtain ⟨wR, rfl⟩ : ∃ z, z = wr := ⟨_, rfl⟩
            have HDS := hid' hds
            have HROW := hid' hrow
            have HOUT := hid' hout
            have HRL := hid' hrl
            clear hds hrow hout hrl hm2 HH HL hd0 hd1
            go_wp2_with fail
            refine (rnumber_any wR (w.heap.size + 1) ba cap l _ HDS.out.rd (HDS.out.bts HB.out) hc hl).mono ?_
            rintro e w5 ⟨x0, t0, rfl, hrd, hrs, hbut⟩
            have N0 : Hid (NS w wR gP w5.heap.size ba cap l #[.slice a0 m cb, .slice ao outs.length co, .int .i64 room] #[.int .i64 x0, .slice none 0 0, .slice none 0 0, .slice none 0 0, .slice none 0 0, .int .i64 0, .int .i64 0, .int .i64 0, .int .i64 0] t0 ((w5.alloc (Obj.cells #[.int .i64 0, .slice none 0 0, .slice none 0 0, .slice none 0 0, .slice none 0 0, .int .i64 0, .int .i64 0, .int .i64 0, .int .i64 0] 44)).setRow w5.heap.size #[.int .i64 x0, .slice none 0 0, .slice none 0 0, .slice none 0 0, .slice none 0 0, .int .i64 0, .int .i64 0, .int .i64 0, .int .i64 0])) := NS.start (HDS.out.call hbut hrs) hbut hgpl
            have BN := hid' (Bx.new w5 #[.int .i64 0, .slice none 0 0, .slice none 0 0, .slice none 0 0, .slice none 0 0, .int .i64 0, .int .i64 0, .int .i64 0, .int .i64 0] 44)
            have e0 := hid' hrd
            have hone9 : (#[.int .i64 x0, .slice none 0 0, .slice none 0 0, .slice none 0 0, .slice none 0 0, .int .i64 0, .int .i64 0, .int .i64 0, .int .i64 0] : Array Value).all (·.oneCell') = true := by simp [Value.oneCell']
            clear hrd hrs hbut d2
            go_wp2_with (refine wpList_store_row rfl 44 (.tmp 7) (.tmp 43) rfl w5.heap.size #[.int .i64 x0, .slice none 0 0, .slice none 0 0, .slice none 0 0, .slice none 0 0, .int .i64 0, .int .i64 0, .int .i64 0, .int .i64 0] rfl rfl 44 _ BN.out (by kernel_rfl) rfl hone9 ?_)
            generalize (w5.alloc (Obj.cells #[.int .i64 0, .slice none 0 0, .slice none 0 0, .slice none 0 0, .slice none 0 0, .int .i64 0, .int .i64 0, .int .i64 0, .int .i64 0] 44)).setRow w5.heap.size #[.int .i64 x0, .slice none 0 0, .slice none 0 0, .slice none 0 0, .slice none 0 0, .int .i64 0, .int .i64 0, .int .i64 0, .int .i64 0] = V0 at *
            clear BN
            generalize w5.heap.size = gN at *
            refine (rnumbers_any V0 (w.heap.size + 1) ba cap l _ 8 (by omega) N0.out.ds.rd (N0.out.ds.bts HB.out) hc hl).mono ?_
            rintro e y1 ⟨v1, x1, t1, rfl, hrep, hrd, hrs, hbut⟩
            obtain ⟨a1, c1, hv⟩ := hrep.form
            subst hv
            replace hrep := hrep.base EI_base N0.out.but.size
            have NC := N0.out.call hbut hrs
            have FC := N0.out.fixC hbut
            have f1 := NC.nb.frozen 1
            have c1' : y1.cell? ⟨gN, 1, none⟩ = some (.slice none 0 0) := NC.nb.cell 1
            have N1 : Hid (NS w wR gP gN ba cap l #[.slice a0 m cb, .slice ao outs.length co, .int .i64 room] #[.int .i64 x0, .slice a1 x1.length c1, .slice none 0 0, .slice none 0 0, .slice none 0 0, .int .i64 0, .int .i64 0, .int .i64 0, .int .i64 0] t1 (y1.setCell ⟨gN, 1, none⟩ (.slice a1 x1.length c1))) := (NC.set (i := 1) (v := .slice a1 x1.length c1) : _)
            have FS : Fix wR.heap.size (fun t => t ≠ 44) y1 (y1.setCell ⟨gN, 1, none⟩ (.slice a1 x1.length c1)) := Fix.setBx NC.nb
            have R1 := hid' (hrep.fix EI_lasts FS (by decide) (fun _ h => h.elim))
            clear hrep
            have e1 := hid' hrd
            clear hrd hrs hbut NC FC FS N0
            go_wp2_with fail
            generalize y1.setCell ⟨gN, 1, none⟩ (.slice a1 x1.length c1) = V1 at *
            clear f1 c1'
            refine (rnumbers_any V1 (w.heap.size + 1) ba cap l _ 16 (by omega) N1.out.ds.rd (N1.out.ds.bts HB.out) hc hl).mono ?_
            rintro e y2 ⟨v2, x2, t2, rfl, hrep, hrd, hrs, hbut⟩
            obtain ⟨a2, c2, hv⟩ := hrep.form
            subst hv
            replace hrep := hrep.base EI_base N1.out.but.size
            have NC := N1.out.call hbut hrs
            have FC := N1.out.fixC hbut
            have f2 := NC.nb.frozen 2
            have c2' : y2.cell? ⟨gN, 2, none⟩ = some (.slice none 0 0) := NC.nb.cell 2
            have N2 : Hid (NS w wR gP gN ba cap l #[.slice a0 m cb, .slice ao outs.length co, .int .i64 room] #[.int .i64 x0, .slice a1 x1.length c1, .slice a2 x2.length c2, .slice none 0 0, .slice none 0 0, .int .i64 0, .int .i64 0, .int .i64 0, .int .i64 0] t2 (y2.setCell ⟨gN, 2, none⟩ (.slice a2 x2.length c2))) := (NC.set (i := 2) (v := .slice a2 x2.length c2) : _)
            have FS : Fix wR.heap.size (fun t => t ≠ 44) y2 (y2.setCell ⟨gN, 2, none⟩ (.slice a2 x2.length c2)) := Fix.setBx NC.nb
            replace R1 := hid' (R1.out.fix EI_lasts (FC.trans' FS) (by decide) (fun _ h => h.elim))
            have R2 := hid' (hrep.fix EI_lasts FS (by decide) (fun _ h => h.elim))
            clear hrep
            have e2 := hid' hrd
            clear hrd hrs hbut NC FC FS N1
            go_wp2_with fail
            generalize y2.setCell ⟨gN, 2, none⟩ (.slice a2 x2.length c2) = V2 at *
            clear f2 c2'
            refine (rcount_any V2 (w.heap.size + 1) ba cap l _ 16 (by omega) N2.out.ds.rd (N2.out.ds.bts HB.out) hc hl).mono ?_
            rintro e y3 ⟨n3, t3, rfl, hn16, hrd, hrs, hbut⟩
            have X0 : Hid (XLoop w wR gP gN ba cap l #[.slice a0 m cb, .slice ao outs.length co, .int .i64 room] (.int .i64 x0) (.slice a1 x1.length c1) (.slice a2 x2.length c2) x1 x2 n3 t2 n3 (.int .i64 (n3 : Int)) y3) := ⟨[], t3, none, 0, rfl, by simp, ⟨N2.out.call hbut hrs, Row.nil (own_nil _ _ _ _), R1.out.fix EI_lasts (N2.out.fixC hbut) (by decide) (fun _ h => h.elim), R2.out.fix EI_lasts (N2.out.fixC hbut) (by decide) (fun _ h => h.elim)⟩, RdL.start hrd⟩
            clear hrd hrs hbut N2 R1 R2
            go_wp2
            go_loopg [8] n3 (fun k i W => XLoop w wR gP gN ba cap l #[.slice a0 m cb, .slice ao outs.length co, .int .i64 room] (.int .i64 x0) (.slice a1 x1.length c1) (.slice a2 x2.length c2) x1 x2 n3 t2 k i W)
            case atStart => exact X0.out
            case round =>
              clear X0
              obtain ⟨ys, t5, a3, c3, rfl, hk3, hxs, hrl3⟩ := hrel
              cases gk with
              | zero =>
                have e3 := hid' (hrl3.done (.inr (by omega)))
                have N3 := hid' hxs.ns
                have R1 := hid' hxs.r1
                have R2 := hid' hxs.r2
                have R3 := hid' hxs.ex
                clear hxs hrl3
                go_wp2_with fail
                refine (rnumbers_any wr (w.heap.size + 1) ba cap l _ 16 (by omega) N3.out.ds.rd (N3.out.ds.bts HB.out) hc hl).mono ?_
                rintro e y4 ⟨v4, x4, t4, rfl, hrep, hrd, hrs, hbut⟩
                obtain ⟨a4, c4, hv⟩ := hrep.form
                subst hv
                replace hrep := hrep.base EI_base N3.out.but.size
                have NC := N3.out.call hbut hrs
                have FC := N3.out.fixC hbut
                have f4 := NC.nb.frozen 4
                have c4' : y4.cell? ⟨gN, 4, none⟩ = some (.slice none 0 0) := NC.nb.cell 4
                have N4 : Hid (NS w wR gP gN ba cap l #[.slice a0 m cb, .slice ao outs.length co, .int .i64 room] #[.int .i64 x0, .slice a1 x1.length c1, .slice a2 x2.length c2, .slice a3 ys.length c3, .slice a4 x4.length c4, .int .i64 0, .int .i64 0, .int .i64 0, .int .i64 0] t4 (y4.setCell ⟨gN, 4, none⟩ (.slice a4 x4.length c4))) := (NC.set (i := 4) (v := .slice a4 x4.length c4) : _)
                have FS : Fix wR.heap.size (fun t => t ≠ 44) y4 (y4.setCell ⟨gN, 4, none⟩ (.slice a4 x4.length c4)) := Fix.setBx NC.nb
                replace R1 := hid' (R1.out.fix EI_lasts (FC.trans' FS) (by decide) (fun _ h => h.elim))
                replace R2 := hid' (R2.out.fix EI_lasts (FC.trans' FS) (by decide) (fun _ h => h.elim))
                replace R3 := hid' (R3.out.fix EE_lasts (FC.trans' FS) (by decide) (fun t ht => by rw [ht]; decide))
                have R4 := hid' (hrep.fix EI_lasts FS (by decide) (fun _ h => h.elim))
                clear hrep
                have e4 := hid' hrd
                clear hrd hrs hbut NC FC FS N3
                go_wp2_with fail
                generalize y4.setCell ⟨gN, 4, none⟩ (.slice a4 x4.length c4) = V4 at *
                clear f4 c4'
                refine (rnumber_any V4 (w.heap.size + 1) ba cap l _ N4.out.ds.rd (N4.out.ds.bts HB.out) hc hl).mono ?_
                rintro e y5 ⟨x5, t5, rfl, hrd, hrs, hbut⟩
                have NC := N4.out.call hbut hrs
                have FC := N4.out.fixC hbut
                have f5 := NC.nb.frozen 5
                have c5' : y5.cell? ⟨gN, 5, none⟩ = some (.int .i64 0) := NC.nb.cell 5
                have N5 : Hid (NS w wR gP gN ba cap l #[.slice a0 m cb, .slice ao outs.length co, .int .i64 room] #[.int .i64 x0, .slice a1 x1.length c1, .slice a2 x2.length c2, .slice a3 ys.length c3, .slice a4 x4.length c4, .int .i64 x5, .int .i64 0, .int .i64 0, .int .i64 0] t5 (y5.setCell ⟨gN, 5, none⟩ (.int .i64 x5))) := (NC.set (i := 5) (v := .int .i64 x5) : _)
                have FS : Fix wR.heap.size (fun t => t ≠ 44) y5 (y5.setCell ⟨gN, 5, none⟩ (.int .i64 x5)) := Fix.setBx NC.nb
                replace R1 := hid' (R1.out.fix EI_lasts (FC.trans' FS) (by decide) (fun _ h => h.elim))
                replace R2 := hid' (R2.out.fix EI_lasts (FC.trans' FS) (by decide) (fun _ h => h.elim))
                replace R3 := hid' (R3.out.fix EE_lasts (FC.trans' FS) (by decide) (fun t ht => by rw [ht]; decide))
                replace R4 := hid' (R4.out.fix EI_lasts (FC.trans' FS) (by decide) (fun _ h => h.elim))
                have e5 := hid' hrd
                clear hrd hrs hbut NC FC FS N4
                go_wp2_with fail
                generalize y5.setCell ⟨gN, 5, none⟩ (.int .i64 x5) = V5 at *
                clear f5 c5'
                refine (rnumber_any V5 (w.heap.size + 1) ba cap l _ N5.out.ds.rd (N5.out.ds.bts HB.out) hc hl).mono ?_
                rintro e y6 ⟨x6, t6, rfl, hrd, hrs, hbut⟩
                have NC := N5.out.call hbut hrs
                have FC := N5.out.fixC hbut
                have f6 := NC.nb.frozen 6
                have c6' : y6.cell? ⟨gN, 6, none⟩ = some (.int .i64 0) := NC.nb.cell 6
                have N6 : Hid (NS w wR gP gN ba cap l #[.slice a0 m cb, .slice ao outs.length co, .int .i64 room] #[.int .i64 x0, .slice a1 x1.length c1, .slice a2 x2.length c2, .slice a3 ys.length c3, .slice a4 x4.length c4, .int .i64 x5, .int .i64 x6, .int .i64 0, .int .i64 0] t6 (y6.setCell ⟨gN, 6, none⟩ (.int .i64 x6))) := (NC.set (i := 6) (v := .int .i64 x6) : _)
                have FS : Fix wR.heap.size (fun t => t ≠ 44) y6 (y6.setCell ⟨gN, 6, none⟩ (.int .i64 x6)) := Fix.setBx NC.nb
                replace R1 := hid' (R1.out.fix EI_lasts (FC.trans' FS) (by decide) (fun _ h => h.elim))
                replace R2 := hid' (R2.out.fix EI_lasts (FC.trans' FS) (by decide) (fun _ h => h.elim))
                replace R3 := hid' (R3.out.fix EE_lasts (FC.trans' FS) (by decide) (fun t ht => by rw [ht]; decide))
                replace R4 := hid' (R4.out.fix EI_lasts (FC.trans' FS) (by decide) (fun _ h => h.elim))
                have e6 := hid' hrd
                clear hrd hrs hbut NC FC FS N5
                go_wp2_with fail
                generalize y6.setCell ⟨gN, 6, none⟩ (.int .i64 x6) = V6 at *
                clear f6 c6'
                refine (rnumber_any V6 (w.heap.size + 1) ba cap l _ N6.out.ds.rd (N6.out.ds.bts HB.out) hc hl).mono ?_
                rintro e y7 ⟨x7, t7, rfl, hrd, hrs, hbut⟩
                have NC := N6.out.call hbut hrs
                have FC := N6.out.fixC hbut
                have f7 := NC.nb.frozen 7
                have c7' : y7.cell? ⟨gN, 7, none⟩ = some (.int .i64 0) := NC.nb.cell 7
                have N7 : Hid (NS w wR gP gN ba cap l #[.slice a0 m cb, .slice ao outs.length co, .int .i64 room] #[.int .i64 x0, .slice a1 x1.length c1, .slice a2 x2.length c2, .slice a3 ys.length c3, .slice a4 x4.length c4, .int .i64 x5, .int .i64 x6, .int .i64 x7, .int .i64 0] t7 (y7.setCell ⟨gN, 7, none⟩ (.int .i64 x7))) := (NC.set (i := 7) (v := .int .i64 x7) : _)
                have FS : Fix wR.heap.size (fun t => t ≠ 44) y7 (y7.setCell ⟨gN, 7, none⟩ (.int .i64 x7)) := Fix.setBx NC.nb
                replace R1 := hid' (R1.out.fix EI_lasts (FC.trans' FS) (by decide) (fun _ h => h.elim))
                replace R2 := hid' (R2.out.fix EI_lasts (FC.trans' FS) (by decide) (fun _ h => h.elim))
                replace R3 := hid' (R3.out.fix EE_lasts (FC.trans' FS) (by decide) (fun t ht => by rw [ht]; decide))
                replace R4 := hid' (R4.out.fix EI_lasts (FC.trans' FS) (by decide) (fun _ h => h.elim))
                have e7 := hid' hrd
                clear hrd hrs hbut NC FC FS N6
                go_wp2_with fail
                generalize y7.setCell ⟨gN, 7, none⟩ (.int .i64 x7) = V7 at *
                clear f7 c7'
                refine (rnumber_any V7 (w.heap.size + 1) ba cap l _ N7.out.ds.rd (N7.out.ds.bts HB.out) hc hl).mono ?_
                rintro e y8 ⟨x8, t8, rfl, hrd, hrs, hbut⟩
                have NC := N7.out.call hbut hrs
                have FC := N7.out.fixC hbut
                have f8 := NC.nb.frozen 8
                have c8' : y8.cell? ⟨gN, 8, none⟩ = some (.int .i64 0) := NC.nb.cell 8
                have N8 : Hid (NS w wR gP gN ba cap l #[.slice a0 m cb, .slice ao outs.length co, .int .i64 room] #[.int .i64 x0, .slice a1 x1.length c1, .slice a2 x2.length c2, .slice a3 ys.length c3, .slice a4 x4.length c4, .int .i64 x5, .int .i64 x6, .int .i64 x7, .int .i64 x8] t8 (y8.setCell ⟨gN, 8, none⟩ (.int .i64 x8))) := (NC.set (i := 8) (v := .int .i64 x8) : _)
                have FS : Fix wR.heap.size (fun t => t ≠ 44) y8 (y8.setCell ⟨gN, 8, none⟩ (.int .i64 x8)) := Fix.setBx NC.nb
                replace R1 := hid' (R1.out.fix EI_lasts (FC.trans' FS) (by decide) (fun _ h => h.elim))
                replace R2 := hid' (R2.out.fix EI_lasts (FC.trans' FS) (by decide) (fun _ h => h.elim))
                replace R3 := hid' (R3.out.fix EE_lasts (FC.trans' FS) (by decide) (fun t ht => by rw [ht]; decide))
                replace R4 := hid' (R4.out.fix EI_lasts (FC.trans' FS) (by decide) (fun _ h => h.elim))
                have e8 := hid' hrd
                clear hrd hrs hbut NC FC FS N7
                obtain ⟨V8, hV8⟩ : ∃ z, y8.setCell ⟨gN, 8, none⟩ (.int .i64 x8) = z := ⟨_, rfl⟩
                rw [hV8] at N8 R1 R2 R3 R4
                have q0 := N8.out.nb.cell 0
                have q1 := N8.out.nb.cell 1
                have q2 := N8.out.nb.cell 2
                have q3 := N8.out.nb.cell 3
                have q4 := N8.out.nb.cell 4
                have q5 := N8.out.nb.cell 5
                have q6 := N8.out.nb.cell 6
                have q7 := N8.out.nb.cell 7
                have q8 := N8.out.nb.cell 8
                have p0 := N8.out.ds.pb.cell 0
                simp only [List.getElem?_toArray, List.getElem?_cons_zero, List.getElem?_cons_succ] at q0 q1 q2 q3 q4 q5 q6 q7 q8 p0
                have BX8 : Below V8.heap.size V8 (V8.alloc (Obj.cells #[.int .i64 x0, .slice a1 x1.length c1, .slice a2 x2.length c2, .slice a3 ys.length c3, .slice a4 x4.length c4, .int .i64 x5, .int .i64 x6, .int .i64 x7, .int .i64 x8] 44)) := (Below.refl _ _).alloc (Nat.le_refl _) _
                have HBX := hid' BX8
                have hB2 := N8.out.base
                have FR : Fix (w.heap.size + 2) (fun _ => True) wR (V8.alloc (Obj.cells #[.int .i64 x0, .slice a1 x1.length c1, .slice a2 x2.length c2, .slice a3 ys.length c3, .slice a4 x4.length c4, .int .i64 x5, .int .i64 x6, .int .i64 x7, .int .i64 x8] 44)) := Fix.of_but (N8.out.but.trans (But.of_below BX8)) (by omega)
                obtain ⟨cs, hcs1, hcs2⟩ := HROW.out
                rw [HM.out] at hcs1
                have HO := hid' (own_fix hcs1 FR trivial)
                have HE : Hid (∀ i, i < xs.length → EN (w.heap.size + 2) (V8.alloc (Obj.cells #[.int .i64 x0, .slice a1 x1.length c1, .slice a2 x2.length c2, .slice a3 ys.length c3, .slice a4 x4.length c4, .int .i64 x5, .int .i64 x6, .int .i64 x7, .int .i64 x8] 44)) (xs.getD i n0) (cs i)) := fun i hi => EN_lasts _ _ _ _ _ _ (hcs2 i hi) FR (fun _ _ => trivial)
                have HOU := hid' (HOUT.out.fix EI_lasts FR trivial (fun _ _ => trivial))
                have HFP : Hid (∀ w9, (V8.alloc (Obj.cells #[.int .i64 x0, .slice a1 x1.length c1, .slice a2 x2.length c2, .slice a3 ys.length c3, .slice a4 x4.length c4, .int .i64 x5, .int .i64 x6, .int .i64 x7, .int .i64 x8] 44)).grownBy w9 (Value.slice a0 m cb).ownBlock → w9.frozen? ⟨gP, 0, none⟩ = false ∧ w9.cell? ⟨gP, 0, none⟩ = some (.slice a0 m cb)) := fun w9 hg => by
                  have h := ((N8.out.ds.keep BX8).grown HO.out (by decide) (Nat.le_refl _) hg).pb
                  exact ⟨h.frozen 0, h.cell 0⟩
                have HSZ : Hid (w.heap.size + 2 ≤ V8.heap.size) := N8.out.ds.size
                clear hcs1 hcs2 FR BX8
                go_wp2_with (first
                  | (at_builtin; refine wpList_append_own _ rfl (.tmp 86) (.tmp 88) 22 rfl (w.heap.size + 2) 44 iN (.agg #[.int .i64 0, .slice none 0 0, .slice none 0 0, .slice none 0 0, .slice none 0 0, .int .i64 0, .int .i64 0, .int .i64 0, .int .i64 0]) 9 136 Try.underlying22 hiN hz0 hz1 hz2 rfl (by decide) (.slice a0 m cb) m ((List.range m).flatMap cs) rfl HO.out ⟨V8.heap.size, 0, none⟩ 1 1 (#[.int .i64 x0, .slice a1 x1.length c1, .slice a2 x2.length c2, .slice a3 ys.length c3, .slice a4 x4.length c4, .int .i64 x5, .int .i64 x6, .int .i64 x7, .int .i64 x8] : Array Value).toList rfl rfl (new_cells V8 _ _) (by intro u hu; simp at hu; rcases hu with rfl | rfl | rfl | rfl | rfl | rfl | rfl | rfl | rfl <;> rfl) (by unfold maxLen; omega) (by omega) (Nat.le_trans HSZ.out (by simp)) ?_; intro v9 w9 hown9 hgrow9 hnil9; obtain ⟨g9, c9, hv9⟩ := row_some hown9; subst hv9; have hFP := HFP.out w9 hgrow9; have fp := hFP.1; have cp := hFP.2))
                have R : Hid (OLoop w gP ba cap l room outs n s2 k (.int .i64 (k : Int)) (w9.setCell ⟨gP, 0, none⟩ (.slice (some ⟨g9, 0, none⟩) (m + 1) c9))) := by
                  have h := OLoop.next (x := ⟨x0, x1, x2, ys, x4, x5, x6, x7, x8⟩) (xs := xs) (a := a0) (cb := cb) (cs := cs) (by rw [HM.out]; exact hk) (by rw [HM.out]; exact N8.out) HBX.out ⟨R1.out, R2.out, R3.out, R4.out⟩ (by rw [HM.out]; exact HO.out) HE.out HOU.out (by rw [HM.out]; exact hgrow9) (by rw [HM.out]; exact hown9) HRL.out (rd_node e0.out e1.out e2.out e3.out e4.out e5.out e6.out e7.out e8.out)
                  exact h
                clear hown9 hgrow9 hnil9 HE HOU HBX HFP hFP HO N8 R1 R2 R3 R4 e0 e1 e2 e3 e4 e5 e6 e7 e8
                have hk1 : ((k + 1 : Nat) : Int) - 1 = (k : Int) := by omega
                go_wp2
                go_roundg k
                case measure => omega
                case rel => first | exact R.out | (rw [hk1]; exact R.out) | (simp only [hk1]; exact R.out) | (have h := R.out; simpa using h)
              | succ k3 =>
                cases t5 with
                | none =>
                  have e3 := hid' (hrl3.done (.inl rfl))
                  have hpos3 : (0 : Int) < ((k3 + 1 : Nat) : Int) := by omega
                  have d3 : wr.cell? ⟨w.heap.size + 1, 2, none⟩ = some (.bool true) := by
                    obtain ⟨a, _, ⟨r, h, _⟩ | ⟨_, h⟩⟩ := hxs.ns.ds.rd
                    · cases h
                    · exact h.cell 2
                  have N3 := hid' hxs.ns
                  have R1 := hid' hxs.r1
                  have R2 := hid' hxs.r2
                  have R3 := hid' hxs.ex
                  clear hxs hrl3
                  go_wp2_with fail
                  refine (rnumbers_any wr (w.heap.size + 1) ba cap l _ 16 (by omega) N3.out.ds.rd (N3.out.ds.bts HB.out) hc hl).mono ?_
                  rintro e y4 ⟨v4, x4, t4, rfl, hrep, hrd, hrs, hbut⟩
                  obtain ⟨a4, c4, hv⟩ := hrep.form
                  subst hv
                  replace hrep := hrep.base EI_base N3.out.but.size
                  have NC := N3.out.call hbut hrs
                  have FC := N3.out.fixC hbut
                  have f4 := NC.nb.frozen 4
                  have c4' : y4.cell? ⟨gN, 4, none⟩ = some (.slice none 0 0) := NC.nb.cell 4
                  have N4 : Hid (NS w wR gP gN ba cap l #[.slice a0 m cb, .slice ao outs.length co, .int .i64 room] #[.int .i64 x0, .slice a1 x1.length c1, .slice a2 x2.length c2, .slice a3 ys.length c3, .slice a4 x4.length c4, .int .i64 0, .int .i64 0, .int .i64 0, .int .i64 0] t4 (y4.setCell ⟨gN, 4, none⟩ (.slice a4 x4.length c4))) := (NC.set (i := 4) (v := .slice a4 x4.length c4) : _)
                  have FS : Fix wR.heap.size (fun t => t ≠ 44) y4 (y4.setCell ⟨gN, 4, none⟩ (.slice a4 x4.length c4)) := Fix.setBx NC.nb
                  replace R1 := hid' (R1.out.fix EI_lasts (FC.trans' FS) (by decide) (fun _ h => h.elim))
                  replace R2 := hid' (R2.out.fix EI_lasts (FC.trans' FS) (by decide) (fun _ h => h.elim))
                  replace R3 := hid' (R3.out.fix EE_lasts (FC.trans' FS) (by decide) (fun t ht => by rw [ht]; decide))
                  have R4 := hid' (hrep.fix EI_lasts FS (by decide) (fun _ h => h.elim))
                  clear hrep
                  have e4 := hid' hrd
                  clear hrd hrs hbut NC FC FS N3
                  go_wp2_with fail
                  generalize y4.setCell ⟨gN, 4, none⟩ (.slice a4 x4.length c4) = V4 at *
                  clear f4 c4'
                  refine (rnumber_any V4 (w.heap.size + 1) ba cap l _ N4.out.ds.rd (N4.out.ds.bts HB.out) hc hl).mono ?_
                  rintro e y5 ⟨x5, t5, rfl, hrd, hrs, hbut⟩
                  have NC := N4.out.call hbut hrs
                  have FC := N4.out.fixC hbut
                  have f5 := NC.nb.frozen 5
                  have c5' : y5.cell? ⟨gN, 5, none⟩ = some (.int .i64 0) := NC.nb.cell 5
                  have N5 : Hid (NS w wR gP gN ba cap l #[.slice a0 m cb, .slice ao outs.length co, .int .i64 room] #[.int .i64 x0, .slice a1 x1.length c1, .slice a2 x2.length c2, .slice a3 ys.length c3, .slice a4 x4.length c4, .int .i64 x5, .int .i64 0, .int .i64 0, .int .i64 0] t5 (y5.setCell ⟨gN, 5, none⟩ (.int .i64 x5))) := (NC.set (i := 5) (v := .int .i64 x5) : _)
                  have FS : Fix wR.heap.size (fun t => t ≠ 44) y5 (y5.setCell ⟨gN, 5, none⟩ (.int .i64 x5)) := Fix.setBx NC.nb
                  replace R1 := hid' (R1.out.fix EI_lasts (FC.trans' FS) (by decide) (fun _ h => h.elim))
                  replace R2 := hid' (R2.out.fix EI_lasts (FC.trans' FS) (by decide) (fun _ h => h.elim))
                  replace R3 := hid' (R3.out.fix EE_lasts (FC.trans' FS) (by decide) (fun t ht => by rw [ht]; decide))
                  replace R4 := hid' (R4.out.fix EI_lasts (FC.trans' FS) (by decide) (fun _ h => h.elim))
                  have e5 := hid' hrd
                  clear hrd hrs hbut NC FC FS N4
                  go_wp2_with fail
                  generalize y5.setCell ⟨gN, 5, none⟩ (.int .i64 x5) = V5 at *
                  clear f5 c5'
                  refine (rnumber_any V5 (w.heap.size + 1) ba cap l _ N5.out.ds.rd (N5.out.ds.bts HB.out) hc hl).mono ?_
                  rintro e y6 ⟨x6, t6, rfl, hrd, hrs, hbut⟩
                  have NC := N5.out.call hbut hrs
                  have FC := N5.out.fixC hbut
                  have f6 := NC.nb.frozen 6
                  have c6' : y6.cell? ⟨gN, 6, none⟩ = some (.int .i64 0) := NC.nb.cell 6
                  have N6 : Hid (NS w wR gP gN ba cap l #[.slice a0 m cb, .slice ao outs.length co, .int .i64 room] #[.int .i64 x0, .slice a1 x1.length c1, .slice a2 x2.length c2, .slice a3 ys.length c3, .slice a4 x4.length c4, .int .i64 x5, .int .i64 x6, .int .i64 0, .int .i64 0] t6 (y6.setCell ⟨gN, 6, none⟩ (.int .i64 x6))) := (NC.set (i := 6) (v := .int .i64 x6) : _)
                  have FS : Fix wR.heap.size (fun t => t ≠ 44) y6 (y6.setCell ⟨gN, 6, none⟩ (.int .i64 x6)) := Fix.setBx NC.nb
                  replace R1 := hid' (R1.out.fix EI_lasts (FC.trans' FS) (by decide) (fun _ h => h.elim))
                  replace R2 := hid' (R2.out.fix EI_lasts (FC.trans' FS) (by decide) (fun _ h => h.elim))
                  replace R3 := hid' (R3.out.fix EE_lasts (FC.trans' FS) (by decide) (fun t ht => by rw [ht]; decide))
                  replace R4 := hid' (R4.out.fix EI_lasts (FC.trans' FS) (by decide) (fun _ h => h.elim))
                  have e6 := hid' hrd
                  clear hrd hrs hbut NC FC FS N5
                  go_wp2_with fail
                  generalize y6.setCell ⟨gN, 6, none⟩ (.int .i64 x6) = V6 at *
                  clear f6 c6'
                  refine (rnumber_any V6 (w.heap.size + 1) ba cap l _ N6.out.ds.rd (N6.out.ds.bts HB.out) hc hl).mono ?_
                  rintro e y7 ⟨x7, t7, rfl, hrd, hrs, hbut⟩
                  have NC := N6.out.call hbut hrs
                  have FC := N6.out.fixC hbut
                  have f7 := NC.nb.frozen 7
                  have c7' : y7.cell? ⟨gN, 7, none⟩ = some (.int .i64 0) := NC.nb.cell 7
                  have N7 : Hid (NS w wR gP gN ba cap l #[.slice a0 m cb, .slice ao outs.length co, .int .i64 room] #[.int .i64 x0, .slice a1 x1.length c1, .slice a2 x2.length c2, .slice a3 ys.length c3, .slice a4 x4.length c4, .int .i64 x5, .int .i64 x6, .int .i64 x7, .int .i64 0] t7 (y7.setCell ⟨gN, 7, none⟩ (.int .i64 x7))) := (NC.set (i := 7) (v := .int .i64 x7) : _)
                  have FS : Fix wR.heap.size (fun t => t ≠ 44) y7 (y7.setCell ⟨gN, 7, none⟩ (.int .i64 x7)) := Fix.setBx NC.nb
                  replace R1 := hid' (R1.out.fix EI_lasts (FC.trans' FS) (by decide) (fun _ h => h.elim))
                  replace R2 := hid' (R2.out.fix EI_lasts (FC.trans' FS) (by decide) (fun _ h => h.elim))
                  replace R3 := hid' (R3.out.fix EE_lasts (FC.trans' FS) (by decide) (fun t ht => by rw [ht]; decide))
                  replace R4 := hid' (R4.out.fix EI_lasts (FC.trans' FS) (by decide) (fun _ h => h.elim))
                  have e7 := hid' hrd
                  clear hrd hrs hbut NC FC FS N6
                  go_wp2_with fail
                  generalize y7.setCell ⟨gN, 7, none⟩ (.int .i64 x7) = V7 at *
                  clear f7 c7'
                  refine (rnumber_any V7 (w.heap.size + 1) ba cap l _ N7.out.ds.rd (N7.out.ds.bts HB.out) hc hl).mono ?_
                  rintro e y8 ⟨x8, t8, rfl, hrd, hrs, hbut⟩
                  have NC := N7.out.call hbut hrs
                  have FC := N7.out.fixC hbut
                  have f8 := NC.nb.frozen 8
                  have c8' : y8.cell? ⟨gN, 8, none⟩ = some (.int .i64 0) := NC.nb.cell 8
                  have N8 : Hid (NS w wR gP gN ba cap l #[.slice a0 m cb, .slice ao outs.length co, .int .i64 room] #[.int .i64 x0, .slice a1 x1.length c1, .slice a2 x2.length c2, .slice a3 ys.length c3, .slice a4 x4.length c4, .int .i64 x5, .int .i64 x6, .int .i64 x7, .int .i64 x8] t8 (y8.setCell ⟨gN, 8, none⟩ (.int .i64 x8))) := (NC.set (i := 8) (v := .int .i64 x8) : _)
                  have FS : Fix wR.heap.size (fun t => t ≠ 44) y8 (y8.setCell ⟨gN, 8, none⟩ (.int .i64 x8)) := Fix.setBx NC.nb
                  replace R1 := hid' (R1.out.fix EI_lasts (FC.trans' FS) (by decide) (fun _ h => h.elim))
                  replace R2 := hid' (R2.out.fix EI_lasts (FC.trans' FS) (by decide) (fun _ h => h.elim))
                  replace R3 := hid' (R3.out.fix EE_lasts (FC.trans' FS) (by decide) (fun t ht => by rw [ht]; decide))
                  replace R4 := hid' (R4.out.fix EI_lasts (FC.trans' FS) (by decide) (fun _ h => h.elim))
                  have e8 := hid' hrd
                  clear hrd hrs hbut NC FC FS N7
                  obtain ⟨V8, hV8⟩ : ∃ z, y8.setCell ⟨gN, 8, none⟩ (.int .i64 x8) = z := ⟨_, rfl⟩
                  rw [hV8] at N8 R1 R2 R3 R4
                  have q0 := N8.out.nb.cell 0
                  have q1 := N8.out.nb.cell 1
                  have q2 := N8.out.nb.cell 2
                  have q3 := N8.out.nb.cell 3
                  have q4 := N8.out.nb.cell 4
                  have q5 := N8.out.nb.cell 5
                  have q6 := N8.out.nb.cell 6
                  have q7 := N8.out.nb.cell 7
                  have q8 := N8.out.nb.cell 8
                  have p0 := N8.out.ds.pb.cell 0
                  simp only [List.getElem?_toArray, List.getElem?_cons_zero, List.getElem?_cons_succ] at q0 q1 q2 q3 q4 q5 q6 q7 q8 p0
                  have BX8 : Below V8.heap.size V8 (V8.alloc (Obj.cells #[.int .i64 x0, .slice a1 x1.length c1, .slice a2 x2.length c2, .slice a3 ys.length c3, .slice a4 x4.length c4, .int .i64 x5, .int .i64 x6, .int .i64 x7, .int .i64 x8] 44)) := (Below.refl _ _).alloc (Nat.le_refl _) _
                  have HBX := hid' BX8
                  have hB2 := N8.out.base
                  have FR : Fix (w.heap.size + 2) (fun _ => True) wR (V8.alloc (Obj.cells #[.int .i64 x0, .slice a1 x1.length c1, .slice a2 x2.length c2, .slice a3 ys.length c3, .slice a4 x4.length c4, .int .i64 x5, .int .i64 x6, .int .i64 x7, .int .i64 x8] 44)) := Fix.of_but (N8.out.but.trans (But.of_below BX8)) (by omega)
                  obtain ⟨cs, hcs1, hcs2⟩ := HROW.out
                  rw [HM.out] at hcs1
                  have HO := hid' (own_fix hcs1 FR trivial)
                  have HE : Hid (∀ i, i < xs.length → EN (w.heap.size + 2) (V8.alloc (Obj.cells #[.int .i64 x0, .slice a1 x1.length c1, .slice a2 x2.length c2, .slice a3 ys.length c3, .slice a4 x4.length c4, .int .i64 x5, .int .i64 x6, .int .i64 x7, .int .i64 x8] 44)) (xs.getD i n0) (cs i)) := fun i hi => EN_lasts _ _ _ _ _ _ (hcs2 i hi) FR (fun _ _ => trivial)
                  have HOU := hid' (HOUT.out.fix EI_lasts FR trivial (fun _ _ => trivial))
                  have HFP : Hid (∀ w9, (V8.alloc (Obj.cells #[.int .i64 x0, .slice a1 x1.length c1, .slice a2 x2.length c2, .slice a3 ys.length c3, .slice a4 x4.length c4, .int .i64 x5, .int .i64 x6, .int .i64 x7, .int .i64 x8] 44)).grownBy w9 (Value.slice a0 m cb).ownBlock → w9.frozen? ⟨gP, 0, none⟩ = false ∧ w9.cell? ⟨gP, 0, none⟩ = some (.slice a0 m cb)) := fun w9 hg => by
                    have h := ((N8.out.ds.keep BX8).grown HO.out (by decide) (Nat.le_refl _) hg).pb
                    exact ⟨h.frozen 0, h.cell 0⟩
                  have HSZ : Hid (w.heap.size + 2 ≤ V8.heap.size) := N8.out.ds.size
                  clear hcs1 hcs2 FR BX8
                  go_wp2_with (first
                    | (at_builtin; refine wpList_append_own _ rfl (.tmp 86) (.tmp 88) 22 rfl (w.heap.size + 2) 44 iN (.agg #[.int .i64 0, .slice none 0 0, .slice none 0 0, .slice none 0 0, .slice none 0 0, .int .i64 0, .int .i64 0, .int .i64 0, .int .i64 0]) 9 136 Try.underlying22 hiN hz0 hz1 hz2 rfl (by decide) (.slice a0 m cb) m ((List.range m).flatMap cs) rfl HO.out ⟨V8.heap.size, 0, none⟩ 1 1 (#[.int .i64 x0, .slice a1 x1.length c1, .slice a2 x2.length c2, .slice a3 ys.length c3, .slice a4 x4.length c4, .int .i64 x5, .int .i64 x6, .int .i64 x7, .int .i64 x8] : Array Value).toList rfl rfl (new_cells V8 _ _) (by intro u hu; simp at hu; rcases hu with rfl | rfl | rfl | rfl | rfl | rfl | rfl | rfl | rfl <;> rfl) (by unfold maxLen; omega) (by omega) (Nat.le_trans HSZ.out (by simp)) ?_; intro v9 w9 hown9 hgrow9 hnil9; obtain ⟨g9, c9, hv9⟩ := row_some hown9; subst hv9; have hFP := HFP.out w9 hgrow9; have fp := hFP.1; have cp := hFP.2))
                  have R : Hid (OLoop w gP ba cap l room outs n s2 k (.int .i64 (k : Int)) (w9.setCell ⟨gP, 0, none⟩ (.slice (some ⟨g9, 0, none⟩) (m + 1) c9))) := by
                    have h := OLoop.next (x := ⟨x0, x1, x2, ys, x4, x5, x6, x7, x8⟩) (xs := xs) (a := a0) (cb := cb) (cs := cs) (by rw [HM.out]; exact hk) (by rw [HM.out]; exact N8.out) HBX.out ⟨R1.out, R2.out, R3.out, R4.out⟩ (by rw [HM.out]; exact HO.out) HE.out HOU.out (by rw [HM.out]; exact hgrow9) (by rw [HM.out]; exact hown9) HRL.out (rd_node e0.out e1.out e2.out e3.out e4.out e5.out e6.out e7.out e8.out)
                    exact h
                  clear hown9 hgrow9 hnil9 HE HOU HBX HFP hFP HO N8 R1 R2 R3 R4 e0 e1 e2 e3 e4 e5 e6 e7 e8
                  have hk1 : ((k + 1 : Nat) : Int) - 1 = (k : Int) := by omega
                  go_wp2
                  go_roundg k
                  case measure => omega
                  case rel => first | exact R.out | (rw [hk1]; exact R.out) | (simp only [hk1]; exact R.out) | (have h := R.out; simpa using h)
                | some r5 =>
                  have hpos3 : (0 : Int) < ((k3 + 1 : Nat) : Int) := by omega
                  have d3 : wr.cell? ⟨w.heap.size + 1, 2, none⟩ = some (.bool false) := by
                    obtain ⟨a, _, ⟨r, _, _, h⟩ | ⟨h, _⟩⟩ := hxs.ns.ds.rd
                    · exact h.cell 2
                    · cases h
                  obtain ⟨iE, hiE, hy0, hy1, hy2⟩ := info_parts Try.info_expr
                  have HXS := hid' hxs
                  have HRL3 := hid' hrl3
                  clear hxs hrl3
                  go_wp2_with fail
                  generalize hA0 : Act.mk _ _ = A0
                  have eS : PB.slot A0 7 = .pointer (some ⟨gN, 0, none⟩) := by rw [← hA0]; rfl
                  have eF : PB.slot A0 4 = ptr (w.heap.size + 1) := by rw [← hA0]; rfl
                  have eN : A0.tmps.size = 106 := by rw [← hA0]; rfl
                  refine PB.wp_region_invT (I15 w wR gP gN ba cap l #[.slice a0 m cb, .slice ao outs.length co, .int .i64 room] (.int .i64 x0) (.slice a1 x1.length c1) (.slice a2 x2.length c2) x1 x2 (.slice a3 ys.length c3) ys (some r5) A0) mixed' (by kernel_rfl) (I15.start HXS.out) ?_ ?_
                  · refine ⟨?_, ?_, ?_, ?_, ?_, ?_, ?_, ?_, trivial⟩ <;> intro L A W hL hw hI
                    · exact PB.inv_value (PB.wanted_free rfl) (run_faNode3 W ((hI.oth 7 (by omega)).trans eS)) (hI.pure (by omega) (i := 0) (.inl ⟨rfl, rfl⟩))
                    · exact PB.inv_value (PB.wanted_free rfl) (run_ldE W (hI.p0 (hw 0 rfl)) (hI.box (by cases hh : L 5 with | false => rfl | true => (rw [hI.w5 hh] at hL; cases hL)))) (hI.pure (by omega) (i := 1) (.inr (.inl ⟨rfl, rfl⟩)))
                    · exact PB.inv_value (PB.wanted_free rfl) (run_moveD W ((hI.oth 4 (by omega)).trans eF)) (hI.pure (by omega) (i := 2) (.inr (.inr (.inl ⟨rfl, rfl⟩))))
                    · obtain ⟨hx, h4, h5, h7⟩ := hI.at3 hL
                      refine ⟨PB.wanted_free rfl, wp_callG #[ptr (w.heap.size + 1)] rfl Try.func34 rfl rfl (by show [PB.slot A 65] = _; rw [hI.p2 (hw 2 rfl)]) ((rsteps_any W (w.heap.size + 1) ba cap l _ hx.ns.ds.rd (hx.ns.ds.bts HB.out) hc hl).mono ?_)⟩
                      rintro e' w' ⟨v, z, s', rfl, hrep, hrd, hrs, hbut⟩
                      refine ⟨v, rfl, hI.step (by omega) (i := 3) (by omega) (by omega) ?_⟩
                      rw [PB.slot_put_same _ _ _ (by rw [hI.size]; omega), PB.slot_put_other _ _ _ _ (by omega), PB.slot_put_other _ _ _ _ (by omega), h4, h5, h7]
                      exact ⟨z, s', hrep.base ET_base hx.ns.but.size, hx.call hbut hrs, hrd⟩
                    · obtain ⟨⟨z, s', hz, hx, hr⟩, h5, h7⟩ := hI.at4 (hw 3 rfl) hL
                      obtain ⟨za, zc, hv⟩ := hz.form
                      have BA : Below W.heap.size W (W.alloc (.cells #[.slice za z.length zc] 46)) := (Below.refl _ _).alloc (Nat.le_refl _) _
                      refine PB.inv_value (PB.wanted_free rfl) (run_bsE W hv) (hI.step (by omega) (i := 4) (by omega) (by omega) ?_)
                      rw [PB.slot_put_other _ _ _ _ (by omega), PB.slot_put_same _ _ _ (by rw [hI.size]; omega), PB.slot_put_other _ _ _ _ (by omega), hw 3 rfl, h5, h7]
                      rw [hv] at hz
                      exact ⟨W.heap.size, _, z, s', rfl, Bx.new W _ _, hz.fix ET_lasts (Fix.of_but (ok := fun _ => True) (But.of_below (g := w.heap.size + 1) BA) (by have := hx.ns.base; omega)) trivial (fun _ _ => trivial), hx.keep BA, hr⟩
                    · obtain ⟨⟨g, v, z, s', hg, hbx, hz, hx, hr⟩, h3, h7⟩ := hI.at5 (hw 4 rfl) hL
                      obtain ⟨za, zc, hv⟩ := hz.form
                      subst hv
                      obtain ⟨cs, hcs1, hcs2⟩ := hx.ex
                      refine ⟨PB.wanted_free rfl, wp_append_own W (.tmp 64) (.tmp 67) 42 rfl wR.heap.size 46 iE (.slice none 0 0) 1 24 Try.underlying42 hiE hy0 hy1 hy2 rfl (by decide) (.slice a3 ys.length c3) ys.length ((List.range ys.length).flatMap cs) (hI.p1 (hw 1 rfl)) hcs1 ⟨g, 0, none⟩ 1 1 (#[.slice za z.length zc] : Array Value).toList hg rfl (fun j u h => by rw [addr_add, Nat.zero_add, hbx.cell j]; simpa using h) (by intro u hu; simp at hu; rcases hu with rfl; rfl) (by unfold maxLen; omega) (by omega) hx.ns.but.size ?_⟩
                      intro v' w' hown hgrow _
                      refine hI.step (by omega) (i := 5) (by omega) (fun _ => hw 1 rfl) ?_
                      rw [PB.slot_put_other _ _ _ _ (by omega), PB.slot_put_other _ _ _ _ (by omega), PB.slot_put_same _ _ _ (by rw [hI.size]; omega), h3, hw 4 rfl, h7]
                      exact ⟨z, s', hx.push hcs1 hcs2 ⟨_, rfl, hz⟩ hgrow hown, hr⟩
                    · exact PB.inv_value (PB.wanted_free rfl) (run_faNode3 W ((hI.oth 7 (by omega)).trans eS)) (hI.pure (by omega) (i := 6) (.inr (.inr (.inr ⟨rfl, rfl⟩))))
                    · obtain ⟨⟨z, s', hx, hr⟩, h3, h4⟩ := hI.at7 (hw 5 rfl) hL
                      obtain ⟨za, zc, hv⟩ := hx.ex.form
                      have hst := hI.store (hw 5 rfl) hL
                      rw [hv] at hst
                      exact PB.inv_skip (PB.wanted_free rfl) rfl (run_stE W (hI.p6 (hw 6 rfl)) hv (hx.ns.nb.cell 3) (hx.ns.nb.frozen 3)) hst
                  · intro L A W hall hI
                    obtain ⟨z, s', v, hx, hr⟩ := hI.done (hall 7 (by decide))
                    have hA := frame_puts hI.defers hI.size [63, 64, 65, 66, 67, 68, 69] (fun t ht => hI.oth t (by simp at ht; omega))
                    clear hI hall
                    rw [hA, ← hA0]
                    simp only [puts]
                    generalize PB.slot A 63 = f63
                    generalize PB.slot A 64 = f64
                    generalize PB.slot A 65 = f65
                    generalize PB.slot A 66 = f66
                    generalize PB.slot A 67 = f67
                    generalize PB.slot A 68 = f68
                    generalize PB.slot A 69 = f69
                    clear hA hA0 eS eF eN
                    simp only [Act.put, List.setIfInBounds_toArray, List.set_cons_succ, List.set_cons_zero]
                    have R : Hid (XLoop w wR gP gN ba cap l #[.slice a0 m cb, .slice ao outs.length co, .int .i64 room] (.int .i64 x0) (.slice a1 x1.length c1) (.slice a2 x2.length c2) x1 x2 n3 t2 k3 (.int .i64 (k3 : Int)) W) := XLoop.next hk3 hx HRL3.out hr
                    clear hx hr HXS HRL3
                    have hk1 : ((k3 + 1 : Nat) : Int) - 1 = (k3 : Int) := by omega
                    go_wp2
                    go_roundg k3
                    case measure => omega
                    case rel => first | exact R.out | (rw [hk1]; exact R.out) | (simp only [hk1]; exact R.out) | (have h := R.out; simpa using h)

    · have HF : Hid (DecAns l w (.returned (.tuple #[.agg #[.slice none 0 0, .slice none 0 0, .int .i64 0], .int .i64 6])) ((w.alloc (Obj.cells #[.slice none 0 0, .slice none 0 0, .int .i64 0] 25)).setRow w.heap.size #[.slice none 0 0, .slice none 0 0, .int .i64 0])) := .inr ⟨no_plan (fun h => h80 (by cases l with
        | nil => simp at h
        | cons x l => simpa using h)), rfl, below_setRow B0 (Nat.le_refl _) _⟩
      have BR : Hid (Bx ((w.alloc (Obj.cells #[.slice none 0 0, .slice none 0 0, .int .i64 0] 25)).setRow w.heap.size #[.slice none 0 0, .slice none 0 0, .int .i64 0]) w.heap.size #[.slice none 0 0, .slice none 0 0, .int .i64 0] 25) := BZ.out.set
      have q0 := BR.out.cell 0
      have q1 := BR.out.cell 1
      have q2 := BR.out.cell 2
      simp only [List.getElem?_toArray, List.getElem?_cons_zero, List.getElem?_cons_succ] at q0 q1 q2
      have eb : (l.getD 0 0 != 80) = true := by simpa using h80
      generalize l.getD 0 0 = z at *
      generalize l.length = n at *
      clear hb hcell hn B0 h80
      go_enter Try.func15, Try.ntmps15
      go_wp2_with (refine wpList_store_row rfl 25 (.tmp 2) (.tmp 18) rfl w.heap.size #[.slice none 0 0, .slice none 0 0, .int .i64 0] rfl rfl 25 _ BZ.out (by kernel_rfl) rfl hone ?_)
      (try simp only [Exit.inBlock, Exit.then])
      refine bodyPost_ret (v := .tuple #[.agg #[.slice none 0 0, .slice none 0 0, .int .i64 0], .int .i64 6]) ?_ rfl HF.out
      unfold results
      go_simp

end Go.Proofs.Ytjpjeledbjpaeaa
