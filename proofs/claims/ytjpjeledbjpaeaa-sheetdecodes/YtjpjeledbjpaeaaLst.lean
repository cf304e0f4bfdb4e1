/-
  What is proved here: the program's list: numbers, steps, expressions and nodes, as many as are told, are read into new memory.
-/
import Derived.Test.YtjpjeledbjpaeaaRow
import Derived.OwnWalk
import Derived.Laws.EntriesVeiled
namespace Go.Proofs.Ytjpjeledbjpaeaa
open Go.RowKit Go.Proofs
set_option maxRecDepth 20000
set_option linter.unusedVariables false
set_option linter.unusedSimpArgs false

theorem RdS.grown {ty : TypeId} {w w' : World} {g : Nat} {ba : Option Addr} {cap : Nat} {l : List Int} {s : Option (List Int)} {row : Option Nat} (h : RdS ty w g ba cap l s) (hg : w.grownBy w' row) (hr : some g ≠ row) : RdS ty w' g ba cap l s := by
  obtain ⟨a, h1, ⟨r, h2, h3, h4⟩ | ⟨h2, h4⟩⟩ := h
  · exact ⟨a, h1, .inl ⟨r, h2, h3, (hg.block g h4.lt hr).trans h4⟩⟩
  · exact ⟨a, h1, .inr ⟨h2, (hg.block g h4.lt hr).trans h4⟩⟩

theorem But.grown {g : Nat} {w0 w w' : World} {row : Option Nat} (h : But g w0 w) (hg : w.grownBy w' row) (hr : ∀ k, row = some k → w0.heap.size ≤ k) : But g w0 w' :=
  ⟨hg.os.trans h.os, hg.tape.trans h.tape, hg.output.trans h.output, Nat.le_trans h.size hg.size, fun k hk hkg => (hg.block k (Nat.lt_of_lt_of_le hk h.size) (fun e => by have := hr k e.symm; omega)).trans (h.block k hk hkg)⟩

/-- What a call answers that reads a list. -/
def LAns {α : Type} (Rep : Nat → World → Value → List α → Prop) (f : α → List Int) (D : α → Prop) (most : Nat) (ty : TypeId) (w : World) (g : Nat) (ba : Option Addr) (cap : Nat) (l : List Int) (s : Option (List Int)) (e : Ending) (w' : World) : Prop :=
  ∃ v xs s', e = .returned v ∧ Rep w.heap.size w' v xs ∧ Rd (listB f) (LD most D) s xs s' ∧ RdS ty w' g ba cap l s' ∧ But g w w'

/-- What holds in its loop. -/
def LLoop {α : Type} (e sz : Nat) (E : Nat → World → α → List Value → Prop) (d : α) (f : α → List Int) (D : α → Prop) (most n : Nat) (ty : TypeId) (w : World) (g : Nat) (ba : Option Addr) (cap : Nat) (l : List Int) (s : Option (List Int)) (k : Nat) (v : Value) (wr : World) : Prop :=
  ∃ xs s1 gb cb, v = .slice (some ⟨gb, 0, none⟩) xs.length cb ∧ xs.length + k = n ∧ Row e sz E d w.heap.size wr v xs ∧ RdL f D most n s xs s1 ∧ RdS ty wr g ba cap l s1 ∧ But g w wr

theorem row_some {base e sz n : Nat} {w : World} {v : Value} {xs : List Value} (h : w.ownsRow base e sz v (n + 1) xs) : ∃ g c, v = .slice (some ⟨g, 0, none⟩) (n + 1) c := by
  rcases h.2 with ⟨_, h⟩ | ⟨g, cap, cur, hv, _⟩
  · omega
  · exact ⟨g, cap, hv⟩

theorem new_cells (w : World) (cs : Array Value) (t : TypeId) : ∀ j u, cs.toList[j]? = some u → (w.alloc (.cells cs t)).cell? ((⟨w.heap.size, 0, none⟩ : Addr).add j) = some u := by
  intro j u h
  rw [addr_add, Nat.zero_add, (Bx.new w cs t).cell j]
  simpa using h

/-- A thing more in the loop. -/
theorem LLoop.step {α : Type} {e sz : Nat} {E : Nat → World → α → List Value → Prop} {d : α} {need : TypeId → Prop} (hE : ELasts E need) (hne : ∀ t, need t → t ≠ e) {f : α → List Int} {D : α → Prop} (hf : PF f D) {most n : Nat} {ty : TypeId} {w : World} {g : Nat} {ba : Option Addr} {cap : Nat} {l : List Int} {s s1 s2 : Option (List Int)} {k : Nat} {v v' : Value} {w3 w4 : World} {xs : List α} {x : α} {c : List Value} {cs : Nat → List Value}
    (hk : xs.length + (k + 1) = n) (hg : g < w.heap.size) (h1 : w3.ownsRow w.heap.size e sz v xs.length ((List.range xs.length).flatMap cs)) (h2 : ∀ i, i < xs.length → E w.heap.size w3 (xs.getD i d) (cs i)) (hx : E w.heap.size w3 x c) (hgr : w3.grownBy w4 v.ownBlock) (ho : w4.ownsRow w.heap.size e sz v' (xs.length + 1) ((List.range xs.length).flatMap cs ++ c))
    (hrl : RdL f D most n s xs s1) (hrd : Rd f D s1 x s2) (hrs : RdS ty w3 g ba cap l s2) (hb : But g w w3) : LLoop e sz E d f D most n ty w g ba cap l s k v' w4 := by
  obtain ⟨gb, cb, rfl⟩ := row_some ho
  have hrow : ∀ j, v.ownBlock = some j → w.heap.size ≤ j := fun j hj => (h1.lt j hj).1
  refine ⟨xs ++ [x], s2, gb, cb, by rw [List.length_append, List.length_singleton], by rw [List.length_append, List.length_singleton]; omega, Row.push hE hne h1 h2 hx hgr ho, hrl.push hf (by omega) hrd, hrs.grown hgr (fun e => ?_), hb.grown hgr hrow⟩
  have := hrow g e.symm
  omega

theorem Bx.setOther {w : World} {b b' i : Nat} {cs : Array Value} {t : TypeId} {v : Value} (h : Bx w b cs t) (hne : b ≠ b') : Bx (w.setCell ⟨b', i, none⟩ v) b cs t := by
  unfold Bx at *
  rw [Below.heap_setCell _ _ _ _ hne]
  exact h

theorem RdS.set {ty : TypeId} {w : World} {g b i : Nat} {v : Value} {ba : Option Addr} {cap : Nat} {l : List Int} {s : Option (List Int)} (h : RdS ty w g ba cap l s) (hne : g ≠ b) : RdS ty (w.setCell ⟨b, i, none⟩ v) g ba cap l s := by
  obtain ⟨a, h1, ⟨r, h2, h3, h4⟩ | ⟨h2, h4⟩⟩ := h
  · exact ⟨a, h1, .inl ⟨r, h2, h3, h4.setOther hne⟩⟩
  · exact ⟨a, h1, .inr ⟨h2, h4.setOther hne⟩⟩

theorem But.setNew {g b i : Nat} {w0 w : World} {v : Value} (h : But g w0 w) (hb : w0.heap.size ≤ b) : But g w0 (w.setCell ⟨b, i, none⟩ v) :=
  have k := But.setCell b i w v
  ⟨k.os.trans h.os, k.tape.trans h.tape, k.output.trans h.output, Nat.le_trans h.size k.size, fun j hj hg => (k.block j (Nat.lt_of_lt_of_le hj h.size) (by omega)).trans (h.block j hj hg)⟩

theorem Fix.set {base b i : Nat} {w : World} {v : Value} (hb : b < base) : Fix base (fun _ => True) w (w.setCell ⟨b, i, none⟩ v) :=
  have k := But.setCell b i w v
  ⟨k.size, fun j c t z hj hc _ => k.block j (Array.getElem?_eq_some_iff.1 hc).1 (by omega)⟩

theorem Fix.trans {base : Nat} {a b c : World} (h : Fix base (fun _ => True) a b) (k : Fix base (fun _ => True) b c) : Fix base (fun _ => True) a c :=
  ⟨Nat.le_trans h.size k.size, fun j x t z hj hc ht => by
    have e := h.block j x t z hj hc trivial
    rw [k.block j x t z hj (by rw [e]; exact hc) trivial, e]⟩

theorem Fix.refl (base : Nat) (w : World) : Fix base (fun _ => True) w w := ⟨Nat.le_refl _, fun _ _ _ _ _ _ _ => rfl⟩

theorem run_mkf (fn : Fn) (first cap : Array Value) (w : World) : (Instr.makeFunc fn first cap).run Try.prog w = .ok (.func fn first cap) w := rfl

theorem Try.info_int : (Try.prog.info? 3).map (fun i => (i.zero, i.size, i.bytes)) = some (some (.int .i64 0), 1, 8) := by kernel_rfl

set_option maxHeartbeats 4000000 in
theorem listInts_any (w : World) (g : Nat) (ba : Option Addr) (cap : Nat) (l : List Int) (s : Option (List Int)) (most : Nat) (hm : most ≤ 64) (hr : RdS 55 w g ba cap l s) (hb : Bts g w ba l) (hc : l.length ≤ cap) (hl : l.length ≤ 1000000000) :
    Calls Try.prog 69 #[.pointer (some ⟨g, 0, none⟩), .int .i64 (most : Int), .func (.func 48) #[.pointer (some ⟨g, 0, none⟩)] #[]] w (LAns RInts oneB R64 most 55 w g ba cap l s) := by
  obtain ⟨iE, hiE, hz0, hz1, hz2⟩ := info_parts Try.info_int
  have hgl := hr.lt
  have H := hid' (count_any w g ba cap l s most hm hr hb hc hl)
  have HB := hid' hb
  have HRB := True.intro
  clear hb hr
  go_enter Try.func69, Try.ntmps69
  go_wp2_with fail
  refine H.out.mono ?_
  rintro e w1 ⟨n, s1, rfl, hn, hrd, hrs, hbut⟩
  have hs1 := hbut.size
  go_wp2_with (refine wpList_make_own _ rfl _ _ 23 rfl w.heap.size 3 iE (.int .i64 0) 1 Try.underlying23 hiE hz0 hz1 .i64 .i64 _ n rfl rfl rfl (by rw [hz2]; omega) (by unfold maxLen; omega) hs1 ?_; intro w2 hmade hgrow)
  have I0 : Hid (LLoop 3 1 EI 0 oneB R64 most n 55 w g ba cap l s n (.slice (some ⟨w1.heap.size, 0, none⟩) 0 n) w2) := ⟨[], s1, w1.heap.size, n, rfl, by simp, Row.nil hmade, RdL.start hrd, hrs.grown hgrow (by simp), hbut.grown hgrow (by simp)⟩
  clear hmade hgrow hrd hrs hbut H hs1
  go_loopg [8] n (fun k v wr => LLoop 3 1 EI 0 oneB R64 most n 55 w g ba cap l s k v wr)
  case atStart => exact I0.out
  case round =>
    clear I0
    obtain ⟨xs, s2, gb, cb, rfl, hk, hrow, hrl, hrs, hbut⟩ := hrel
    have hsz := hbut.size
    obtain ⟨m, hm2⟩ : ∃ m, xs.length = m := ⟨_, rfl⟩
    have HM := hid' hm2
    cases gk with
    | zero =>
      have HF : Hid (LAns RInts oneB R64 most 55 w g ba cap l s (.returned (.slice (some ⟨gb, 0, none⟩) xs.length cb)) wr) := ⟨_, xs, s2, rfl, hrow, hrl.done (.inr (by omega)), hrs, hbut⟩
      have hmn : m = n := by omega
      rw [hm2] at HF ⊢
      clear hrow hrl hrs hbut hk hm2
      subst hmn
      go_wp2
      go_ret
      exact HF.out
    | succ k =>
      have hmn : m < n := by omega
      cases s2 with
      | none =>
        have HF : Hid (LAns RInts oneB R64 most 55 w g ba cap l s (.returned (.slice (some ⟨gb, 0, none⟩) xs.length cb)) wr) := ⟨_, xs, none, rfl, hrow, hrl.done (.inl rfl), hrs, hbut⟩
        have c2 : wr.cell? ⟨g, 2, none⟩ = some (.bool true) := by
          obtain ⟨a, _, ⟨r, h, _⟩ | ⟨_, h⟩⟩ := hrs
          · cases h
          · exact h.cell 2
        rw [hm2] at HF ⊢
        clear hrow hrl hrs hbut hk hm2
        go_wp2
        go_ret
        exact HF.out
      | some r2 =>
        have c2 : wr.cell? ⟨g, 2, none⟩ = some (.bool false) := by
          obtain ⟨a, _, ⟨r, _, _, h⟩ | ⟨h, _⟩⟩ := hrs
          · exact h.cell 2
          · cases h
        have H1 := hid' (number_any wr g ba cap l (some r2) hrs (HB.out.keep (hbut.below (by omega))) hc hl)
        have HROW := hid' hrow
        have HRL := hid' hrl
        have HBT := hid' hbut
        have HK := hid' hk
        rw [hm2]
        clear hrow hrl hrs hbut hk hm2
        go_wp2_with fail
        refine H1.out.mono ?_
        rintro e w3 ⟨x, s3, rfl, hrd3, hrs3, hbut3⟩
        have BA := (Below.refl _ w3).alloc (Nat.le_refl _) (Obj.cells #[.int .i64 x] 3)
        obtain ⟨cs, hcs1, hcs2⟩ := HROW.out
        rw [HM.out] at hcs1
        have F3 : Fix w.heap.size (fun _ => True) wr (w3.alloc (Obj.cells #[.int .i64 x] 3)) := Fix.of_but (hbut3.trans (But.of_below BA)) hgl
        have HO := hid' (own_fix hcs1 F3 trivial)
        have HE : Hid (∀ i, i < xs.length → EI w.heap.size (w3.alloc (Obj.cells #[.int .i64 x] 3)) (xs.getD i 0) (cs i)) := fun i hi => EI_lasts _ _ _ _ _ _ (hcs2 i hi) F3 (fun _ _ => trivial)
        have HX : Hid (EI w.heap.size (w3.alloc (Obj.cells #[.int .i64 x] 3)) x (#[.int .i64 x]).toList) := rfl
        have HRS := hid' (hrs3.keep BA)
        have HBW := hid' ((HBT.out.trans hbut3).trans (But.of_below BA))
        have HRD := hid' hrd3
        have hs3 : w.heap.size ≤ w3.heap.size := (HBT.out.trans hbut3).size
        clear hrs3 hbut3 hrd3 F3 BA hcs1 hcs2 H1 HROW
        go_wp2_with (first
          | (at_builtin; refine wpList_append_own _ rfl (.tmp 25) (.tmp 28) 23 rfl w.heap.size 3 iE (.int .i64 0) 1 8 Try.underlying23 hiE hz0 hz1 hz2 rfl (by decide) (.slice (some ⟨gb, 0, none⟩) m cb) m ((List.range m).flatMap cs) rfl HO.out ⟨w3.heap.size, 0, none⟩ 1 1 (#[.int .i64 x]).toList rfl rfl (new_cells w3 _ _) (by intro u hu; simp at hu; rcases hu with rfl <;> rfl) (by unfold maxLen; omega) (by omega) (by simp; omega) ?_; intro v4 w4 hown4 hgrow4 hnil4))
        have R : Hid (LLoop 3 1 EI 0 oneB R64 most n 55 w g ba cap l s k v4 w4) := LLoop.step EI_lasts (fun _ h => h.elim) pf_one HK.out hgl (by rw [HM.out]; exact HO.out) HE.out HX.out hgrow4 (by rw [HM.out]; exact hown4) HRL.out HRD.out HRS.out HBW.out
        clear hown4 hgrow4 hnil4 HE HX HRS HBW HRD HO
        obtain ⟨gb4, cb4, n4, hv4⟩ : ∃ gb4 cb4 n4, v4 = .slice (some ⟨gb4, 0, none⟩) n4 cb4 := by obtain ⟨_, _, a, b, h, _⟩ := R.out; exact ⟨a, b, _, h⟩
        subst hv4
        go_wp2
        go_roundg k
        case measure => omega
        case rel => exact R.out

set_option maxHeartbeats 2000000 in
theorem numbers_any (w : World) (g : Nat) (ba : Option Addr) (cap : Nat) (l : List Int) (s : Option (List Int)) (most : Nat) (hm : most ≤ 64) (hr : RdS 55 w g ba cap l s) (hb : Bts g w ba l) (hc : l.length ≤ cap) (hl : l.length ≤ 1000000000) :
    Calls Try.prog 49 #[.pointer (some ⟨g, 0, none⟩), .int .i64 (most : Int)] w (LAns RInts oneB R64 most 55 w g ba cap l s) := by
  have H := hid' (listInts_any w g ba cap l s most hm hr hb hc hl)
  have HQ : Hid (∀ e w', LAns RInts oneB R64 most 55 w g ba cap l s e w' → ∃ v, e = .returned v ∧ LAns RInts oneB R64 most 55 w g ba cap l s (.returned v) w') := fun e w' h => by
    obtain ⟨v, xs, s', rfl, h⟩ := h
    exact ⟨v, rfl, v, xs, s', rfl, h⟩
  have hmf := run_mkf
  clear hr hb hc hl
  go_enter Try.func49, Try.ntmps49
  go_wp2_with fail
  refine H.out.mono ?_
  intro e w1 h
  obtain ⟨v, rfl, h⟩ := HQ.out _ _ h
  have HF := hid' h
  clear h
  go_wp2
  go_ret
  exact HF.out

theorem RdS.row {ty : TypeId} {w : World} {g b : Nat} {cs : Array Value} {ba : Option Addr} {cap : Nat} {l : List Int} {s : Option (List Int)} (h : RdS ty w g ba cap l s) (hne : g ≠ b) : RdS ty (w.setRow b cs) g ba cap l s := by
  obtain ⟨a, h1, ⟨r, h2, h3, h4⟩ | ⟨h2, h4⟩⟩ := h
  · exact ⟨a, h1, .inl ⟨r, h2, h3, h4.other hne⟩⟩
  · exact ⟨a, h1, .inr ⟨h2, h4.other hne⟩⟩

theorem But.rowNew {g b : Nat} {w0 w : World} {cs : Array Value} (h : But g w0 w) (hb : w0.heap.size ≤ b) : But g w0 (w.setRow b cs) :=
  ⟨h.os, h.tape, h.output, by rw [setRow_size]; exact h.size, fun j hj hg => (setRow_other _ _ _ _ (by omega)).trans (h.block j hj hg)⟩

theorem Fix.row {base b : Nat} {w : World} {cs : Array Value} (hb : b < base) : Fix base (fun _ => True) w (w.setRow b cs) :=
  ⟨by rw [setRow_size]; exact Nat.le_refl _, fun j c t z hj hc _ => setRow_other _ _ _ _ (by omega)⟩

theorem rd_pair {α β : Type} {f : α → List Int} {g : β → List Int} {D : α → Prop} {E : β → Prop} (hf : PF f D) {s s1 s2 : Option (List Int)} {x : α} {y : β} (h1 : Rd f D s x s1) (h2 : Rd g E s1 y s2) : Rd (fun p : α × β => f p.1 ++ g p.2) (fun p => D p.1 ∧ E p.2) s (x, y) s2 :=
  Rd.seq hf Prod.fst Prod.snd (fun _ h => h.1) (fun _ h => h.2) (fun _ => rfl) rfl rfl (fun a b => ⟨a, b⟩) h1 h2

theorem rd_step {s s0 s1 s2 : Option (List Int)} {x0 x1 : Int} {x2 : ByteArray} (h0 : Rd oneB R64 s x0 s0) (h1 : Rd oneB R64 s0 x1 s1) (h2 : Rd strB SD s1 x2 s2) : Rd stepB TOK s (x0, x1, x2) s2 :=
  Rd.seq pf_one (fun t : V => t.1) (fun t => t.2) (fun _ h => h.op) (fun _ h => ⟨h.int, h.str⟩) (fun _ => rfl) rfl rfl (fun a b => ⟨a, b.1, b.2⟩) h0 (rd_pair pf_one h1 h2)

theorem rd_node {s s0 s1 s2 s3 s4 s5 s6 s7 s8 : Option (List Int)} {x0 x5 x6 x7 x8 : Int} {x1 x2 x4 : List Int} {x3 : List (List V)} (h0 : Rd oneB R64 s x0 s0) (h1 : Rd (listB oneB) (LD 8 R64) s0 x1 s1) (h2 : Rd (listB oneB) (LD 16 R64) s1 x2 s2) (h3 : Rd (listB stepsB) (LD 16 (LD 64 TOK)) s2 x3 s3) (h4 : Rd (listB oneB) (LD 16 R64) s3 x4 s4)
    (h5 : Rd oneB R64 s4 x5 s5) (h6 : Rd oneB R64 s5 x6 s6) (h7 : Rd oneB R64 s6 x7 s7) (h8 : Rd oneB R64 s7 x8 s8) : Rd nodeB NdOK s ⟨x0, x1, x2, x3, x4, x5, x6, x7, x8⟩ s8 :=
  Rd.seq pf_one (fun x : Nd => x.kind) (fun x => (x.ins, x.kinds, x.exprs, x.cols, x.key, x.n, x.size, x.slide)) (fun _ h => h.kind) (fun _ h => ⟨⟨h.n1, h.ins⟩, ⟨h.n2, h.kinds⟩, ⟨h.n3, h.exprs⟩, ⟨h.n4, h.cols⟩, h.key, h.n, h.size, h.slide⟩) (fun _ => rfl) rfl rfl
    (fun a b => ⟨a, b.1.2, b.2.1.2, b.2.2.1.2, b.2.2.2.1.2, b.2.2.2.2.1, b.2.2.2.2.2.1, b.2.2.2.2.2.2.1, b.2.2.2.2.2.2.2, b.1.1, b.2.1.1, b.2.2.1.1, b.2.2.2.1.1⟩) h0
    (rd_pair (pf_nums 8) h1 (rd_pair (pf_nums 16) h2 (rd_pair pf_exprs h3 (rd_pair (pf_nums 16) h4 (rd_pair pf_one h5 (rd_pair pf_one h6 (rd_pair pf_one h7 h8)))))))

set_option maxHeartbeats 8000000 in
theorem exprs11_any (w : World) (g : Nat) (ba : Option Addr) (cap : Nat) (l : List Int) (s : Option (List Int)) (rb : Nat) (hrb : Bx w rb #[.pointer (some ⟨g, 0, none⟩)] 53) (hrg : rb ≠ g) (hr : RdS 55 w g ba cap l s) (hb : Bts g w ba l) (hc : l.length ≤ cap) (hl : l.length ≤ 1000000000) :
    Calls Try.prog 74 #[.pointer (some ⟨rb, 0, none⟩)] w (RdAns 55 stepB TOK (fun t => .agg #[.int .i64 t.1, .int .i64 t.2.1, .string t.2.2]) w g ba cap l s) := by
  have hgl := hr.lt
  have hrl := hrb.lt
  have B0 : Below w.heap.size w ((w.alloc (Obj.cells #[.int .i64 0, .int .i64 0, .string ⟨#[]⟩] 64)).alloc (Obj.cells #[.int .i64 0, .int .i64 0, .string ⟨#[]⟩] 64)) := ((Below.refl _ w).alloc (Nat.le_refl _) _).alloc (by simp) _
  have RB := hid' (hrb.keep B0)
  have RS := hid' (hr.keep B0)
  have BU := hid' (But.of_below (g := g) B0)
  have BT := hid' (hb.keep (B0.mono (Nat.le_of_lt hgl)))
  have BA := hid' ((Bx.new w #[.int .i64 0, .int .i64 0, .string ⟨#[]⟩] 64).keep ((Below.refl _ _).alloc (Nat.le_refl _) (Obj.cells #[.int .i64 0, .int .i64 0, .string ⟨#[]⟩] 64)))
  have BB := hid' (Bx.new (w.alloc (Obj.cells #[.int .i64 0, .int .i64 0, .string ⟨#[]⟩] 64)) #[.int .i64 0, .int .i64 0, .string ⟨#[]⟩] 64)
  have FF := hid' (Fix.refl (w.heap.size + 2) ((w.alloc (Obj.cells #[.int .i64 0, .int .i64 0, .string ⟨#[]⟩] 64)).alloc (Obj.cells #[.int .i64 0, .int .i64 0, .string ⟨#[]⟩] 64)))
  have SZ : Hid (w.heap.size + 2 ≤ ((w.alloc (Obj.cells #[.int .i64 0, .int .i64 0, .string ⟨#[]⟩] 64)).alloc (Obj.cells #[.int .i64 0, .int .i64 0, .string ⟨#[]⟩] 64)).heap.size) := (by simp : _ ≤ _)
  rw [sz1] at BB
  have c0 : ((w.alloc (Obj.cells #[.int .i64 0, .int .i64 0, .string ⟨#[]⟩] 64)).alloc (Obj.cells #[.int .i64 0, .int .i64 0, .string ⟨#[]⟩] 64)).cell? ⟨rb, 0, none⟩ = some (.pointer (some ⟨g, 0, none⟩)) := RB.out.cell 0
  clear hrb hr hb B0
  have hmf := run_mkf
  go_enter Try.func74, Try.ntmps74
  go_wp2_with fail
  refine (number_any ((w.alloc (Obj.cells #[.int .i64 0, .int .i64 0, .string ⟨#[]⟩] 64)).alloc (Obj.cells #[.int .i64 0, .int .i64 0, .string ⟨#[]⟩] 64)) g ba cap l _ RS.out BT.out hc hl).mono ?_
  rintro e w0 ⟨x0, s0, rfl, hrd0, hrs, hbu⟩
  have hd0 := hid' hrd0
  clear hrd0
  have FX : Fix (w.heap.size + 2) (fun _ => True) ((w.alloc (Obj.cells #[.int .i64 0, .int .i64 0, .string ⟨#[]⟩] 64)).alloc (Obj.cells #[.int .i64 0, .int .i64 0, .string ⟨#[]⟩] 64)) w0 := Fix.of_but hbu (by omega)
  replace RB := hid' (RB.out.but hbu hrg)
  replace BA := hid' (BA.out.but hbu (by omega))
  replace BB := hid' (BB.out.but hbu (by omega))
  have f0 := BB.out.frozen 0
  have d0 : w0.cell? ⟨w.heap.size + 1, 0, none⟩ = some (.int .i64 0) := BB.out.cell 0
  replace RB := hid' (RB.out.setOther (b' := w.heap.size + 1) (i := 0) (v := .int .i64 x0) (by omega))
  replace BA := hid' (BA.out.setOther (b' := w.heap.size + 1) (i := 0) (v := .int .i64 x0) (by omega))
  replace BB : Hid (Bx (w0.setCell ⟨w.heap.size + 1, 0, none⟩ (.int .i64 x0)) (w.heap.size + 1) #[.int .i64 x0, .int .i64 0, .string ⟨#[]⟩] 64) := (BB.out.setCell (i := 0) (v := .int .i64 x0) : _)
  replace RS := hid' (hrs.set (b := w.heap.size + 1) (i := 0) (v := .int .i64 x0) (by omega))
  replace BT := hid' ((BT.out.keep (hbu.below (by have := SZ.out; omega))).keep ((Below.refl g w0).setCell (p := ⟨w.heap.size + 1, 0, none⟩) (by show g ≤ w.heap.size + 1; omega) (.int .i64 x0)))
  replace SZ : Hid (w.heap.size + 2 ≤ (w0.setCell ⟨w.heap.size + 1, 0, none⟩ (.int .i64 x0)).heap.size) := (Nat.le_trans SZ.out (Nat.le_trans hbu.size (But.setCell (w.heap.size + 1) 0 w0 (.int .i64 x0)).size) : _ ≤ _)
  replace BU := hid' ((BU.out.trans hbu).setNew (b := w.heap.size + 1) (i := 0) (v := .int .i64 x0) (by omega))
  have FY := FX.trans (Fix.set (b := w.heap.size + 1) (i := 0) (v := .int .i64 x0) (by omega))
  clear hrs hbu FX FY c0
  have c1 : (w0.setCell ⟨w.heap.size + 1, 0, none⟩ (.int .i64 x0)).cell? ⟨rb, 0, none⟩ = some (.pointer (some ⟨g, 0, none⟩)) := RB.out.cell 0
  go_wp2_with fail
  refine (number_any (w0.setCell ⟨w.heap.size + 1, 0, none⟩ (.int .i64 x0)) g ba cap l _ RS.out BT.out hc hl).mono ?_
  rintro e w1 ⟨x1, s1, rfl, hrd1, hrs, hbu⟩
  have hd1 := hid' hrd1
  clear hrd1
  have FX : Fix (w.heap.size + 2) (fun _ => True) (w0.setCell ⟨w.heap.size + 1, 0, none⟩ (.int .i64 x0)) w1 := Fix.of_but hbu (by omega)
  replace RB := hid' (RB.out.but hbu hrg)
  replace BA := hid' (BA.out.but hbu (by omega))
  replace BB := hid' (BB.out.but hbu (by omega))
  have f1 := BB.out.frozen 1
  have d1 : w1.cell? ⟨w.heap.size + 1, 1, none⟩ = some (.int .i64 0) := BB.out.cell 1
  replace RB := hid' (RB.out.setOther (b' := w.heap.size + 1) (i := 1) (v := .int .i64 x1) (by omega))
  replace BA := hid' (BA.out.setOther (b' := w.heap.size + 1) (i := 1) (v := .int .i64 x1) (by omega))
  replace BB : Hid (Bx (w1.setCell ⟨w.heap.size + 1, 1, none⟩ (.int .i64 x1)) (w.heap.size + 1) #[.int .i64 x0, .int .i64 x1, .string ⟨#[]⟩] 64) := (BB.out.setCell (i := 1) (v := .int .i64 x1) : _)
  replace RS := hid' (hrs.set (b := w.heap.size + 1) (i := 1) (v := .int .i64 x1) (by omega))
  replace BT := hid' ((BT.out.keep (hbu.below (by have := SZ.out; omega))).keep ((Below.refl g w1).setCell (p := ⟨w.heap.size + 1, 1, none⟩) (by show g ≤ w.heap.size + 1; omega) (.int .i64 x1)))
  replace SZ : Hid (w.heap.size + 2 ≤ (w1.setCell ⟨w.heap.size + 1, 1, none⟩ (.int .i64 x1)).heap.size) := (Nat.le_trans SZ.out (Nat.le_trans hbu.size (But.setCell (w.heap.size + 1) 1 w1 (.int .i64 x1)).size) : _ ≤ _)
  replace BU := hid' ((BU.out.trans hbu).setNew (b := w.heap.size + 1) (i := 1) (v := .int .i64 x1) (by omega))
  have FY := FX.trans (Fix.set (b := w.heap.size + 1) (i := 1) (v := .int .i64 x1) (by omega))
  clear hrs hbu FX FY c1 f0 d0
  have c2 : (w1.setCell ⟨w.heap.size + 1, 1, none⟩ (.int .i64 x1)).cell? ⟨rb, 0, none⟩ = some (.pointer (some ⟨g, 0, none⟩)) := RB.out.cell 0
  go_wp2_with fail
  refine (text_any (w1.setCell ⟨w.heap.size + 1, 1, none⟩ (.int .i64 x1)) g ba cap l _ RS.out BT.out hc hl).mono ?_
  rintro e w2 ⟨x2, s2, rfl, hrd2, hrs, hbu⟩
  have hd2 := hid' hrd2
  clear hrd2
  have FX : Fix (w.heap.size + 2) (fun _ => True) (w1.setCell ⟨w.heap.size + 1, 1, none⟩ (.int .i64 x1)) w2 := Fix.of_but hbu (by omega)
  replace RB := hid' (RB.out.but hbu hrg)
  replace BA := hid' (BA.out.but hbu (by omega))
  replace BB := hid' (BB.out.but hbu (by omega))
  have f2 := BB.out.frozen 2
  have d2 : w2.cell? ⟨w.heap.size + 1, 2, none⟩ = some (.string ⟨#[]⟩) := BB.out.cell 2
  replace RB := hid' (RB.out.setOther (b' := w.heap.size + 1) (i := 2) (v := .string x2) (by omega))
  replace BA := hid' (BA.out.setOther (b' := w.heap.size + 1) (i := 2) (v := .string x2) (by omega))
  replace BB : Hid (Bx (w2.setCell ⟨w.heap.size + 1, 2, none⟩ (.string x2)) (w.heap.size + 1) #[.int .i64 x0, .int .i64 x1, .string x2] 64) := (BB.out.setCell (i := 2) (v := .string x2) : _)
  replace RS := hid' (hrs.set (b := w.heap.size + 1) (i := 2) (v := .string x2) (by omega))
  replace BT := hid' ((BT.out.keep (hbu.below (by have := SZ.out; omega))).keep ((Below.refl g w2).setCell (p := ⟨w.heap.size + 1, 2, none⟩) (by show g ≤ w.heap.size + 1; omega) (.string x2)))
  replace SZ : Hid (w.heap.size + 2 ≤ (w2.setCell ⟨w.heap.size + 1, 2, none⟩ (.string x2)).heap.size) := (Nat.le_trans SZ.out (Nat.le_trans hbu.size (But.setCell (w.heap.size + 1) 2 w2 (.string x2)).size) : _ ≤ _)
  replace BU := hid' ((BU.out.trans hbu).setNew (b := w.heap.size + 1) (i := 2) (v := .string x2) (by omega))
  have FY := FX.trans (Fix.set (b := w.heap.size + 1) (i := 2) (v := .string x2) (by omega))
  clear hrs hbu FX FY c2 f1 d1
  have c3 : (w2.setCell ⟨w.heap.size + 1, 2, none⟩ (.string x2)).cell? ⟨rb, 0, none⟩ = some (.pointer (some ⟨g, 0, none⟩)) := RB.out.cell 0
  have p0 : (w2.setCell ⟨w.heap.size + 1, 2, none⟩ (.string x2)).cell? ⟨w.heap.size + 1, 0, none⟩ = some (.int .i64 x0) := BB.out.cell 0
  have p1 : (w2.setCell ⟨w.heap.size + 1, 2, none⟩ (.string x2)).cell? ⟨w.heap.size + 1, 1, none⟩ = some (.int .i64 x1) := BB.out.cell 1
  have p2 : (w2.setCell ⟨w.heap.size + 1, 2, none⟩ (.string x2)).cell? ⟨w.heap.size + 1, 2, none⟩ = some (.string x2) := BB.out.cell 2
  have BR : Hid (Bx ((w2.setCell ⟨w.heap.size + 1, 2, none⟩ (.string x2)).setRow w.heap.size #[.int .i64 x0, .int .i64 x1, .string x2]) w.heap.size #[.int .i64 x0, .int .i64 x1, .string x2] 64) := BA.out.set
  have q0 : ((w2.setCell ⟨w.heap.size + 1, 2, none⟩ (.string x2)).setRow w.heap.size #[.int .i64 x0, .int .i64 x1, .string x2]).cell? ⟨w.heap.size, 0, none⟩ = some (.int .i64 x0) := BR.out.cell 0
  have q1 : ((w2.setCell ⟨w.heap.size + 1, 2, none⟩ (.string x2)).setRow w.heap.size #[.int .i64 x0, .int .i64 x1, .string x2]).cell? ⟨w.heap.size, 1, none⟩ = some (.int .i64 x1) := BR.out.cell 1
  have q2 : ((w2.setCell ⟨w.heap.size + 1, 2, none⟩ (.string x2)).setRow w.heap.size #[.int .i64 x0, .int .i64 x1, .string x2]).cell? ⟨w.heap.size, 2, none⟩ = some (.string x2) := BR.out.cell 2
  have hone : (#[.int .i64 x0, .int .i64 x1, .string x2] : Array Value).all (·.oneCell') = true := by simp [Value.oneCell']
  have HF : Hid (RdAns 55 stepB TOK (fun t => .agg #[.int .i64 t.1, .int .i64 t.2.1, .string t.2.2]) w g ba cap l s (.returned (.agg #[.int .i64 x0, .int .i64 x1, .string x2])) ((w2.setCell ⟨w.heap.size + 1, 2, none⟩ (.string x2)).setRow w.heap.size #[.int .i64 x0, .int .i64 x1, .string x2])) := ⟨(x0, x1, x2), s2, rfl, rd_step hd0.out hd1.out hd2.out, RS.out.row (by omega), BU.out.rowNew (Nat.le_refl _)⟩
  clear c3 RB RS BT SZ BU BB FF
  go_wp2_with (refine wpList_store_row rfl 64 (.tmp 1) (.tmp 12) rfl w.heap.size #[.int .i64 x0, .int .i64 x1, .string x2] rfl rfl 64 _ BA.out (by kernel_rfl) rfl hone ?_)
  (try simp only [Exit.inBlock, Exit.then])
  refine bodyPost_ret (v := .agg #[.int .i64 x0, .int .i64 x1, .string x2]) ?_ rfl HF.out
  unfold results
  go_simp

theorem Try.info_term : (Try.prog.info? 64).map (fun i => (i.zero, i.size, i.bytes)) = some (some (.agg #[.int .i64 0, .int .i64 0, .string ⟨#[]⟩]), 3, 32) := by kernel_rfl

set_option maxHeartbeats 4000000 in
theorem listTerms_any (w : World) (g : Nat) (ba : Option Addr) (cap : Nat) (l : List Int) (s : Option (List Int)) (most : Nat) (hm : most ≤ 64) (rb : Nat) (hrb : Bx w rb #[.pointer (some ⟨g, 0, none⟩)] 53) (hrg : rb ≠ g) (hr : RdS 55 w g ba cap l s) (hb : Bts g w ba l) (hc : l.length ≤ cap) (hl : l.length ≤ 1000000000) :
    Calls Try.prog 73 #[.pointer (some ⟨g, 0, none⟩), .int .i64 (most : Int), .func (.func 74) #[] #[.pointer (some ⟨rb, 0, none⟩)]] w (LAns RTerms stepB TOK most 55 w g ba cap l s) := by
  obtain ⟨iE, hiE, hz0, hz1, hz2⟩ := info_parts Try.info_term
  have hgl := hr.lt
  have H := hid' (count_any w g ba cap l s most hm hr hb hc hl)
  have HB := hid' hb
  have HRB := hid' hrb
  clear hb hr hrb
  go_enter Try.func73, Try.ntmps73
  go_wp2_with fail
  refine H.out.mono ?_
  rintro e w1 ⟨n, s1, rfl, hn, hrd, hrs, hbut⟩
  have hs1 := hbut.size
  go_wp2_with (refine wpList_make_own _ rfl _ _ 46 rfl w.heap.size 64 iE (.agg #[.int .i64 0, .int .i64 0, .string ⟨#[]⟩]) 3 Try.underlying46 hiE hz0 hz1 .i64 .i64 _ n rfl rfl rfl (by rw [hz2]; omega) (by unfold maxLen; omega) hs1 ?_; intro w2 hmade hgrow)
  have I0 : Hid (LLoop 64 3 ET d0 stepB TOK most n 55 w g ba cap l s n (.slice (some ⟨w1.heap.size, 0, none⟩) 0 n) w2) := ⟨[], s1, w1.heap.size, n, rfl, by simp, Row.nil hmade, RdL.start hrd, hrs.grown hgrow (by simp), hbut.grown hgrow (by simp)⟩
  clear hmade hgrow hrd hrs hbut H hs1
  go_loopg [8] n (fun k v wr => LLoop 64 3 ET d0 stepB TOK most n 55 w g ba cap l s k v wr)
  case atStart => exact I0.out
  case round =>
    clear I0
    obtain ⟨xs, s2, gb, cb, rfl, hk, hrow, hrl, hrs, hbut⟩ := hrel
    have hsz := hbut.size
    obtain ⟨m, hm2⟩ : ∃ m, xs.length = m := ⟨_, rfl⟩
    have HM := hid' hm2
    cases gk with
    | zero =>
      have HF : Hid (LAns RTerms stepB TOK most 55 w g ba cap l s (.returned (.slice (some ⟨gb, 0, none⟩) xs.length cb)) wr) := ⟨_, xs, s2, rfl, hrow, hrl.done (.inr (by omega)), hrs, hbut⟩
      have hmn : m = n := by omega
      rw [hm2] at HF ⊢
      clear hrow hrl hrs hbut hk hm2
      subst hmn
      go_wp2
      go_ret
      exact HF.out
    | succ k =>
      have hmn : m < n := by omega
      cases s2 with
      | none =>
        have HF : Hid (LAns RTerms stepB TOK most 55 w g ba cap l s (.returned (.slice (some ⟨gb, 0, none⟩) xs.length cb)) wr) := ⟨_, xs, none, rfl, hrow, hrl.done (.inl rfl), hrs, hbut⟩
        have c2 : wr.cell? ⟨g, 2, none⟩ = some (.bool true) := by
          obtain ⟨a, _, ⟨r, h, _⟩ | ⟨_, h⟩⟩ := hrs
          · cases h
          · exact h.cell 2
        rw [hm2] at HF ⊢
        clear hrow hrl hrs hbut hk hm2
        go_wp2
        go_ret
        exact HF.out
      | some r2 =>
        have c2 : wr.cell? ⟨g, 2, none⟩ = some (.bool false) := by
          obtain ⟨a, _, ⟨r, _, _, h⟩ | ⟨h, _⟩⟩ := hrs
          · exact h.cell 2
          · cases h
        have H1 := hid' (exprs11_any wr g ba cap l (some r2) rb (HRB.out.but hbut hrg) hrg hrs (HB.out.keep (hbut.below (by omega))) hc hl)
        have HROW := hid' hrow
        have HRL := hid' hrl
        have HBT := hid' hbut
        have HK := hid' hk
        rw [hm2]
        clear hrow hrl hrs hbut hk hm2
        go_wp2_with fail
        refine H1.out.mono ?_
        rintro e w3 ⟨x, s3, rfl, hrd3, hrs3, hbut3⟩
        have BA := (Below.refl _ w3).alloc (Nat.le_refl _) (Obj.cells #[.int .i64 x.1, .int .i64 x.2.1, .string x.2.2] 64)
        obtain ⟨cs, hcs1, hcs2⟩ := HROW.out
        rw [HM.out] at hcs1
        have F3 : Fix w.heap.size (fun _ => True) wr (w3.alloc (Obj.cells #[.int .i64 x.1, .int .i64 x.2.1, .string x.2.2] 64)) := Fix.of_but (hbut3.trans (But.of_below BA)) hgl
        have HO := hid' (own_fix hcs1 F3 trivial)
        have HE : Hid (∀ i, i < xs.length → ET w.heap.size (w3.alloc (Obj.cells #[.int .i64 x.1, .int .i64 x.2.1, .string x.2.2] 64)) (xs.getD i d0) (cs i)) := fun i hi => ET_lasts _ _ _ _ _ _ (hcs2 i hi) F3 (fun _ _ => trivial)
        have HX : Hid (ET w.heap.size (w3.alloc (Obj.cells #[.int .i64 x.1, .int .i64 x.2.1, .string x.2.2] 64)) x (#[.int .i64 x.1, .int .i64 x.2.1, .string x.2.2]).toList) := rfl
        have HRS := hid' (hrs3.keep BA)
        have HBW := hid' ((HBT.out.trans hbut3).trans (But.of_below BA))
        have HRD := hid' hrd3
        have hs3 : w.heap.size ≤ w3.heap.size := (HBT.out.trans hbut3).size
        clear hrs3 hbut3 hrd3 F3 BA hcs1 hcs2 H1 HROW
        go_wp2_with (first
          | (at_builtin; refine wpList_append_own _ rfl (.tmp 25) (.tmp 28) 46 rfl w.heap.size 64 iE (.agg #[.int .i64 0, .int .i64 0, .string ⟨#[]⟩]) 3 32 Try.underlying46 hiE hz0 hz1 hz2 rfl (by decide) (.slice (some ⟨gb, 0, none⟩) m cb) m ((List.range m).flatMap cs) rfl HO.out ⟨w3.heap.size, 0, none⟩ 1 1 (#[.int .i64 x.1, .int .i64 x.2.1, .string x.2.2]).toList rfl rfl (new_cells w3 _ _) (by intro u hu; simp at hu; rcases hu with rfl | rfl | rfl <;> rfl) (by unfold maxLen; omega) (by omega) (by simp; omega) ?_; intro v4 w4 hown4 hgrow4 hnil4))
        have R : Hid (LLoop 64 3 ET d0 stepB TOK most n 55 w g ba cap l s k v4 w4) := LLoop.step ET_lasts (fun _ h => h.elim) pf_step HK.out hgl (by rw [HM.out]; exact HO.out) HE.out HX.out hgrow4 (by rw [HM.out]; exact hown4) HRL.out HRD.out HRS.out HBW.out
        clear hown4 hgrow4 hnil4 HE HX HRS HBW HRD HO
        obtain ⟨gb4, cb4, n4, hv4⟩ : ∃ gb4 cb4 n4, v4 = .slice (some ⟨gb4, 0, none⟩) n4 cb4 := by obtain ⟨_, _, a, b, h, _⟩ := R.out; exact ⟨a, b, _, h⟩
        subst hv4
        go_wp2
        go_roundg k
        case measure => omega
        case rel => exact R.out

set_option maxHeartbeats 2000000 in
theorem exprs1_any (w : World) (g : Nat) (ba : Option Addr) (cap : Nat) (l : List Int) (s : Option (List Int)) (rb : Nat) (hrb : Bx w rb #[.pointer (some ⟨g, 0, none⟩)] 53) (hrg : rb ≠ g) (hr : RdS 55 w g ba cap l s) (hb : Bts g w ba l) (hc : l.length ≤ cap) (hl : l.length ≤ 1000000000) :
    Calls Try.prog 72 #[.pointer (some ⟨rb, 0, none⟩)] w (LAns RTerms stepB TOK 64 55 w g ba cap l s) := by
  have H := hid' (listTerms_any w g ba cap l s 64 (by omega) rb hrb hrg hr hb hc hl)
  have HQ : Hid (∀ e w', LAns RTerms stepB TOK 64 55 w g ba cap l s e w' → ∃ v, e = .returned v ∧ LAns RTerms stepB TOK 64 55 w g ba cap l s (.returned v) w') := fun e w' h => by
    obtain ⟨v, xs, s', rfl, h⟩ := h
    exact ⟨v, rfl, v, xs, s', rfl, h⟩
  have hmf := run_mkf
  have c0 : w.cell? ⟨rb, 0, none⟩ = some (.pointer (some ⟨g, 0, none⟩)) := hrb.cell 0
  clear hr hb hc hl hrb
  go_enter Try.func72, Try.ntmps72
  go_wp2_with fail
  refine H.out.mono ?_
  intro e w1 h
  obtain ⟨v, rfl, h⟩ := HQ.out _ _ h
  have HF := hid' h
  clear h
  go_wp2
  go_ret
  exact HF.out

theorem Try.info_expr : (Try.prog.info? 46).map (fun i => (i.zero, i.size, i.bytes)) = some (some (.slice none 0 0), 1, 24) := by kernel_rfl

set_option maxHeartbeats 4000000 in
theorem listExprs_any (w : World) (g : Nat) (ba : Option Addr) (cap : Nat) (l : List Int) (s : Option (List Int)) (most : Nat) (hm : most ≤ 64) (rb : Nat) (hrb : Bx w rb #[.pointer (some ⟨g, 0, none⟩)] 53) (hrg : rb ≠ g) (hr : RdS 55 w g ba cap l s) (hb : Bts g w ba l) (hc : l.length ≤ cap) (hl : l.length ≤ 1000000000) :
    Calls Try.prog 71 #[.pointer (some ⟨g, 0, none⟩), .int .i64 (most : Int), .func (.func 72) #[] #[.pointer (some ⟨rb, 0, none⟩)]] w (LAns RExprs stepsB (LD 64 TOK) most 55 w g ba cap l s) := by
  obtain ⟨iE, hiE, hz0, hz1, hz2⟩ := info_parts Try.info_expr
  have hgl := hr.lt
  have H := hid' (count_any w g ba cap l s most hm hr hb hc hl)
  have HB := hid' hb
  have HRB := hid' hrb
  clear hb hr hrb
  go_enter Try.func71, Try.ntmps71
  go_wp2_with fail
  refine H.out.mono ?_
  rintro e w1 ⟨n, s1, rfl, hn, hrd, hrs, hbut⟩
  have hs1 := hbut.size
  go_wp2_with (refine wpList_make_own _ rfl _ _ 42 rfl w.heap.size 46 iE (.slice none 0 0) 1 Try.underlying42 hiE hz0 hz1 .i64 .i64 _ n rfl rfl rfl (by rw [hz2]; omega) (by unfold maxLen; omega) hs1 ?_; intro w2 hmade hgrow)
  have I0 : Hid (LLoop 46 1 EE [] stepsB (LD 64 TOK) most n 55 w g ba cap l s n (.slice (some ⟨w1.heap.size, 0, none⟩) 0 n) w2) := ⟨[], s1, w1.heap.size, n, rfl, by simp, Row.nil hmade, RdL.start hrd, hrs.grown hgrow (by simp), hbut.grown hgrow (by simp)⟩
  clear hmade hgrow hrd hrs hbut H hs1
  go_loopg [8] n (fun k v wr => LLoop 46 1 EE [] stepsB (LD 64 TOK) most n 55 w g ba cap l s k v wr)
  case atStart => exact I0.out
  case round =>
    clear I0
    obtain ⟨xs, s2, gb, cb, rfl, hk, hrow, hrl, hrs, hbut⟩ := hrel
    have hsz := hbut.size
    obtain ⟨m, hm2⟩ : ∃ m, xs.length = m := ⟨_, rfl⟩
    have HM := hid' hm2
    cases gk with
    | zero =>
      have HF : Hid (LAns RExprs stepsB (LD 64 TOK) most 55 w g ba cap l s (.returned (.slice (some ⟨gb, 0, none⟩) xs.length cb)) wr) := ⟨_, xs, s2, rfl, hrow, hrl.done (.inr (by omega)), hrs, hbut⟩
      have hmn : m = n := by omega
      rw [hm2] at HF ⊢
      clear hrow hrl hrs hbut hk hm2
      subst hmn
      go_wp2
      go_ret
      exact HF.out
    | succ k =>
      have hmn : m < n := by omega
      cases s2 with
      | none =>
        have HF : Hid (LAns RExprs stepsB (LD 64 TOK) most 55 w g ba cap l s (.returned (.slice (some ⟨gb, 0, none⟩) xs.length cb)) wr) := ⟨_, xs, none, rfl, hrow, hrl.done (.inl rfl), hrs, hbut⟩
        have c2 : wr.cell? ⟨g, 2, none⟩ = some (.bool true) := by
          obtain ⟨a, _, ⟨r, h, _⟩ | ⟨_, h⟩⟩ := hrs
          · cases h
          · exact h.cell 2
        rw [hm2] at HF ⊢
        clear hrow hrl hrs hbut hk hm2
        go_wp2
        go_ret
        exact HF.out
      | some r2 =>
        have c2 : wr.cell? ⟨g, 2, none⟩ = some (.bool false) := by
          obtain ⟨a, _, ⟨r, _, _, h⟩ | ⟨h, _⟩⟩ := hrs
          · exact h.cell 2
          · cases h
        have H1 := hid' (exprs1_any wr g ba cap l (some r2) rb (HRB.out.but hbut hrg) hrg hrs (HB.out.keep (hbut.below (by omega))) hc hl)
        have HROW := hid' hrow
        have HRL := hid' hrl
        have HBT := hid' hbut
        have HK := hid' hk
        rw [hm2]
        clear hrow hrl hrs hbut hk hm2
        go_wp2_with fail
        refine H1.out.mono ?_
        rintro e w3 ⟨v3, x, s3, rfl, hrep3, hrd3, hrs3, hbut3⟩
        obtain ⟨a3, c3, hv3⟩ := hrep3.form
        subst hv3
        have BA := (Below.refl _ w3).alloc (Nat.le_refl _) (Obj.cells #[.slice a3 x.length c3] 46)
        obtain ⟨cs, hcs1, hcs2⟩ := HROW.out
        rw [HM.out] at hcs1
        have F3 : Fix w.heap.size (fun _ => True) wr (w3.alloc (Obj.cells #[.slice a3 x.length c3] 46)) := Fix.of_but (hbut3.trans (But.of_below BA)) hgl
        have HO := hid' (own_fix hcs1 F3 trivial)
        have HE : Hid (∀ i, i < xs.length → EE w.heap.size (w3.alloc (Obj.cells #[.slice a3 x.length c3] 46)) (xs.getD i []) (cs i)) := fun i hi => EE_lasts _ _ _ _ _ _ (hcs2 i hi) F3 (fun _ _ => trivial)
        have HX : Hid (EE w.heap.size (w3.alloc (Obj.cells #[.slice a3 x.length c3] 46)) x (#[.slice a3 x.length c3]).toList) := ⟨_, rfl, (hrep3.base ET_base hsz).fix ET_lasts (Fix.of_but (But.of_below (g := g) BA) hgl) trivial (fun _ _ => trivial)⟩
        have HRS := hid' (hrs3.keep BA)
        have HBW := hid' ((HBT.out.trans hbut3).trans (But.of_below BA))
        have HRD := hid' hrd3
        have hs3 : w.heap.size ≤ w3.heap.size := (HBT.out.trans hbut3).size
        clear hrs3 hbut3 hrd3 F3 BA hcs1 hcs2 H1 HROW hrep3
        go_wp2_with (first
          | (at_builtin; refine wpList_append_own _ rfl (.tmp 25) (.tmp 28) 42 rfl w.heap.size 46 iE (.slice none 0 0) 1 24 Try.underlying42 hiE hz0 hz1 hz2 rfl (by decide) (.slice (some ⟨gb, 0, none⟩) m cb) m ((List.range m).flatMap cs) rfl HO.out ⟨w3.heap.size, 0, none⟩ 1 1 (#[.slice a3 x.length c3]).toList rfl rfl (new_cells w3 _ _) (by intro u hu; simp at hu; rcases hu with rfl <;> rfl) (by unfold maxLen; omega) (by omega) (by simp; omega) ?_; intro v4 w4 hown4 hgrow4 hnil4))
        have R : Hid (LLoop 46 1 EE [] stepsB (LD 64 TOK) most n 55 w g ba cap l s k v4 w4) := LLoop.step EE_lasts (fun t h => by rw [h]; decide) pf_steps HK.out hgl (by rw [HM.out]; exact HO.out) HE.out HX.out hgrow4 (by rw [HM.out]; exact hown4) HRL.out HRD.out HRS.out HBW.out
        clear hown4 hgrow4 hnil4 HE HX HRS HBW HRD HO
        obtain ⟨gb4, cb4, n4, hv4⟩ : ∃ gb4 cb4 n4, v4 = .slice (some ⟨gb4, 0, none⟩) n4 cb4 := by obtain ⟨_, _, a, b, h, _⟩ := R.out; exact ⟨a, b, _, h⟩
        subst hv4
        go_wp2
        go_roundg k
        case measure => omega
        case rel => exact R.out

set_option maxHeartbeats 2000000 in
theorem exprs_any (w : World) (g : Nat) (ba : Option Addr) (cap : Nat) (l : List Int) (s : Option (List Int)) (hr : RdS 55 w g ba cap l s) (hb : Bts g w ba l) (hc : l.length ≤ cap) (hl : l.length ≤ 1000000000) :
    Calls Try.prog 52 #[.pointer (some ⟨g, 0, none⟩)] w (LAns RExprs stepsB (LD 64 TOK) 16 55 w g ba cap l s) := by
  have hgl := hr.lt
  have B0 : Below w.heap.size w (w.alloc (Obj.cells #[.pointer (some ⟨g, 0, none⟩)] 53)) := (Below.refl _ w).alloc (Nat.le_refl _) _
  have hrb := Bx.new w #[.pointer (some ⟨g, 0, none⟩)] 53
  have H := hid' (listExprs_any (w.alloc (Obj.cells #[.pointer (some ⟨g, 0, none⟩)] 53)) g ba cap l s 16 (by omega) w.heap.size hrb (by omega) (hr.keep B0) (hb.keep (B0.mono (Nat.le_of_lt hgl))) hc hl)
  have HQ : Hid (∀ e w', LAns RExprs stepsB (LD 64 TOK) 16 55 (w.alloc (Obj.cells #[.pointer (some ⟨g, 0, none⟩)] 53)) g ba cap l s e w' → ∃ v, e = .returned v ∧ LAns RExprs stepsB (LD 64 TOK) 16 55 w g ba cap l s (.returned v) w') := fun e w' h => by
    obtain ⟨v, xs, s', rfl, h1, h2, h3, h4⟩ := h
    exact ⟨v, rfl, v, xs, s', rfl, h1.base EE_base (by simp), h2, h3, (But.of_below B0).trans h4⟩
  have hmf := run_mkf
  clear hr hb hc hl hrb
  go_enter Try.func52, Try.ntmps52
  go_wp2_with fail
  refine H.out.mono ?_
  intro e w1 h
  obtain ⟨v, rfl, h2⟩ := HQ.out _ _ h
  have HF := hid' h2
  clear h h2
  go_wp2
  go_ret
  exact HF.out

/-- What a call answers that reads a node. -/
def NAns (ty : TypeId) (w : World) (g : Nat) (ba : Option Addr) (cap : Nat) (l : List Int) (s : Option (List Int)) (e : Ending) (w' : World) : Prop :=
  ∃ x v1 v2 v3 v4 s', e = .returned (.agg (nd9 x v1 v2 v3 v4).toArray) ∧ NdO w.heap.size w' x v1 v2 v3 v4 ∧ Rd nodeB NdOK s x s' ∧ RdS ty w' g ba cap l s' ∧ But g w w'

set_option maxHeartbeats 8000000 in
theorem plan1_any (w : World) (g : Nat) (ba : Option Addr) (cap : Nat) (l : List Int) (s : Option (List Int)) (rb : Nat) (hrb : Bx w rb #[.pointer (some ⟨g, 0, none⟩)] 53) (hrg : rb ≠ g) (hr : RdS 55 w g ba cap l s) (hb : Bts g w ba l) (hc : l.length ≤ cap) (hl : l.length ≤ 1000000000) :
    Calls Try.prog 51 #[.pointer (some ⟨rb, 0, none⟩)] w (NAns 55 w g ba cap l s) := by
  have hgl := hr.lt
  have hrl := hrb.lt
  have B0 : Below w.heap.size w ((w.alloc (Obj.cells #[.int .i64 0, .slice none 0 0, .slice none 0 0, .slice none 0 0, .slice none 0 0, .int .i64 0, .int .i64 0, .int .i64 0, .int .i64 0] 44)).alloc (Obj.cells #[.int .i64 0, .slice none 0 0, .slice none 0 0, .slice none 0 0, .slice none 0 0, .int .i64 0, .int .i64 0, .int .i64 0, .int .i64 0] 44)) := ((Below.refl _ w).alloc (Nat.le_refl _) _).alloc (by simp) _
  have RB := hid' (hrb.keep B0)
  have RS := hid' (hr.keep B0)
  have BU := hid' (But.of_below (g := g) B0)
  have BT := hid' (hb.keep (B0.mono (Nat.le_of_lt hgl)))
  have BA := hid' ((Bx.new w #[.int .i64 0, .slice none 0 0, .slice none 0 0, .slice none 0 0, .slice none 0 0, .int .i64 0, .int .i64 0, .int .i64 0, .int .i64 0] 44).keep ((Below.refl _ _).alloc (Nat.le_refl _) (Obj.cells #[.int .i64 0, .slice none 0 0, .slice none 0 0, .slice none 0 0, .slice none 0 0, .int .i64 0, .int .i64 0, .int .i64 0, .int .i64 0] 44)))
  have BB := hid' (Bx.new (w.alloc (Obj.cells #[.int .i64 0, .slice none 0 0, .slice none 0 0, .slice none 0 0, .slice none 0 0, .int .i64 0, .int .i64 0, .int .i64 0, .int .i64 0] 44)) #[.int .i64 0, .slice none 0 0, .slice none 0 0, .slice none 0 0, .slice none 0 0, .int .i64 0, .int .i64 0, .int .i64 0, .int .i64 0] 44)
  have FF := hid' (Fix.refl (w.heap.size + 2) ((w.alloc (Obj.cells #[.int .i64 0, .slice none 0 0, .slice none 0 0, .slice none 0 0, .slice none 0 0, .int .i64 0, .int .i64 0, .int .i64 0, .int .i64 0] 44)).alloc (Obj.cells #[.int .i64 0, .slice none 0 0, .slice none 0 0, .slice none 0 0, .slice none 0 0, .int .i64 0, .int .i64 0, .int .i64 0, .int .i64 0] 44)))
  have SZ : Hid (w.heap.size + 2 ≤ ((w.alloc (Obj.cells #[.int .i64 0, .slice none 0 0, .slice none 0 0, .slice none 0 0, .slice none 0 0, .int .i64 0, .int .i64 0, .int .i64 0, .int .i64 0] 44)).alloc (Obj.cells #[.int .i64 0, .slice none 0 0, .slice none 0 0, .slice none 0 0, .slice none 0 0, .int .i64 0, .int .i64 0, .int .i64 0, .int .i64 0] 44)).heap.size) := (by simp : _ ≤ _)
  rw [sz1] at BB
  have c0 : ((w.alloc (Obj.cells #[.int .i64 0, .slice none 0 0, .slice none 0 0, .slice none 0 0, .slice none 0 0, .int .i64 0, .int .i64 0, .int .i64 0, .int .i64 0] 44)).alloc (Obj.cells #[.int .i64 0, .slice none 0 0, .slice none 0 0, .slice none 0 0, .slice none 0 0, .int .i64 0, .int .i64 0, .int .i64 0, .int .i64 0] 44)).cell? ⟨rb, 0, none⟩ = some (.pointer (some ⟨g, 0, none⟩)) := RB.out.cell 0
  clear hrb hr hb B0
  have hmf := run_mkf
  go_enter Try.func51, Try.ntmps51
  go_wp2_with fail
  refine (number_any ((w.alloc (Obj.cells #[.int .i64 0, .slice none 0 0, .slice none 0 0, .slice none 0 0, .slice none 0 0, .int .i64 0, .int .i64 0, .int .i64 0, .int .i64 0] 44)).alloc (Obj.cells #[.int .i64 0, .slice none 0 0, .slice none 0 0, .slice none 0 0, .slice none 0 0, .int .i64 0, .int .i64 0, .int .i64 0, .int .i64 0] 44)) g ba cap l _ RS.out BT.out hc hl).mono ?_
  rintro e w0 ⟨x0, s0, rfl, hrd0, hrs, hbu⟩
  have hd0 := hid' hrd0
  clear hrd0
  have FX : Fix (w.heap.size + 2) (fun _ => True) ((w.alloc (Obj.cells #[.int .i64 0, .slice none 0 0, .slice none 0 0, .slice none 0 0, .slice none 0 0, .int .i64 0, .int .i64 0, .int .i64 0, .int .i64 0] 44)).alloc (Obj.cells #[.int .i64 0, .slice none 0 0, .slice none 0 0, .slice none 0 0, .slice none 0 0, .int .i64 0, .int .i64 0, .int .i64 0, .int .i64 0] 44)) w0 := Fix.of_but hbu (by omega)
  replace RB := hid' (RB.out.but hbu hrg)
  replace BA := hid' (BA.out.but hbu (by omega))
  replace BB := hid' (BB.out.but hbu (by omega))
  have f0 := BB.out.frozen 0
  have d0 : w0.cell? ⟨w.heap.size + 1, 0, none⟩ = some (.int .i64 0) := BB.out.cell 0
  replace RB := hid' (RB.out.setOther (b' := w.heap.size + 1) (i := 0) (v := .int .i64 x0) (by omega))
  replace BA := hid' (BA.out.setOther (b' := w.heap.size + 1) (i := 0) (v := .int .i64 x0) (by omega))
  replace BB : Hid (Bx (w0.setCell ⟨w.heap.size + 1, 0, none⟩ (.int .i64 x0)) (w.heap.size + 1) #[.int .i64 x0, .slice none 0 0, .slice none 0 0, .slice none 0 0, .slice none 0 0, .int .i64 0, .int .i64 0, .int .i64 0, .int .i64 0] 44) := (BB.out.setCell (i := 0) (v := .int .i64 x0) : _)
  replace RS := hid' (hrs.set (b := w.heap.size + 1) (i := 0) (v := .int .i64 x0) (by omega))
  replace BT := hid' ((BT.out.keep (hbu.below (by have := SZ.out; omega))).keep ((Below.refl g w0).setCell (p := ⟨w.heap.size + 1, 0, none⟩) (by show g ≤ w.heap.size + 1; omega) (.int .i64 x0)))
  replace SZ : Hid (w.heap.size + 2 ≤ (w0.setCell ⟨w.heap.size + 1, 0, none⟩ (.int .i64 x0)).heap.size) := (Nat.le_trans SZ.out (Nat.le_trans hbu.size (But.setCell (w.heap.size + 1) 0 w0 (.int .i64 x0)).size) : _ ≤ _)
  replace BU := hid' ((BU.out.trans hbu).setNew (b := w.heap.size + 1) (i := 0) (v := .int .i64 x0) (by omega))
  have FY := FX.trans (Fix.set (b := w.heap.size + 1) (i := 0) (v := .int .i64 x0) (by omega))
  clear hrs hbu FX FY c0
  have c1 : (w0.setCell ⟨w.heap.size + 1, 0, none⟩ (.int .i64 x0)).cell? ⟨rb, 0, none⟩ = some (.pointer (some ⟨g, 0, none⟩)) := RB.out.cell 0
  go_wp2_with fail
  refine (numbers_any (w0.setCell ⟨w.heap.size + 1, 0, none⟩ (.int .i64 x0)) g ba cap l _ 8 (by omega) RS.out BT.out hc hl).mono ?_
  rintro e w1 ⟨v1, x1, s1, rfl, hrep, hrd1, hrs, hbu⟩
  replace hrep := hrep.base EI_base SZ.out
  obtain ⟨a1, cc1, hv⟩ := hrep.form
  subst hv
  have hd1 := hid' hrd1
  clear hrd1
  have FX : Fix (w.heap.size + 2) (fun _ => True) (w0.setCell ⟨w.heap.size + 1, 0, none⟩ (.int .i64 x0)) w1 := Fix.of_but hbu (by omega)
  replace RB := hid' (RB.out.but hbu hrg)
  replace BA := hid' (BA.out.but hbu (by omega))
  replace BB := hid' (BB.out.but hbu (by omega))
  have f1 := BB.out.frozen 1
  have d1 : w1.cell? ⟨w.heap.size + 1, 1, none⟩ = some (.slice none 0 0) := BB.out.cell 1
  replace RB := hid' (RB.out.setOther (b' := w.heap.size + 1) (i := 1) (v := .slice a1 x1.length cc1) (by omega))
  replace BA := hid' (BA.out.setOther (b' := w.heap.size + 1) (i := 1) (v := .slice a1 x1.length cc1) (by omega))
  replace BB : Hid (Bx (w1.setCell ⟨w.heap.size + 1, 1, none⟩ (.slice a1 x1.length cc1)) (w.heap.size + 1) #[.int .i64 x0, .slice a1 x1.length cc1, .slice none 0 0, .slice none 0 0, .slice none 0 0, .int .i64 0, .int .i64 0, .int .i64 0, .int .i64 0] 44) := (BB.out.setCell (i := 1) (v := .slice a1 x1.length cc1) : _)
  replace RS := hid' (hrs.set (b := w.heap.size + 1) (i := 1) (v := .slice a1 x1.length cc1) (by omega))
  replace BT := hid' ((BT.out.keep (hbu.below (by have := SZ.out; omega))).keep ((Below.refl g w1).setCell (p := ⟨w.heap.size + 1, 1, none⟩) (by show g ≤ w.heap.size + 1; omega) (.slice a1 x1.length cc1)))
  replace SZ : Hid (w.heap.size + 2 ≤ (w1.setCell ⟨w.heap.size + 1, 1, none⟩ (.slice a1 x1.length cc1)).heap.size) := (Nat.le_trans SZ.out (Nat.le_trans hbu.size (But.setCell (w.heap.size + 1) 1 w1 (.slice a1 x1.length cc1)).size) : _ ≤ _)
  replace BU := hid' ((BU.out.trans hbu).setNew (b := w.heap.size + 1) (i := 1) (v := .slice a1 x1.length cc1) (by omega))
  have FY := FX.trans (Fix.set (b := w.heap.size + 1) (i := 1) (v := .slice a1 x1.length cc1) (by omega))
  have RR1 := hid' (hrep.fix EI_lasts (Fix.set (b := w.heap.size + 1) (i := 1) (v := .slice a1 x1.length cc1) (by omega)) trivial (fun _ _ => trivial))
  clear hrep
  clear hrs hbu FX FY c1 f0 d0
  have c2 : (w1.setCell ⟨w.heap.size + 1, 1, none⟩ (.slice a1 x1.length cc1)).cell? ⟨rb, 0, none⟩ = some (.pointer (some ⟨g, 0, none⟩)) := RB.out.cell 0
  go_wp2_with fail
  refine (numbers_any (w1.setCell ⟨w.heap.size + 1, 1, none⟩ (.slice a1 x1.length cc1)) g ba cap l _ 16 (by omega) RS.out BT.out hc hl).mono ?_
  rintro e w2 ⟨v2, x2, s2, rfl, hrep, hrd2, hrs, hbu⟩
  replace hrep := hrep.base EI_base SZ.out
  obtain ⟨a2, cc2, hv⟩ := hrep.form
  subst hv
  have hd2 := hid' hrd2
  clear hrd2
  have FX : Fix (w.heap.size + 2) (fun _ => True) (w1.setCell ⟨w.heap.size + 1, 1, none⟩ (.slice a1 x1.length cc1)) w2 := Fix.of_but hbu (by omega)
  replace RB := hid' (RB.out.but hbu hrg)
  replace BA := hid' (BA.out.but hbu (by omega))
  replace BB := hid' (BB.out.but hbu (by omega))
  have f2 := BB.out.frozen 2
  have d2 : w2.cell? ⟨w.heap.size + 1, 2, none⟩ = some (.slice none 0 0) := BB.out.cell 2
  replace RB := hid' (RB.out.setOther (b' := w.heap.size + 1) (i := 2) (v := .slice a2 x2.length cc2) (by omega))
  replace BA := hid' (BA.out.setOther (b' := w.heap.size + 1) (i := 2) (v := .slice a2 x2.length cc2) (by omega))
  replace BB : Hid (Bx (w2.setCell ⟨w.heap.size + 1, 2, none⟩ (.slice a2 x2.length cc2)) (w.heap.size + 1) #[.int .i64 x0, .slice a1 x1.length cc1, .slice a2 x2.length cc2, .slice none 0 0, .slice none 0 0, .int .i64 0, .int .i64 0, .int .i64 0, .int .i64 0] 44) := (BB.out.setCell (i := 2) (v := .slice a2 x2.length cc2) : _)
  replace RS := hid' (hrs.set (b := w.heap.size + 1) (i := 2) (v := .slice a2 x2.length cc2) (by omega))
  replace BT := hid' ((BT.out.keep (hbu.below (by have := SZ.out; omega))).keep ((Below.refl g w2).setCell (p := ⟨w.heap.size + 1, 2, none⟩) (by show g ≤ w.heap.size + 1; omega) (.slice a2 x2.length cc2)))
  replace SZ : Hid (w.heap.size + 2 ≤ (w2.setCell ⟨w.heap.size + 1, 2, none⟩ (.slice a2 x2.length cc2)).heap.size) := (Nat.le_trans SZ.out (Nat.le_trans hbu.size (But.setCell (w.heap.size + 1) 2 w2 (.slice a2 x2.length cc2)).size) : _ ≤ _)
  replace BU := hid' ((BU.out.trans hbu).setNew (b := w.heap.size + 1) (i := 2) (v := .slice a2 x2.length cc2) (by omega))
  have FY := FX.trans (Fix.set (b := w.heap.size + 1) (i := 2) (v := .slice a2 x2.length cc2) (by omega))
  replace RR1 := hid' (RR1.out.fix EI_lasts FY trivial (fun _ _ => trivial))
  have RR2 := hid' (hrep.fix EI_lasts (Fix.set (b := w.heap.size + 1) (i := 2) (v := .slice a2 x2.length cc2) (by omega)) trivial (fun _ _ => trivial))
  clear hrep
  clear hrs hbu FX FY c2 f1 d1
  have c3 : (w2.setCell ⟨w.heap.size + 1, 2, none⟩ (.slice a2 x2.length cc2)).cell? ⟨rb, 0, none⟩ = some (.pointer (some ⟨g, 0, none⟩)) := RB.out.cell 0
  go_wp2_with fail
  refine (exprs_any (w2.setCell ⟨w.heap.size + 1, 2, none⟩ (.slice a2 x2.length cc2)) g ba cap l _ RS.out BT.out hc hl).mono ?_
  rintro e w3 ⟨v3, x3, s3, rfl, hrep, hrd3, hrs, hbu⟩
  replace hrep := hrep.base EE_base SZ.out
  obtain ⟨a3, cc3, hv⟩ := hrep.form
  subst hv
  have hd3 := hid' hrd3
  clear hrd3
  have FX : Fix (w.heap.size + 2) (fun _ => True) (w2.setCell ⟨w.heap.size + 1, 2, none⟩ (.slice a2 x2.length cc2)) w3 := Fix.of_but hbu (by omega)
  replace RB := hid' (RB.out.but hbu hrg)
  replace BA := hid' (BA.out.but hbu (by omega))
  replace BB := hid' (BB.out.but hbu (by omega))
  have f3 := BB.out.frozen 3
  have d3 : w3.cell? ⟨w.heap.size + 1, 3, none⟩ = some (.slice none 0 0) := BB.out.cell 3
  replace RB := hid' (RB.out.setOther (b' := w.heap.size + 1) (i := 3) (v := .slice a3 x3.length cc3) (by omega))
  replace BA := hid' (BA.out.setOther (b' := w.heap.size + 1) (i := 3) (v := .slice a3 x3.length cc3) (by omega))
  replace BB : Hid (Bx (w3.setCell ⟨w.heap.size + 1, 3, none⟩ (.slice a3 x3.length cc3)) (w.heap.size + 1) #[.int .i64 x0, .slice a1 x1.length cc1, .slice a2 x2.length cc2, .slice a3 x3.length cc3, .slice none 0 0, .int .i64 0, .int .i64 0, .int .i64 0, .int .i64 0] 44) := (BB.out.setCell (i := 3) (v := .slice a3 x3.length cc3) : _)
  replace RS := hid' (hrs.set (b := w.heap.size + 1) (i := 3) (v := .slice a3 x3.length cc3) (by omega))
  replace BT := hid' ((BT.out.keep (hbu.below (by have := SZ.out; omega))).keep ((Below.refl g w3).setCell (p := ⟨w.heap.size + 1, 3, none⟩) (by show g ≤ w.heap.size + 1; omega) (.slice a3 x3.length cc3)))
  replace SZ : Hid (w.heap.size + 2 ≤ (w3.setCell ⟨w.heap.size + 1, 3, none⟩ (.slice a3 x3.length cc3)).heap.size) := (Nat.le_trans SZ.out (Nat.le_trans hbu.size (But.setCell (w.heap.size + 1) 3 w3 (.slice a3 x3.length cc3)).size) : _ ≤ _)
  replace BU := hid' ((BU.out.trans hbu).setNew (b := w.heap.size + 1) (i := 3) (v := .slice a3 x3.length cc3) (by omega))
  have FY := FX.trans (Fix.set (b := w.heap.size + 1) (i := 3) (v := .slice a3 x3.length cc3) (by omega))
  replace RR1 := hid' (RR1.out.fix EI_lasts FY trivial (fun _ _ => trivial))
  replace RR2 := hid' (RR2.out.fix EI_lasts FY trivial (fun _ _ => trivial))
  have RR3 := hid' (hrep.fix EE_lasts (Fix.set (b := w.heap.size + 1) (i := 3) (v := .slice a3 x3.length cc3) (by omega)) trivial (fun _ _ => trivial))
  clear hrep
  clear hrs hbu FX FY c3 f2 d2
  have c4 : (w3.setCell ⟨w.heap.size + 1, 3, none⟩ (.slice a3 x3.length cc3)).cell? ⟨rb, 0, none⟩ = some (.pointer (some ⟨g, 0, none⟩)) := RB.out.cell 0
  go_wp2_with fail
  refine (numbers_any (w3.setCell ⟨w.heap.size + 1, 3, none⟩ (.slice a3 x3.length cc3)) g ba cap l _ 16 (by omega) RS.out BT.out hc hl).mono ?_
  rintro e w4 ⟨v4, x4, s4, rfl, hrep, hrd4, hrs, hbu⟩
  replace hrep := hrep.base EI_base SZ.out
  obtain ⟨a4, cc4, hv⟩ := hrep.form
  subst hv
  have hd4 := hid' hrd4
  clear hrd4
  have FX : Fix (w.heap.size + 2) (fun _ => True) (w3.setCell ⟨w.heap.size + 1, 3, none⟩ (.slice a3 x3.length cc3)) w4 := Fix.of_but hbu (by omega)
  replace RB := hid' (RB.out.but hbu hrg)
  replace BA := hid' (BA.out.but hbu (by omega))
  replace BB := hid' (BB.out.but hbu (by omega))
  have f4 := BB.out.frozen 4
  have d4 : w4.cell? ⟨w.heap.size + 1, 4, none⟩ = some (.slice none 0 0) := BB.out.cell 4
  replace RB := hid' (RB.out.setOther (b' := w.heap.size + 1) (i := 4) (v := .slice a4 x4.length cc4) (by omega))
  replace BA := hid' (BA.out.setOther (b' := w.heap.size + 1) (i := 4) (v := .slice a4 x4.length cc4) (by omega))
  replace BB : Hid (Bx (w4.setCell ⟨w.heap.size + 1, 4, none⟩ (.slice a4 x4.length cc4)) (w.heap.size + 1) #[.int .i64 x0, .slice a1 x1.length cc1, .slice a2 x2.length cc2, .slice a3 x3.length cc3, .slice a4 x4.length cc4, .int .i64 0, .int .i64 0, .int .i64 0, .int .i64 0] 44) := (BB.out.setCell (i := 4) (v := .slice a4 x4.length cc4) : _)
  replace RS := hid' (hrs.set (b := w.heap.size + 1) (i := 4) (v := .slice a4 x4.length cc4) (by omega))
  replace BT := hid' ((BT.out.keep (hbu.below (by have := SZ.out; omega))).keep ((Below.refl g w4).setCell (p := ⟨w.heap.size + 1, 4, none⟩) (by show g ≤ w.heap.size + 1; omega) (.slice a4 x4.length cc4)))
  replace SZ : Hid (w.heap.size + 2 ≤ (w4.setCell ⟨w.heap.size + 1, 4, none⟩ (.slice a4 x4.length cc4)).heap.size) := (Nat.le_trans SZ.out (Nat.le_trans hbu.size (But.setCell (w.heap.size + 1) 4 w4 (.slice a4 x4.length cc4)).size) : _ ≤ _)
  replace BU := hid' ((BU.out.trans hbu).setNew (b := w.heap.size + 1) (i := 4) (v := .slice a4 x4.length cc4) (by omega))
  have FY := FX.trans (Fix.set (b := w.heap.size + 1) (i := 4) (v := .slice a4 x4.length cc4) (by omega))
  replace RR1 := hid' (RR1.out.fix EI_lasts FY trivial (fun _ _ => trivial))
  replace RR2 := hid' (RR2.out.fix EI_lasts FY trivial (fun _ _ => trivial))
  replace RR3 := hid' (RR3.out.fix EE_lasts FY trivial (fun _ _ => trivial))
  have RR4 := hid' (hrep.fix EI_lasts (Fix.set (b := w.heap.size + 1) (i := 4) (v := .slice a4 x4.length cc4) (by omega)) trivial (fun _ _ => trivial))
  clear hrep
  clear hrs hbu FX FY c4 f3 d3
  have c5 : (w4.setCell ⟨w.heap.size + 1, 4, none⟩ (.slice a4 x4.length cc4)).cell? ⟨rb, 0, none⟩ = some (.pointer (some ⟨g, 0, none⟩)) := RB.out.cell 0
  go_wp2_with fail
  refine (number_any (w4.setCell ⟨w.heap.size + 1, 4, none⟩ (.slice a4 x4.length cc4)) g ba cap l _ RS.out BT.out hc hl).mono ?_
  rintro e w5 ⟨x5, s5, rfl, hrd5, hrs, hbu⟩
  have hd5 := hid' hrd5
  clear hrd5
  have FX : Fix (w.heap.size + 2) (fun _ => True) (w4.setCell ⟨w.heap.size + 1, 4, none⟩ (.slice a4 x4.length cc4)) w5 := Fix.of_but hbu (by omega)
  replace RB := hid' (RB.out.but hbu hrg)
  replace BA := hid' (BA.out.but hbu (by omega))
  replace BB := hid' (BB.out.but hbu (by omega))
  have f5 := BB.out.frozen 5
  have d5 : w5.cell? ⟨w.heap.size + 1, 5, none⟩ = some (.int .i64 0) := BB.out.cell 5
  replace RB := hid' (RB.out.setOther (b' := w.heap.size + 1) (i := 5) (v := .int .i64 x5) (by omega))
  replace BA := hid' (BA.out.setOther (b' := w.heap.size + 1) (i := 5) (v := .int .i64 x5) (by omega))
  replace BB : Hid (Bx (w5.setCell ⟨w.heap.size + 1, 5, none⟩ (.int .i64 x5)) (w.heap.size + 1) #[.int .i64 x0, .slice a1 x1.length cc1, .slice a2 x2.length cc2, .slice a3 x3.length cc3, .slice a4 x4.length cc4, .int .i64 x5, .int .i64 0, .int .i64 0, .int .i64 0] 44) := (BB.out.setCell (i := 5) (v := .int .i64 x5) : _)
  replace RS := hid' (hrs.set (b := w.heap.size + 1) (i := 5) (v := .int .i64 x5) (by omega))
  replace BT := hid' ((BT.out.keep (hbu.below (by have := SZ.out; omega))).keep ((Below.refl g w5).setCell (p := ⟨w.heap.size + 1, 5, none⟩) (by show g ≤ w.heap.size + 1; omega) (.int .i64 x5)))
  replace SZ : Hid (w.heap.size + 2 ≤ (w5.setCell ⟨w.heap.size + 1, 5, none⟩ (.int .i64 x5)).heap.size) := (Nat.le_trans SZ.out (Nat.le_trans hbu.size (But.setCell (w.heap.size + 1) 5 w5 (.int .i64 x5)).size) : _ ≤ _)
  replace BU := hid' ((BU.out.trans hbu).setNew (b := w.heap.size + 1) (i := 5) (v := .int .i64 x5) (by omega))
  have FY := FX.trans (Fix.set (b := w.heap.size + 1) (i := 5) (v := .int .i64 x5) (by omega))
  replace RR1 := hid' (RR1.out.fix EI_lasts FY trivial (fun _ _ => trivial))
  replace RR2 := hid' (RR2.out.fix EI_lasts FY trivial (fun _ _ => trivial))
  replace RR3 := hid' (RR3.out.fix EE_lasts FY trivial (fun _ _ => trivial))
  replace RR4 := hid' (RR4.out.fix EI_lasts FY trivial (fun _ _ => trivial))
  clear hrs hbu FX FY c5 f4 d4
  have c6 : (w5.setCell ⟨w.heap.size + 1, 5, none⟩ (.int .i64 x5)).cell? ⟨rb, 0, none⟩ = some (.pointer (some ⟨g, 0, none⟩)) := RB.out.cell 0
  go_wp2_with fail
  refine (number_any (w5.setCell ⟨w.heap.size + 1, 5, none⟩ (.int .i64 x5)) g ba cap l _ RS.out BT.out hc hl).mono ?_
  rintro e w6 ⟨x6, s6, rfl, hrd6, hrs, hbu⟩
  have hd6 := hid' hrd6
  clear hrd6
  have FX : Fix (w.heap.size + 2) (fun _ => True) (w5.setCell ⟨w.heap.size + 1, 5, none⟩ (.int .i64 x5)) w6 := Fix.of_but hbu (by omega)
  replace RB := hid' (RB.out.but hbu hrg)
  replace BA := hid' (BA.out.but hbu (by omega))
  replace BB := hid' (BB.out.but hbu (by omega))
  have f6 := BB.out.frozen 6
  have d6 : w6.cell? ⟨w.heap.size + 1, 6, none⟩ = some (.int .i64 0) := BB.out.cell 6
  replace RB := hid' (RB.out.setOther (b' := w.heap.size + 1) (i := 6) (v := .int .i64 x6) (by omega))
  replace BA := hid' (BA.out.setOther (b' := w.heap.size + 1) (i := 6) (v := .int .i64 x6) (by omega))
  replace BB : Hid (Bx (w6.setCell ⟨w.heap.size + 1, 6, none⟩ (.int .i64 x6)) (w.heap.size + 1) #[.int .i64 x0, .slice a1 x1.length cc1, .slice a2 x2.length cc2, .slice a3 x3.length cc3, .slice a4 x4.length cc4, .int .i64 x5, .int .i64 x6, .int .i64 0, .int .i64 0] 44) := (BB.out.setCell (i := 6) (v := .int .i64 x6) : _)
  replace RS := hid' (hrs.set (b := w.heap.size + 1) (i := 6) (v := .int .i64 x6) (by omega))
  replace BT := hid' ((BT.out.keep (hbu.below (by have := SZ.out; omega))).keep ((Below.refl g w6).setCell (p := ⟨w.heap.size + 1, 6, none⟩) (by show g ≤ w.heap.size + 1; omega) (.int .i64 x6)))
  replace SZ : Hid (w.heap.size + 2 ≤ (w6.setCell ⟨w.heap.size + 1, 6, none⟩ (.int .i64 x6)).heap.size) := (Nat.le_trans SZ.out (Nat.le_trans hbu.size (But.setCell (w.heap.size + 1) 6 w6 (.int .i64 x6)).size) : _ ≤ _)
  replace BU := hid' ((BU.out.trans hbu).setNew (b := w.heap.size + 1) (i := 6) (v := .int .i64 x6) (by omega))
  have FY := FX.trans (Fix.set (b := w.heap.size + 1) (i := 6) (v := .int .i64 x6) (by omega))
  replace RR1 := hid' (RR1.out.fix EI_lasts FY trivial (fun _ _ => trivial))
  replace RR2 := hid' (RR2.out.fix EI_lasts FY trivial (fun _ _ => trivial))
  replace RR3 := hid' (RR3.out.fix EE_lasts FY trivial (fun _ _ => trivial))
  replace RR4 := hid' (RR4.out.fix EI_lasts FY trivial (fun _ _ => trivial))
  clear hrs hbu FX FY c6 f5 d5
  have c7 : (w6.setCell ⟨w.heap.size + 1, 6, none⟩ (.int .i64 x6)).cell? ⟨rb, 0, none⟩ = some (.pointer (some ⟨g, 0, none⟩)) := RB.out.cell 0
  go_wp2_with fail
  refine (number_any (w6.setCell ⟨w.heap.size + 1, 6, none⟩ (.int .i64 x6)) g ba cap l _ RS.out BT.out hc hl).mono ?_
  rintro e w7 ⟨x7, s7, rfl, hrd7, hrs, hbu⟩
  have hd7 := hid' hrd7
  clear hrd7
  have FX : Fix (w.heap.size + 2) (fun _ => True) (w6.setCell ⟨w.heap.size + 1, 6, none⟩ (.int .i64 x6)) w7 := Fix.of_but hbu (by omega)
  replace RB := hid' (RB.out.but hbu hrg)
  replace BA := hid' (BA.out.but hbu (by omega))
  replace BB := hid' (BB.out.but hbu (by omega))
  have f7 := BB.out.frozen 7
  have d7 : w7.cell? ⟨w.heap.size + 1, 7, none⟩ = some (.int .i64 0) := BB.out.cell 7
  replace RB := hid' (RB.out.setOther (b' := w.heap.size + 1) (i := 7) (v := .int .i64 x7) (by omega))
  replace BA := hid' (BA.out.setOther (b' := w.heap.size + 1) (i := 7) (v := .int .i64 x7) (by omega))
  replace BB : Hid (Bx (w7.setCell ⟨w.heap.size + 1, 7, none⟩ (.int .i64 x7)) (w.heap.size + 1) #[.int .i64 x0, .slice a1 x1.length cc1, .slice a2 x2.length cc2, .slice a3 x3.length cc3, .slice a4 x4.length cc4, .int .i64 x5, .int .i64 x6, .int .i64 x7, .int .i64 0] 44) := (BB.out.setCell (i := 7) (v := .int .i64 x7) : _)
  replace RS := hid' (hrs.set (b := w.heap.size + 1) (i := 7) (v := .int .i64 x7) (by omega))
  replace BT := hid' ((BT.out.keep (hbu.below (by have := SZ.out; omega))).keep ((Below.refl g w7).setCell (p := ⟨w.heap.size + 1, 7, none⟩) (by show g ≤ w.heap.size + 1; omega) (.int .i64 x7)))
  replace SZ : Hid (w.heap.size + 2 ≤ (w7.setCell ⟨w.heap.size + 1, 7, none⟩ (.int .i64 x7)).heap.size) := (Nat.le_trans SZ.out (Nat.le_trans hbu.size (But.setCell (w.heap.size + 1) 7 w7 (.int .i64 x7)).size) : _ ≤ _)
  replace BU := hid' ((BU.out.trans hbu).setNew (b := w.heap.size + 1) (i := 7) (v := .int .i64 x7) (by omega))
  have FY := FX.trans (Fix.set (b := w.heap.size + 1) (i := 7) (v := .int .i64 x7) (by omega))
  replace RR1 := hid' (RR1.out.fix EI_lasts FY trivial (fun _ _ => trivial))
  replace RR2 := hid' (RR2.out.fix EI_lasts FY trivial (fun _ _ => trivial))
  replace RR3 := hid' (RR3.out.fix EE_lasts FY trivial (fun _ _ => trivial))
  replace RR4 := hid' (RR4.out.fix EI_lasts FY trivial (fun _ _ => trivial))
  clear hrs hbu FX FY c7 f6 d6
  have c8 : (w7.setCell ⟨w.heap.size + 1, 7, none⟩ (.int .i64 x7)).cell? ⟨rb, 0, none⟩ = some (.pointer (some ⟨g, 0, none⟩)) := RB.out.cell 0
  go_wp2_with fail
  refine (number_any (w7.setCell ⟨w.heap.size + 1, 7, none⟩ (.int .i64 x7)) g ba cap l _ RS.out BT.out hc hl).mono ?_
  rintro e w8 ⟨x8, s8, rfl, hrd8, hrs, hbu⟩
  have hd8 := hid' hrd8
  clear hrd8
  have FX : Fix (w.heap.size + 2) (fun _ => True) (w7.setCell ⟨w.heap.size + 1, 7, none⟩ (.int .i64 x7)) w8 := Fix.of_but hbu (by omega)
  replace RB := hid' (RB.out.but hbu hrg)
  replace BA := hid' (BA.out.but hbu (by omega))
  replace BB := hid' (BB.out.but hbu (by omega))
  have f8 := BB.out.frozen 8
  have d8 : w8.cell? ⟨w.heap.size + 1, 8, none⟩ = some (.int .i64 0) := BB.out.cell 8
  replace RB := hid' (RB.out.setOther (b' := w.heap.size + 1) (i := 8) (v := .int .i64 x8) (by omega))
  replace BA := hid' (BA.out.setOther (b' := w.heap.size + 1) (i := 8) (v := .int .i64 x8) (by omega))
  replace BB : Hid (Bx (w8.setCell ⟨w.heap.size + 1, 8, none⟩ (.int .i64 x8)) (w.heap.size + 1) #[.int .i64 x0, .slice a1 x1.length cc1, .slice a2 x2.length cc2, .slice a3 x3.length cc3, .slice a4 x4.length cc4, .int .i64 x5, .int .i64 x6, .int .i64 x7, .int .i64 x8] 44) := (BB.out.setCell (i := 8) (v := .int .i64 x8) : _)
  replace RS := hid' (hrs.set (b := w.heap.size + 1) (i := 8) (v := .int .i64 x8) (by omega))
  replace BT := hid' ((BT.out.keep (hbu.below (by have := SZ.out; omega))).keep ((Below.refl g w8).setCell (p := ⟨w.heap.size + 1, 8, none⟩) (by show g ≤ w.heap.size + 1; omega) (.int .i64 x8)))
  replace SZ : Hid (w.heap.size + 2 ≤ (w8.setCell ⟨w.heap.size + 1, 8, none⟩ (.int .i64 x8)).heap.size) := (Nat.le_trans SZ.out (Nat.le_trans hbu.size (But.setCell (w.heap.size + 1) 8 w8 (.int .i64 x8)).size) : _ ≤ _)
  replace BU := hid' ((BU.out.trans hbu).setNew (b := w.heap.size + 1) (i := 8) (v := .int .i64 x8) (by omega))
  have FY := FX.trans (Fix.set (b := w.heap.size + 1) (i := 8) (v := .int .i64 x8) (by omega))
  replace RR1 := hid' (RR1.out.fix EI_lasts FY trivial (fun _ _ => trivial))
  replace RR2 := hid' (RR2.out.fix EI_lasts FY trivial (fun _ _ => trivial))
  replace RR3 := hid' (RR3.out.fix EE_lasts FY trivial (fun _ _ => trivial))
  replace RR4 := hid' (RR4.out.fix EI_lasts FY trivial (fun _ _ => trivial))
  clear hrs hbu FX FY c8 f7 d7
  have c9 : (w8.setCell ⟨w.heap.size + 1, 8, none⟩ (.int .i64 x8)).cell? ⟨rb, 0, none⟩ = some (.pointer (some ⟨g, 0, none⟩)) := RB.out.cell 0
  have p0 : (w8.setCell ⟨w.heap.size + 1, 8, none⟩ (.int .i64 x8)).cell? ⟨w.heap.size + 1, 0, none⟩ = some (.int .i64 x0) := BB.out.cell 0
  have p1 : (w8.setCell ⟨w.heap.size + 1, 8, none⟩ (.int .i64 x8)).cell? ⟨w.heap.size + 1, 1, none⟩ = some (.slice a1 x1.length cc1) := BB.out.cell 1
  have p2 : (w8.setCell ⟨w.heap.size + 1, 8, none⟩ (.int .i64 x8)).cell? ⟨w.heap.size + 1, 2, none⟩ = some (.slice a2 x2.length cc2) := BB.out.cell 2
  have p3 : (w8.setCell ⟨w.heap.size + 1, 8, none⟩ (.int .i64 x8)).cell? ⟨w.heap.size + 1, 3, none⟩ = some (.slice a3 x3.length cc3) := BB.out.cell 3
  have p4 : (w8.setCell ⟨w.heap.size + 1, 8, none⟩ (.int .i64 x8)).cell? ⟨w.heap.size + 1, 4, none⟩ = some (.slice a4 x4.length cc4) := BB.out.cell 4
  have p5 : (w8.setCell ⟨w.heap.size + 1, 8, none⟩ (.int .i64 x8)).cell? ⟨w.heap.size + 1, 5, none⟩ = some (.int .i64 x5) := BB.out.cell 5
  have p6 : (w8.setCell ⟨w.heap.size + 1, 8, none⟩ (.int .i64 x8)).cell? ⟨w.heap.size + 1, 6, none⟩ = some (.int .i64 x6) := BB.out.cell 6
  have p7 : (w8.setCell ⟨w.heap.size + 1, 8, none⟩ (.int .i64 x8)).cell? ⟨w.heap.size + 1, 7, none⟩ = some (.int .i64 x7) := BB.out.cell 7
  have p8 : (w8.setCell ⟨w.heap.size + 1, 8, none⟩ (.int .i64 x8)).cell? ⟨w.heap.size + 1, 8, none⟩ = some (.int .i64 x8) := BB.out.cell 8
  have BR : Hid (Bx ((w8.setCell ⟨w.heap.size + 1, 8, none⟩ (.int .i64 x8)).setRow w.heap.size #[.int .i64 x0, .slice a1 x1.length cc1, .slice a2 x2.length cc2, .slice a3 x3.length cc3, .slice a4 x4.length cc4, .int .i64 x5, .int .i64 x6, .int .i64 x7, .int .i64 x8]) w.heap.size #[.int .i64 x0, .slice a1 x1.length cc1, .slice a2 x2.length cc2, .slice a3 x3.length cc3, .slice a4 x4.length cc4, .int .i64 x5, .int .i64 x6, .int .i64 x7, .int .i64 x8] 44) := BA.out.set
  have q0 : ((w8.setCell ⟨w.heap.size + 1, 8, none⟩ (.int .i64 x8)).setRow w.heap.size #[.int .i64 x0, .slice a1 x1.length cc1, .slice a2 x2.length cc2, .slice a3 x3.length cc3, .slice a4 x4.length cc4, .int .i64 x5, .int .i64 x6, .int .i64 x7, .int .i64 x8]).cell? ⟨w.heap.size, 0, none⟩ = some (.int .i64 x0) := BR.out.cell 0
  have q1 : ((w8.setCell ⟨w.heap.size + 1, 8, none⟩ (.int .i64 x8)).setRow w.heap.size #[.int .i64 x0, .slice a1 x1.length cc1, .slice a2 x2.length cc2, .slice a3 x3.length cc3, .slice a4 x4.length cc4, .int .i64 x5, .int .i64 x6, .int .i64 x7, .int .i64 x8]).cell? ⟨w.heap.size, 1, none⟩ = some (.slice a1 x1.length cc1) := BR.out.cell 1
  have q2 : ((w8.setCell ⟨w.heap.size + 1, 8, none⟩ (.int .i64 x8)).setRow w.heap.size #[.int .i64 x0, .slice a1 x1.length cc1, .slice a2 x2.length cc2, .slice a3 x3.length cc3, .slice a4 x4.length cc4, .int .i64 x5, .int .i64 x6, .int .i64 x7, .int .i64 x8]).cell? ⟨w.heap.size, 2, none⟩ = some (.slice a2 x2.length cc2) := BR.out.cell 2
  have q3 : ((w8.setCell ⟨w.heap.size + 1, 8, none⟩ (.int .i64 x8)).setRow w.heap.size #[.int .i64 x0, .slice a1 x1.length cc1, .slice a2 x2.length cc2, .slice a3 x3.length cc3, .slice a4 x4.length cc4, .int .i64 x5, .int .i64 x6, .int .i64 x7, .int .i64 x8]).cell? ⟨w.heap.size, 3, none⟩ = some (.slice a3 x3.length cc3) := BR.out.cell 3
  have q4 : ((w8.setCell ⟨w.heap.size + 1, 8, none⟩ (.int .i64 x8)).setRow w.heap.size #[.int .i64 x0, .slice a1 x1.length cc1, .slice a2 x2.length cc2, .slice a3 x3.length cc3, .slice a4 x4.length cc4, .int .i64 x5, .int .i64 x6, .int .i64 x7, .int .i64 x8]).cell? ⟨w.heap.size, 4, none⟩ = some (.slice a4 x4.length cc4) := BR.out.cell 4
  have q5 : ((w8.setCell ⟨w.heap.size + 1, 8, none⟩ (.int .i64 x8)).setRow w.heap.size #[.int .i64 x0, .slice a1 x1.length cc1, .slice a2 x2.length cc2, .slice a3 x3.length cc3, .slice a4 x4.length cc4, .int .i64 x5, .int .i64 x6, .int .i64 x7, .int .i64 x8]).cell? ⟨w.heap.size, 5, none⟩ = some (.int .i64 x5) := BR.out.cell 5
  have q6 : ((w8.setCell ⟨w.heap.size + 1, 8, none⟩ (.int .i64 x8)).setRow w.heap.size #[.int .i64 x0, .slice a1 x1.length cc1, .slice a2 x2.length cc2, .slice a3 x3.length cc3, .slice a4 x4.length cc4, .int .i64 x5, .int .i64 x6, .int .i64 x7, .int .i64 x8]).cell? ⟨w.heap.size, 6, none⟩ = some (.int .i64 x6) := BR.out.cell 6
  have q7 : ((w8.setCell ⟨w.heap.size + 1, 8, none⟩ (.int .i64 x8)).setRow w.heap.size #[.int .i64 x0, .slice a1 x1.length cc1, .slice a2 x2.length cc2, .slice a3 x3.length cc3, .slice a4 x4.length cc4, .int .i64 x5, .int .i64 x6, .int .i64 x7, .int .i64 x8]).cell? ⟨w.heap.size, 7, none⟩ = some (.int .i64 x7) := BR.out.cell 7
  have q8 : ((w8.setCell ⟨w.heap.size + 1, 8, none⟩ (.int .i64 x8)).setRow w.heap.size #[.int .i64 x0, .slice a1 x1.length cc1, .slice a2 x2.length cc2, .slice a3 x3.length cc3, .slice a4 x4.length cc4, .int .i64 x5, .int .i64 x6, .int .i64 x7, .int .i64 x8]).cell? ⟨w.heap.size, 8, none⟩ = some (.int .i64 x8) := BR.out.cell 8
  have hone : (#[.int .i64 x0, .slice a1 x1.length cc1, .slice a2 x2.length cc2, .slice a3 x3.length cc3, .slice a4 x4.length cc4, .int .i64 x5, .int .i64 x6, .int .i64 x7, .int .i64 x8] : Array Value).all (·.oneCell') = true := by simp [Value.oneCell']
  have FW : Fix (w.heap.size + 2) (fun _ => True) (w8.setCell ⟨w.heap.size + 1, 8, none⟩ (.int .i64 x8)) ((w8.setCell ⟨w.heap.size + 1, 8, none⟩ (.int .i64 x8)).setRow w.heap.size #[.int .i64 x0, .slice a1 x1.length cc1, .slice a2 x2.length cc2, .slice a3 x3.length cc3, .slice a4 x4.length cc4, .int .i64 x5, .int .i64 x6, .int .i64 x7, .int .i64 x8]) := Fix.row (by omega)
  have HF : Hid (NAns 55 w g ba cap l s (.returned (.agg #[.int .i64 x0, .slice a1 x1.length cc1, .slice a2 x2.length cc2, .slice a3 x3.length cc3, .slice a4 x4.length cc4, .int .i64 x5, .int .i64 x6, .int .i64 x7, .int .i64 x8])) ((w8.setCell ⟨w.heap.size + 1, 8, none⟩ (.int .i64 x8)).setRow w.heap.size #[.int .i64 x0, .slice a1 x1.length cc1, .slice a2 x2.length cc2, .slice a3 x3.length cc3, .slice a4 x4.length cc4, .int .i64 x5, .int .i64 x6, .int .i64 x7, .int .i64 x8])) := ⟨⟨x0, x1, x2, x3, x4, x5, x6, x7, x8⟩, _, _, _, _, s8, rfl, ⟨(RR1.out.fix EI_lasts FW trivial (fun _ _ => trivial)).base EI_base (by omega), (RR2.out.fix EI_lasts FW trivial (fun _ _ => trivial)).base EI_base (by omega), (RR3.out.fix EE_lasts FW trivial (fun _ _ => trivial)).base EE_base (by omega), (RR4.out.fix EI_lasts FW trivial (fun _ _ => trivial)).base EI_base (by omega)⟩, rd_node hd0.out hd1.out hd2.out hd3.out hd4.out hd5.out hd6.out hd7.out hd8.out, RS.out.row (by omega), BU.out.rowNew (Nat.le_refl _)⟩
  clear FW RR1 RR2 RR3 RR4
  clear c9 RB RS BT SZ BU BB FF
  go_wp2_with (refine wpList_store_row rfl 44 (.tmp 1) (.tmp 30) rfl w.heap.size #[.int .i64 x0, .slice a1 x1.length cc1, .slice a2 x2.length cc2, .slice a3 x3.length cc3, .slice a4 x4.length cc4, .int .i64 x5, .int .i64 x6, .int .i64 x7, .int .i64 x8] rfl rfl 44 _ BA.out (by kernel_rfl) rfl hone ?_)
  (try simp only [Exit.inBlock, Exit.then])
  refine bodyPost_ret (v := .agg #[.int .i64 x0, .slice a1 x1.length cc1, .slice a2 x2.length cc2, .slice a3 x3.length cc3, .slice a4 x4.length cc4, .int .i64 x5, .int .i64 x6, .int .i64 x7, .int .i64 x8]) ?_ rfl HF.out
  unfold results
  go_simp

theorem Try.info_node : (Try.prog.info? 44).map (fun i => (i.zero, i.size, i.bytes)) = some (some (.agg #[.int .i64 0, .slice none 0 0, .slice none 0 0, .slice none 0 0, .slice none 0 0, .int .i64 0, .int .i64 0, .int .i64 0, .int .i64 0]), 9, 136) := by kernel_rfl

set_option maxHeartbeats 4000000 in
theorem listNodes_any (w : World) (g : Nat) (ba : Option Addr) (cap : Nat) (l : List Int) (s : Option (List Int)) (most : Nat) (hm : most ≤ 64) (rb : Nat) (hrb : Bx w rb #[.pointer (some ⟨g, 0, none⟩)] 53) (hrg : rb ≠ g) (hr : RdS 55 w g ba cap l s) (hb : Bts g w ba l) (hc : l.length ≤ cap) (hl : l.length ≤ 1000000000) :
    Calls Try.prog 50 #[.pointer (some ⟨g, 0, none⟩), .int .i64 (most : Int), .func (.func 51) #[] #[.pointer (some ⟨rb, 0, none⟩)]] w (LAns RNodes nodeB NdOK most 55 w g ba cap l s) := by
  obtain ⟨iE, hiE, hz0, hz1, hz2⟩ := info_parts Try.info_node
  have hgl := hr.lt
  have H := hid' (count_any w g ba cap l s most hm hr hb hc hl)
  have HB := hid' hb
  have HRB := hid' hrb
  clear hb hr hrb
  go_enter Try.func50, Try.ntmps50
  go_wp2_with fail
  refine H.out.mono ?_
  rintro e w1 ⟨n, s1, rfl, hn, hrd, hrs, hbut⟩
  have hs1 := hbut.size
  go_wp2_with (refine wpList_make_own _ rfl _ _ 22 rfl w.heap.size 44 iE (.agg #[.int .i64 0, .slice none 0 0, .slice none 0 0, .slice none 0 0, .slice none 0 0, .int .i64 0, .int .i64 0, .int .i64 0, .int .i64 0]) 9 Try.underlying22 hiE hz0 hz1 .i64 .i64 _ n rfl rfl rfl (by rw [hz2]; omega) (by unfold maxLen; omega) hs1 ?_; intro w2 hmade hgrow)
  have I0 : Hid (LLoop 44 9 EN n0 nodeB NdOK most n 55 w g ba cap l s n (.slice (some ⟨w1.heap.size, 0, none⟩) 0 n) w2) := ⟨[], s1, w1.heap.size, n, rfl, by simp, Row.nil hmade, RdL.start hrd, hrs.grown hgrow (by simp), hbut.grown hgrow (by simp)⟩
  clear hmade hgrow hrd hrs hbut H hs1
  go_loopg [8] n (fun k v wr => LLoop 44 9 EN n0 nodeB NdOK most n 55 w g ba cap l s k v wr)
  case atStart => exact I0.out
  case round =>
    clear I0
    obtain ⟨xs, s2, gb, cb, rfl, hk, hrow, hrl, hrs, hbut⟩ := hrel
    have hsz := hbut.size
    obtain ⟨m, hm2⟩ : ∃ m, xs.length = m := ⟨_, rfl⟩
    have HM := hid' hm2
    cases gk with
    | zero =>
      have HF : Hid (LAns RNodes nodeB NdOK most 55 w g ba cap l s (.returned (.slice (some ⟨gb, 0, none⟩) xs.length cb)) wr) := ⟨_, xs, s2, rfl, hrow, hrl.done (.inr (by omega)), hrs, hbut⟩
      have hmn : m = n := by omega
      rw [hm2] at HF ⊢
      clear hrow hrl hrs hbut hk hm2
      subst hmn
      go_wp2
      go_ret
      exact HF.out
    | succ k =>
      have hmn : m < n := by omega
      cases s2 with
      | none =>
        have HF : Hid (LAns RNodes nodeB NdOK most 55 w g ba cap l s (.returned (.slice (some ⟨gb, 0, none⟩) xs.length cb)) wr) := ⟨_, xs, none, rfl, hrow, hrl.done (.inl rfl), hrs, hbut⟩
        have c2 : wr.cell? ⟨g, 2, none⟩ = some (.bool true) := by
          obtain ⟨a, _, ⟨r, h, _⟩ | ⟨_, h⟩⟩ := hrs
          · cases h
          · exact h.cell 2
        rw [hm2] at HF ⊢
        clear hrow hrl hrs hbut hk hm2
        go_wp2
        go_ret
        exact HF.out
      | some r2 =>
        have c2 : wr.cell? ⟨g, 2, none⟩ = some (.bool false) := by
          obtain ⟨a, _, ⟨r, _, _, h⟩ | ⟨h, _⟩⟩ := hrs
          · exact h.cell 2
          · cases h
        have H1 := hid' (plan1_any wr g ba cap l (some r2) rb (HRB.out.but hbut hrg) hrg hrs (HB.out.keep (hbut.below (by omega))) hc hl)
        have HROW := hid' hrow
        have HRL := hid' hrl
        have HBT := hid' hbut
        have HK := hid' hk
        rw [hm2]
        clear hrow hrl hrs hbut hk hm2
        go_wp2_with fail
        refine H1.out.mono ?_
        rintro e w3 ⟨x, v1, v2, v3, v4, s3, rfl, hrep3, hrd3, hrs3, hbut3⟩
        obtain ⟨ss, rfl, rfl, rfl, rfl, _⟩ := hrep3.r
        simp only [nd9]
        have BA := (Below.refl _ w3).alloc (Nat.le_refl _) (Obj.cells #[.int .i64 x.kind, .slice ss.a1 x.ins.length ss.c1, .slice ss.a2 x.kinds.length ss.c2, .slice ss.a3 x.exprs.length ss.c3, .slice ss.a4 x.cols.length ss.c4, .int .i64 x.key, .int .i64 x.n, .int .i64 x.size, .int .i64 x.slide] 44)
        obtain ⟨cs, hcs1, hcs2⟩ := HROW.out
        rw [HM.out] at hcs1
        have F3 : Fix w.heap.size (fun _ => True) wr (w3.alloc (Obj.cells #[.int .i64 x.kind, .slice ss.a1 x.ins.length ss.c1, .slice ss.a2 x.kinds.length ss.c2, .slice ss.a3 x.exprs.length ss.c3, .slice ss.a4 x.cols.length ss.c4, .int .i64 x.key, .int .i64 x.n, .int .i64 x.size, .int .i64 x.slide] 44)) := Fix.of_but (hbut3.trans (But.of_below BA)) hgl
        have HO := hid' (own_fix hcs1 F3 trivial)
        have HE : Hid (∀ i, i < xs.length → EN w.heap.size (w3.alloc (Obj.cells #[.int .i64 x.kind, .slice ss.a1 x.ins.length ss.c1, .slice ss.a2 x.kinds.length ss.c2, .slice ss.a3 x.exprs.length ss.c3, .slice ss.a4 x.cols.length ss.c4, .int .i64 x.key, .int .i64 x.n, .int .i64 x.size, .int .i64 x.slide] 44)) (xs.getD i n0) (cs i)) := fun i hi => EN_lasts _ _ _ _ _ _ (hcs2 i hi) F3 (fun _ _ => trivial)
        have HX : Hid (EN w.heap.size (w3.alloc (Obj.cells #[.int .i64 x.kind, .slice ss.a1 x.ins.length ss.c1, .slice ss.a2 x.kinds.length ss.c2, .slice ss.a3 x.exprs.length ss.c3, .slice ss.a4 x.cols.length ss.c4, .int .i64 x.key, .int .i64 x.n, .int .i64 x.size, .int .i64 x.slide] 44)) x (#[.int .i64 x.kind, .slice ss.a1 x.ins.length ss.c1, .slice ss.a2 x.kinds.length ss.c2, .slice ss.a3 x.exprs.length ss.c3, .slice ss.a4 x.cols.length ss.c4, .int .i64 x.key, .int .i64 x.n, .int .i64 x.size, .int .i64 x.slide]).toList) := ⟨_, _, _, _, rfl, (hrep3.base hsz).fix (Fix.of_but (ok := fun _ => True) (But.of_below (g := g) BA) hgl) (fun _ _ => trivial)⟩
        have HRS := hid' (hrs3.keep BA)
        have HBW := hid' ((HBT.out.trans hbut3).trans (But.of_below BA))
        have HRD := hid' hrd3
        have hs3 : w.heap.size ≤ w3.heap.size := (HBT.out.trans hbut3).size
        clear hrs3 hbut3 hrd3 F3 BA hcs1 hcs2 H1 HROW hrep3
        go_wp2_with (first
          | (at_builtin; refine wpList_append_own _ rfl (.tmp 25) (.tmp 28) 22 rfl w.heap.size 44 iE (.agg #[.int .i64 0, .slice none 0 0, .slice none 0 0, .slice none 0 0, .slice none 0 0, .int .i64 0, .int .i64 0, .int .i64 0, .int .i64 0]) 9 136 Try.underlying22 hiE hz0 hz1 hz2 rfl (by decide) (.slice (some ⟨gb, 0, none⟩) m cb) m ((List.range m).flatMap cs) rfl HO.out ⟨w3.heap.size, 0, none⟩ 1 1 (#[.int .i64 x.kind, .slice ss.a1 x.ins.length ss.c1, .slice ss.a2 x.kinds.length ss.c2, .slice ss.a3 x.exprs.length ss.c3, .slice ss.a4 x.cols.length ss.c4, .int .i64 x.key, .int .i64 x.n, .int .i64 x.size, .int .i64 x.slide]).toList rfl rfl (new_cells w3 _ _) (by intro u hu; simp at hu; rcases hu with rfl | rfl | rfl | rfl | rfl | rfl | rfl | rfl | rfl <;> rfl) (by unfold maxLen; omega) (by omega) (by simp; omega) ?_; intro v4 w4 hown4 hgrow4 hnil4))
        have R : Hid (LLoop 44 9 EN n0 nodeB NdOK most n 55 w g ba cap l s k v4 w4) := LLoop.step EN_lasts (fun t h => by rcases h with h | h | h <;> rw [h] <;> decide) pf_node HK.out hgl (by rw [HM.out]; exact HO.out) HE.out HX.out hgrow4 (by rw [HM.out]; exact hown4) HRL.out HRD.out HRS.out HBW.out
        clear hown4 hgrow4 hnil4 HE HX HRS HBW HRD HO
        obtain ⟨gb4, cb4, n4, hv4⟩ : ∃ gb4 cb4 n4, v4 = .slice (some ⟨gb4, 0, none⟩) n4 cb4 := by obtain ⟨_, _, a, b, h, _⟩ := R.out; exact ⟨a, b, _, h⟩
        subst hv4
        go_wp2
        go_roundg k
        case measure => omega
        case rel => exact R.out

/-- A plan's bytes behind the mark. -/
def plB (p : Pl) : List Int := oneB p.room ++ (listB oneB p.outs ++ listB nodeB p.nodes)

theorem rd_plan {s s0 s1 s2 : Option (List Int)} {x0 : Int} {x1 : List Int} {x2 : List Nd} (h0 : Rd oneB R64 s x0 s0) (h1 : Rd (listB oneB) (LD 8 R64) s0 x1 s1) (h2 : Rd (listB nodeB) (LD 64 NdOK) s1 x2 s2) : Rd plB PlOK s ⟨x2, x1, x0⟩ s2 :=
  Rd.seq pf_one (fun p : Pl => p.room) (fun p => (p.outs, p.nodes)) (fun _ h => h.room) (fun _ h => ⟨⟨h.m2, h.outs⟩, ⟨h.m1, h.nodes⟩⟩) (fun _ => rfl) rfl rfl (fun a b => ⟨b.2.2, b.2.1, b.1.1, b.1.2, a⟩) h0 (rd_pair (pf_nums 8) h1 h2)

/-- What a call answers that reads a plan. -/
def PAns (ty : TypeId) (w : World) (g : Nat) (ba : Option Addr) (cap : Nat) (l : List Int) (s : Option (List Int)) (e : Ending) (w' : World) : Prop :=
  ∃ (p : Pl) (v1 v2 : Value) (s' : Option (List Int)), e = .returned (.agg #[v1, v2, .int .i64 p.room]) ∧ RNodes w.heap.size w' v1 p.nodes ∧ RInts w.heap.size w' v2 p.outs ∧ Rd plB PlOK s p s' ∧ RdS ty w' g ba cap l s' ∧ But g w w'

set_option maxHeartbeats 8000000 in
theorem plan_any (wS : World) (g : Nat) (ba : Option Addr) (cap : Nat) (l : List Int) (s : Option (List Int)) (hr0 : RdS 55 wS g ba cap l s) (hb0 : Bts g wS ba l) (hc : l.length ≤ cap) (hl : l.length ≤ 1000000000) :
    Calls Try.prog 25 #[.pointer (some ⟨g, 0, none⟩)] wS (PAns 55 wS g ba cap l s) := by
  have hg0 := hr0.lt
  have BW : Below wS.heap.size wS (wS.alloc (Obj.cells #[.pointer (some ⟨g, 0, none⟩)] 53)) := (Below.refl _ wS).alloc (Nat.le_refl _) _
  have hrb := Bx.new wS #[.pointer (some ⟨g, 0, none⟩)] 53
  have hr := hr0.keep BW
  have hb := hb0.keep (BW.mono (Nat.le_of_lt hg0))
  have HZ := hid' (sz1 wS (Obj.cells #[.pointer (some ⟨g, 0, none⟩)] 53))
  have HB0 := hid' BW
  obtain ⟨w, hw⟩ : ∃ w, wS.alloc (Obj.cells #[.pointer (some ⟨g, 0, none⟩)] 53) = w := ⟨_, rfl⟩
  rw [hw] at hrb hr hb HZ HB0
  have HW := hid' hw
  have hzz : wS.heap.size + 1 = w.heap.size := HZ.out.symm
  obtain ⟨rb, hrbe⟩ : ∃ rb, wS.heap.size = rb := ⟨_, rfl⟩
  rw [hrbe] at hrb
  have hrg : rb ≠ g := by omega
  have HRE := hid' hrbe
  clear hw hr0 hb0 BW hzz
  have hgl := hr.lt
  have hrl := hrb.lt
  have B0 : Below w.heap.size w ((w.alloc (Obj.cells #[.slice none 0 0, .slice none 0 0, .int .i64 0] 25)).alloc (Obj.cells #[.slice none 0 0, .slice none 0 0, .int .i64 0] 25)) := ((Below.refl _ w).alloc (Nat.le_refl _) _).alloc (by simp) _
  have RB := hid' (hrb.keep B0)
  have RS := hid' (hr.keep B0)
  have BU := hid' (But.of_below (g := g) B0)
  have BT := hid' (hb.keep (B0.mono (Nat.le_of_lt hgl)))
  have BA := hid' ((Bx.new w #[.slice none 0 0, .slice none 0 0, .int .i64 0] 25).keep ((Below.refl _ _).alloc (Nat.le_refl _) (Obj.cells #[.slice none 0 0, .slice none 0 0, .int .i64 0] 25)))
  have BB := hid' (Bx.new (w.alloc (Obj.cells #[.slice none 0 0, .slice none 0 0, .int .i64 0] 25)) #[.slice none 0 0, .slice none 0 0, .int .i64 0] 25)
  have FF := hid' (Fix.refl (w.heap.size + 2) ((w.alloc (Obj.cells #[.slice none 0 0, .slice none 0 0, .int .i64 0] 25)).alloc (Obj.cells #[.slice none 0 0, .slice none 0 0, .int .i64 0] 25)))
  have SZ : Hid (w.heap.size + 2 ≤ ((w.alloc (Obj.cells #[.slice none 0 0, .slice none 0 0, .int .i64 0] 25)).alloc (Obj.cells #[.slice none 0 0, .slice none 0 0, .int .i64 0] 25)).heap.size) := (by simp : _ ≤ _)
  rw [sz1] at BB
  have c0 : ((w.alloc (Obj.cells #[.slice none 0 0, .slice none 0 0, .int .i64 0] 25)).alloc (Obj.cells #[.slice none 0 0, .slice none 0 0, .int .i64 0] 25)).cell? ⟨rb, 0, none⟩ = some (.pointer (some ⟨g, 0, none⟩)) := RB.out.cell 0
  clear hrb hr hb B0
  have hmf := run_mkf
  go_enter Try.func25, Try.ntmps25
  go_wp2_with fail
  simp only [HW.out, HRE.out, show rb + 1 = w.heap.size from by rw [← HRE.out]; exact HZ.out.symm]
  refine (number_any ((w.alloc (Obj.cells #[.slice none 0 0, .slice none 0 0, .int .i64 0] 25)).alloc (Obj.cells #[.slice none 0 0, .slice none 0 0, .int .i64 0] 25)) g ba cap l _ RS.out BT.out hc hl).mono ?_
  rintro e w0 ⟨x0, s0, rfl, hrd0, hrs, hbu⟩
  have hd0 := hid' hrd0
  clear hrd0
  have FX : Fix (w.heap.size + 2) (fun _ => True) ((w.alloc (Obj.cells #[.slice none 0 0, .slice none 0 0, .int .i64 0] 25)).alloc (Obj.cells #[.slice none 0 0, .slice none 0 0, .int .i64 0] 25)) w0 := Fix.of_but hbu (by omega)
  replace RB := hid' (RB.out.but hbu hrg)
  replace BA := hid' (BA.out.but hbu (by omega))
  replace BB := hid' (BB.out.but hbu (by omega))
  have f0 := BB.out.frozen 2
  have d0 : w0.cell? ⟨w.heap.size + 1, 2, none⟩ = some (.int .i64 0) := BB.out.cell 2
  replace RB := hid' (RB.out.setOther (b' := w.heap.size + 1) (i := 2) (v := .int .i64 x0) (by omega))
  replace BA := hid' (BA.out.setOther (b' := w.heap.size + 1) (i := 2) (v := .int .i64 x0) (by omega))
  replace BB : Hid (Bx (w0.setCell ⟨w.heap.size + 1, 2, none⟩ (.int .i64 x0)) (w.heap.size + 1) #[.slice none 0 0, .slice none 0 0, .int .i64 x0] 25) := (BB.out.setCell (i := 2) (v := .int .i64 x0) : _)
  replace RS := hid' (hrs.set (b := w.heap.size + 1) (i := 2) (v := .int .i64 x0) (by omega))
  replace BT := hid' ((BT.out.keep (hbu.below (by have := SZ.out; omega))).keep ((Below.refl g w0).setCell (p := ⟨w.heap.size + 1, 2, none⟩) (by show g ≤ w.heap.size + 1; omega) (.int .i64 x0)))
  replace SZ : Hid (w.heap.size + 2 ≤ (w0.setCell ⟨w.heap.size + 1, 2, none⟩ (.int .i64 x0)).heap.size) := (Nat.le_trans SZ.out (Nat.le_trans hbu.size (But.setCell (w.heap.size + 1) 2 w0 (.int .i64 x0)).size) : _ ≤ _)
  replace BU := hid' ((BU.out.trans hbu).setNew (b := w.heap.size + 1) (i := 2) (v := .int .i64 x0) (by omega))
  have FY := FX.trans (Fix.set (b := w.heap.size + 1) (i := 2) (v := .int .i64 x0) (by omega))
  clear hrs hbu FX FY c0
  have c1 : (w0.setCell ⟨w.heap.size + 1, 2, none⟩ (.int .i64 x0)).cell? ⟨rb, 0, none⟩ = some (.pointer (some ⟨g, 0, none⟩)) := RB.out.cell 0
  go_wp2_with fail
  refine (numbers_any (w0.setCell ⟨w.heap.size + 1, 2, none⟩ (.int .i64 x0)) g ba cap l _ 8 (by omega) RS.out BT.out hc hl).mono ?_
  rintro e w1 ⟨v1, x1, s1, rfl, hrep, hrd1, hrs, hbu⟩
  replace hrep := hrep.base EI_base SZ.out
  obtain ⟨a1, cc1, hv⟩ := hrep.form
  subst hv
  have hd1 := hid' hrd1
  clear hrd1
  have FX : Fix (w.heap.size + 2) (fun _ => True) (w0.setCell ⟨w.heap.size + 1, 2, none⟩ (.int .i64 x0)) w1 := Fix.of_but hbu (by omega)
  replace RB := hid' (RB.out.but hbu hrg)
  replace BA := hid' (BA.out.but hbu (by omega))
  replace BB := hid' (BB.out.but hbu (by omega))
  have f1 := BB.out.frozen 1
  have d1 : w1.cell? ⟨w.heap.size + 1, 1, none⟩ = some (.slice none 0 0) := BB.out.cell 1
  replace RB := hid' (RB.out.setOther (b' := w.heap.size + 1) (i := 1) (v := .slice a1 x1.length cc1) (by omega))
  replace BA := hid' (BA.out.setOther (b' := w.heap.size + 1) (i := 1) (v := .slice a1 x1.length cc1) (by omega))
  replace BB : Hid (Bx (w1.setCell ⟨w.heap.size + 1, 1, none⟩ (.slice a1 x1.length cc1)) (w.heap.size + 1) #[.slice none 0 0, .slice a1 x1.length cc1, .int .i64 x0] 25) := (BB.out.setCell (i := 1) (v := .slice a1 x1.length cc1) : _)
  replace RS := hid' (hrs.set (b := w.heap.size + 1) (i := 1) (v := .slice a1 x1.length cc1) (by omega))
  replace BT := hid' ((BT.out.keep (hbu.below (by have := SZ.out; omega))).keep ((Below.refl g w1).setCell (p := ⟨w.heap.size + 1, 1, none⟩) (by show g ≤ w.heap.size + 1; omega) (.slice a1 x1.length cc1)))
  replace SZ : Hid (w.heap.size + 2 ≤ (w1.setCell ⟨w.heap.size + 1, 1, none⟩ (.slice a1 x1.length cc1)).heap.size) := (Nat.le_trans SZ.out (Nat.le_trans hbu.size (But.setCell (w.heap.size + 1) 1 w1 (.slice a1 x1.length cc1)).size) : _ ≤ _)
  replace BU := hid' ((BU.out.trans hbu).setNew (b := w.heap.size + 1) (i := 1) (v := .slice a1 x1.length cc1) (by omega))
  have FY := FX.trans (Fix.set (b := w.heap.size + 1) (i := 1) (v := .slice a1 x1.length cc1) (by omega))
  have RR1 := hid' (hrep.fix EI_lasts (Fix.set (b := w.heap.size + 1) (i := 1) (v := .slice a1 x1.length cc1) (by omega)) trivial (fun _ _ => trivial))
  clear hrep
  clear hrs hbu FX FY c1 f0 d0
  have c2 : (w1.setCell ⟨w.heap.size + 1, 1, none⟩ (.slice a1 x1.length cc1)).cell? ⟨rb, 0, none⟩ = some (.pointer (some ⟨g, 0, none⟩)) := RB.out.cell 0
  go_wp2_with fail
  refine (listNodes_any (w1.setCell ⟨w.heap.size + 1, 1, none⟩ (.slice a1 x1.length cc1)) g ba cap l _ 64 (by omega) rb RB.out hrg RS.out BT.out hc hl).mono ?_
  rintro e w2 ⟨v2, x2, s2, rfl, hrep, hrd2, hrs, hbu⟩
  replace hrep := hrep.base EN_base SZ.out
  obtain ⟨a2, cc2, hv⟩ := hrep.form
  subst hv
  have hd2 := hid' hrd2
  clear hrd2
  have FX : Fix (w.heap.size + 2) (fun _ => True) (w1.setCell ⟨w.heap.size + 1, 1, none⟩ (.slice a1 x1.length cc1)) w2 := Fix.of_but hbu (by omega)
  replace RB := hid' (RB.out.but hbu hrg)
  replace BA := hid' (BA.out.but hbu (by omega))
  replace BB := hid' (BB.out.but hbu (by omega))
  have f2 := BB.out.frozen 0
  have d2 : w2.cell? ⟨w.heap.size + 1, 0, none⟩ = some (.slice none 0 0) := BB.out.cell 0
  replace RB := hid' (RB.out.setOther (b' := w.heap.size + 1) (i := 0) (v := .slice a2 x2.length cc2) (by omega))
  replace BA := hid' (BA.out.setOther (b' := w.heap.size + 1) (i := 0) (v := .slice a2 x2.length cc2) (by omega))
  replace BB : Hid (Bx (w2.setCell ⟨w.heap.size + 1, 0, none⟩ (.slice a2 x2.length cc2)) (w.heap.size + 1) #[.slice a2 x2.length cc2, .slice a1 x1.length cc1, .int .i64 x0] 25) := (BB.out.setCell (i := 0) (v := .slice a2 x2.length cc2) : _)
  replace RS := hid' (hrs.set (b := w.heap.size + 1) (i := 0) (v := .slice a2 x2.length cc2) (by omega))
  replace BT := hid' ((BT.out.keep (hbu.below (by have := SZ.out; omega))).keep ((Below.refl g w2).setCell (p := ⟨w.heap.size + 1, 0, none⟩) (by show g ≤ w.heap.size + 1; omega) (.slice a2 x2.length cc2)))
  replace SZ : Hid (w.heap.size + 2 ≤ (w2.setCell ⟨w.heap.size + 1, 0, none⟩ (.slice a2 x2.length cc2)).heap.size) := (Nat.le_trans SZ.out (Nat.le_trans hbu.size (But.setCell (w.heap.size + 1) 0 w2 (.slice a2 x2.length cc2)).size) : _ ≤ _)
  replace BU := hid' ((BU.out.trans hbu).setNew (b := w.heap.size + 1) (i := 0) (v := .slice a2 x2.length cc2) (by omega))
  have FY := FX.trans (Fix.set (b := w.heap.size + 1) (i := 0) (v := .slice a2 x2.length cc2) (by omega))
  replace RR1 := hid' (RR1.out.fix EI_lasts FY trivial (fun _ _ => trivial))
  have RR2 := hid' (hrep.fix EN_lasts (Fix.set (b := w.heap.size + 1) (i := 0) (v := .slice a2 x2.length cc2) (by omega)) trivial (fun _ _ => trivial))
  clear hrep
  clear hrs hbu FX FY c2 f1 d1
  have c3 : (w2.setCell ⟨w.heap.size + 1, 0, none⟩ (.slice a2 x2.length cc2)).cell? ⟨rb, 0, none⟩ = some (.pointer (some ⟨g, 0, none⟩)) := RB.out.cell 0
  have p0 : (w2.setCell ⟨w.heap.size + 1, 0, none⟩ (.slice a2 x2.length cc2)).cell? ⟨w.heap.size + 1, 0, none⟩ = some (.slice a2 x2.length cc2) := BB.out.cell 0
  have p1 : (w2.setCell ⟨w.heap.size + 1, 0, none⟩ (.slice a2 x2.length cc2)).cell? ⟨w.heap.size + 1, 1, none⟩ = some (.slice a1 x1.length cc1) := BB.out.cell 1
  have p2 : (w2.setCell ⟨w.heap.size + 1, 0, none⟩ (.slice a2 x2.length cc2)).cell? ⟨w.heap.size + 1, 2, none⟩ = some (.int .i64 x0) := BB.out.cell 2
  have BR : Hid (Bx ((w2.setCell ⟨w.heap.size + 1, 0, none⟩ (.slice a2 x2.length cc2)).setRow w.heap.size #[.slice a2 x2.length cc2, .slice a1 x1.length cc1, .int .i64 x0]) w.heap.size #[.slice a2 x2.length cc2, .slice a1 x1.length cc1, .int .i64 x0] 25) := BA.out.set
  have q0 : ((w2.setCell ⟨w.heap.size + 1, 0, none⟩ (.slice a2 x2.length cc2)).setRow w.heap.size #[.slice a2 x2.length cc2, .slice a1 x1.length cc1, .int .i64 x0]).cell? ⟨w.heap.size, 0, none⟩ = some (.slice a2 x2.length cc2) := BR.out.cell 0
  have q1 : ((w2.setCell ⟨w.heap.size + 1, 0, none⟩ (.slice a2 x2.length cc2)).setRow w.heap.size #[.slice a2 x2.length cc2, .slice a1 x1.length cc1, .int .i64 x0]).cell? ⟨w.heap.size, 1, none⟩ = some (.slice a1 x1.length cc1) := BR.out.cell 1
  have q2 : ((w2.setCell ⟨w.heap.size + 1, 0, none⟩ (.slice a2 x2.length cc2)).setRow w.heap.size #[.slice a2 x2.length cc2, .slice a1 x1.length cc1, .int .i64 x0]).cell? ⟨w.heap.size, 2, none⟩ = some (.int .i64 x0) := BR.out.cell 2
  have hone : (#[.slice a2 x2.length cc2, .slice a1 x1.length cc1, .int .i64 x0] : Array Value).all (·.oneCell') = true := by simp [Value.oneCell']
  have FW : Fix (w.heap.size + 2) (fun _ => True) (w2.setCell ⟨w.heap.size + 1, 0, none⟩ (.slice a2 x2.length cc2)) ((w2.setCell ⟨w.heap.size + 1, 0, none⟩ (.slice a2 x2.length cc2)).setRow w.heap.size #[.slice a2 x2.length cc2, .slice a1 x1.length cc1, .int .i64 x0]) := Fix.row (by omega)
  have hwz : wS.heap.size ≤ w.heap.size := HB0.out.size
  have HF : Hid (PAns 55 wS g ba cap l s (.returned (.agg #[.slice a2 x2.length cc2, .slice a1 x1.length cc1, .int .i64 x0])) ((w2.setCell ⟨w.heap.size + 1, 0, none⟩ (.slice a2 x2.length cc2)).setRow w.heap.size #[.slice a2 x2.length cc2, .slice a1 x1.length cc1, .int .i64 x0])) := ⟨⟨x2, x1, x0⟩, _, _, s2, rfl, (RR2.out.fix EN_lasts FW trivial (fun _ _ => trivial)).base EN_base (by omega), (RR1.out.fix EI_lasts FW trivial (fun _ _ => trivial)).base EI_base (by omega), rd_plan hd0.out hd1.out hd2.out, RS.out.row (by omega), (But.of_below HB0.out).trans (BU.out.rowNew (Nat.le_refl _))⟩
  clear FW RR1 RR2 hwz
  clear c3 RB RS BT SZ BU BB FF
  go_wp2_with (refine wpList_store_row rfl 25 (.tmp 2) (.tmp 14) rfl w.heap.size #[.slice a2 x2.length cc2, .slice a1 x1.length cc1, .int .i64 x0] rfl rfl 25 _ BA.out (by kernel_rfl) rfl hone ?_)
  (try simp only [Exit.inBlock, Exit.then])
  refine bodyPost_ret (v := .agg #[.slice a2 x2.length cc2, .slice a1 x1.length cc1, .int .i64 x0]) ?_ rfl HF.out
  unfold results
  go_simp

end Go.Proofs.Ytjpjeledbjpaeaa
