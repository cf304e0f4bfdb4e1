/-
  What is proved here: the document's numbers and steps are read into new memory.
-/
import Derived.Test.YtjpjeledbjpaeaaRRdr
namespace Go.Proofs.Ytjpjeledbjpaeaa
open Go.RowKit Go.Proofs
set_option maxRecDepth 20000
set_option linter.unusedVariables false
set_option linter.unusedSimpArgs false

/-- What holds in a loop of the document's that reads a list: k things are still to come. -/
def DLoop {α : Type} (e sz : Nat) (E : Nat → World → α → List Value → Prop) (d : α) (f : α → List Int) (D : α → Prop) (most n : Nat) (ty : TypeId) (w : World) (g : Nat) (ba : Option Addr) (cap : Nat) (l : List Int) (s : Option (List Int)) (k : Nat) (v i : Value) (wr : World) : Prop :=
  ∃ xs s1 a cb, v = .slice a xs.length cb ∧ i = .int .i64 (k : Int) ∧ xs.length + k = n ∧ Row e sz E d w.heap.size wr v xs ∧ RdL f D most n s xs s1 ∧ RdS ty wr g ba cap l s1 ∧ But g w wr

theorem DLoop.step {α : Type} {e sz : Nat} {E : Nat → World → α → List Value → Prop} {d : α} {need : TypeId → Prop} (hE : ELasts E need) (hne : ∀ t, need t → t ≠ e) {f : α → List Int} {D : α → Prop} (hf : PF f D) {most n : Nat} {ty : TypeId} {w : World} {g : Nat} {ba : Option Addr} {cap : Nat} {l : List Int} {s s1 s2 : Option (List Int)} {k : Nat} {v v' : Value} {w3 w4 : World} {xs : List α} {x : α} {c : List Value} {cs : Nat → List Value}
    (hk : xs.length + (k + 1) = n) (hg : g < w.heap.size) (h1 : w3.ownsRow w.heap.size e sz v xs.length ((List.range xs.length).flatMap cs)) (h2 : ∀ i, i < xs.length → E w.heap.size w3 (xs.getD i d) (cs i)) (hx : E w.heap.size w3 x c) (hgr : w3.grownBy w4 v.ownBlock) (ho : w4.ownsRow w.heap.size e sz v' (xs.length + 1) ((List.range xs.length).flatMap cs ++ c))
    (hrl : RdL f D most n s xs s1) (hrd : Rd f D s1 x s2) (hrs : RdS ty w3 g ba cap l s2) (hb : But g w w3) : DLoop e sz E d f D most n ty w g ba cap l s k v' (.int .i64 (k : Int)) w4 := by
  obtain ⟨xs', s', gb, cb, h⟩ := LLoop.step hE hne hf hk hg h1 h2 hx hgr ho hrl hrd hrs hb
  obtain ⟨e1, e2, e3⟩ := h
  exact ⟨xs', s', some ⟨gb, 0, none⟩, cb, e1, rfl, e2, e3⟩

theorem own_nil (base e sz : Nat) (w : World) : w.ownsRow base e sz (.slice none 0 0) 0 [] := ⟨by simp, .inl ⟨rfl, rfl⟩⟩

theorem Rd.any {α : Type} {f : α → List Int} {D : α → Prop} {s : Option (List Int)} {x : α} (y : α) (h : Rd f D s x none) : Rd f D s y none := by
  cases s with
  | none => trivial
  | some r => exact h

set_option maxHeartbeats 4000000 in
theorem rnumbers_any (w : World) (g : Nat) (ba : Option Addr) (cap : Nat) (l : List Int) (s : Option (List Int)) (most : Nat) (hm : most ≤ 64) (hr : RdS 67 w g ba cap l s) (hb : Bts g w ba l) (hc : l.length ≤ cap) (hl : l.length ≤ 1000000000) :
    Calls Try.prog 32 #[.pointer (some ⟨g, 0, none⟩), .int .i64 (most : Int)] w (LAns RInts oneB R64 most 67 w g ba cap l s) := by
  obtain ⟨iE, hiE, hz0, hz1, hz2⟩ := info_parts Try.info_int
  have hgl := hr.lt
  have H := hid' (rcount_any w g ba cap l s most hm hr hb hc hl)
  have HB := hid' hb
  clear hb hr
  go_enter Try.func32, Try.ntmps32
  go_wp2_with fail
  refine H.out.mono ?_
  rintro e w1 ⟨n, s1, rfl, hn, hrd, hrs, hbut⟩
  have I0 : Hid (DLoop 3 1 EI 0 oneB R64 most n 67 w g ba cap l s n (.slice none 0 0) (.int .i64 (n : Int)) w1) := ⟨[], s1, none, 0, rfl, rfl, by simp, Row.nil (own_nil _ _ _ _), RdL.start hrd, hrs, hbut⟩
  clear hrd hrs hbut H
  go_wp2
  go_loopg [5, 6] n (fun k v i wr => DLoop 3 1 EI 0 oneB R64 most n 67 w g ba cap l s k v i wr)
  case atStart => exact I0.out
  case round =>
    clear I0
    obtain ⟨xs, s2, a0, cb, rfl, rfl, hk, hrow, hrl, hrs, hbut⟩ := hrel
    have hsz := hbut.size
    obtain ⟨m, hm2⟩ : ∃ m, xs.length = m := ⟨_, rfl⟩
    have HM := hid' hm2
    cases gk with
    | zero =>
      have HF : Hid (LAns RInts oneB R64 most 67 w g ba cap l s (.returned (.slice a0 xs.length cb)) wr) := ⟨_, xs, s2, rfl, hrow, hrl.done (.inr (by omega)), hrs, hbut⟩
      rw [hm2] at HF ⊢
      clear hrow hrl hrs hbut hk hm2
      go_wp2
      go_ret
      exact HF.out
    | succ k =>
      cases s2 with
      | none =>
        have HF : Hid (LAns RInts oneB R64 most 67 w g ba cap l s (.returned (.slice a0 xs.length cb)) wr) := ⟨_, xs, none, rfl, hrow, hrl.done (.inl rfl), hrs, hbut⟩
        have c2 : wr.cell? ⟨g, 2, none⟩ = some (.bool true) := by
          obtain ⟨a, _, ⟨r, h, _⟩ | ⟨_, h⟩⟩ := hrs
          · cases h
          · exact h.cell 2
        have hpos : (0 : Int) < ((k + 1 : Nat) : Int) := by omega
        rw [hm2] at HF ⊢
        clear hrow hrl hrs hbut hk hm2
        go_wp2
        go_ret
        exact HF.out
      | some r2 =>
        have c2 : wr.cell? ⟨g, 2, none⟩ = some (.bool false) := by
          obtain ⟨a, _, ⟨r, _, _, h⟩ | ⟨h, _⟩⟩ := hrs
          · exact h.cell 2
          · cases h
        have hpos : (0 : Int) < ((k + 1 : Nat) : Int) := by omega
        have H1 := hid' (rnumber_any wr g ba cap l (some r2) hrs (HB.out.keep (hbut.below (by omega))) hc hl)
        have HROW := hid' hrow
        have HRL := hid' hrl
        have HBT := hid' hbut
        have HK := hid' hk
        rw [hm2]
        have hmk : m + (k + 1) = n := by omega
        clear hrow hrl hrs hbut hk hm2
        go_wp2_with fail
        refine H1.out.mono ?_
        rintro e w3 ⟨x, s3, rfl, hrd3, hrs3, hbut3⟩
        have BA := (Below.refl _ w3).alloc (Nat.le_refl _) (Obj.cells #[.int .i64 x] 3)
        obtain ⟨cs, hcs1, hcs2⟩ := HROW.out
        rw [HM.out] at hcs1
        have F3 : Fix w.heap.size (fun _ => True) wr (w3.alloc (Obj.cells #[.int .i64 x] 3)) := Fix.of_but (hbut3.trans (But.of_below BA)) hgl
        have HO := hid' (own_fix hcs1 F3 trivial)
        have HE : Hid (∀ i, i < xs.length → EI w.heap.size (w3.alloc (Obj.cells #[.int .i64 x] 3)) (xs.getD i 0) (cs i)) := fun i hi => EI_lasts _ _ _ _ _ _ (hcs2 i hi) F3 (fun _ _ => trivial)
        have HX : Hid (EI w.heap.size (w3.alloc (Obj.cells #[.int .i64 x] 3)) x (#[.int .i64 x] : Array Value).toList) := rfl
        have HRS := hid' (hrs3.keep BA)
        have HBW := hid' ((HBT.out.trans hbut3).trans (But.of_below BA))
        have HRD := hid' hrd3
        have hs3 : w.heap.size ≤ w3.heap.size := (HBT.out.trans hbut3).size
        clear hrs3 hbut3 hrd3 F3 BA hcs1 hcs2 H1 HROW
        go_wp2_with (first
          | (at_builtin; refine wpList_append_own _ rfl (.tmp 21) (.tmp 24) 23 rfl w.heap.size 3 iE (.int .i64 0) 1 8 Try.underlying23 hiE hz0 hz1 hz2 rfl (by decide) (.slice a0 m cb) m ((List.range m).flatMap cs) rfl HO.out ⟨w3.heap.size, 0, none⟩ 1 1 (#[.int .i64 x] : Array Value).toList rfl rfl (new_cells w3 _ _) (by intro u hu; simp at hu; rcases hu with rfl; rfl) (by unfold maxLen; omega) (by omega) (by simp; omega) ?_; intro v4 w4 hown4 hgrow4 hnil4))
        have R : Hid (DLoop 3 1 EI 0 oneB R64 most n 67 w g ba cap l s k v4 (.int .i64 (k : Int)) w4) := DLoop.step EI_lasts (fun _ h => h.elim) pf_one HK.out hgl (by rw [HM.out]; exact HO.out) HE.out HX.out hgrow4 (by rw [HM.out]; exact hown4) HRL.out HRD.out HRS.out HBW.out
        clear hown4 hgrow4 hnil4 HE HX HRS HBW HRD HO
        obtain ⟨a4, cb4, n4, hv4⟩ : ∃ a4 cb4 n4, v4 = .slice a4 n4 cb4 := by obtain ⟨_, _, a, b, h, _⟩ := R.out; exact ⟨a, b, _, h⟩
        subst hv4
        have hk1 : ((k + 1 : Nat) : Int) - 1 = (k : Int) := by omega
        go_wp2
        go_roundg k
        case measure => omega
        case rel => first | exact R.out | (rw [hk1]; exact R.out) | (simp only [hk1]; exact R.out) | (have h := R.out; simpa using h)

set_option maxHeartbeats 8000000 in
theorem rsteps_any (w : World) (g : Nat) (ba : Option Addr) (cap : Nat) (l : List Int) (s : Option (List Int)) (hr : RdS 67 w g ba cap l s) (hb : Bts g w ba l) (hc : l.length ≤ cap) (hl : l.length ≤ 1000000000) :
    Calls Try.prog 34 #[.pointer (some ⟨g, 0, none⟩)] w (LAns RTerms stepB TOK 64 67 w g ba cap l s) := by
  obtain ⟨iE, hiE, hz0, hz1, hz2⟩ := info_parts Try.info_term
  have hgl := hr.lt
  have HBY : Hid (Byt l) := hb.range
  have H := hid' (rcount_any w g ba cap l s 64 (by omega) hr hb hc hl)
  have HB := hid' hb
  clear hb hr
  go_enter Try.func34, Try.ntmps34
  go_wp2_with fail
  refine H.out.mono ?_
  rintro e w1 ⟨n, s1, rfl, hn, hrd, hrs, hbut⟩
  have I0 : Hid (DLoop 64 3 ET d0 stepB TOK 64 n 67 w g ba cap l s n (.slice none 0 0) (.int .i64 (n : Int)) w1) := ⟨[], s1, none, 0, rfl, rfl, by simp, Row.nil (own_nil _ _ _ _), RdL.start hrd, hrs, hbut⟩
  clear hrd hrs hbut H
  go_wp2
  go_loopg [3, 4] n (fun k v i wr => DLoop 64 3 ET d0 stepB TOK 64 n 67 w g ba cap l s k v i wr)
  case atStart => exact I0.out
  case round =>
    clear I0
    obtain ⟨xs, s2, a0, cb, rfl, rfl, hk, hrow, hrl, hrs, hbut⟩ := hrel
    have hsz := hbut.size
    obtain ⟨m, hm2⟩ : ∃ m, xs.length = m := ⟨_, rfl⟩
    have HM := hid' hm2
    cases gk with
    | zero =>
      have HF : Hid (LAns RTerms stepB TOK 64 67 w g ba cap l s (.returned (.slice a0 xs.length cb)) wr) := ⟨_, xs, s2, rfl, hrow, hrl.done (.inr (by omega)), hrs, hbut⟩
      rw [hm2] at HF ⊢
      clear hrow hrl hrs hbut hk hm2
      go_wp2
      go_ret
      exact HF.out
    | succ k =>
      cases s2 with
      | none =>
        have HF : Hid (LAns RTerms stepB TOK 64 67 w g ba cap l s (.returned (.slice a0 xs.length cb)) wr) := ⟨_, xs, none, rfl, hrow, hrl.done (.inl rfl), hrs, hbut⟩
        have c2 : wr.cell? ⟨g, 2, none⟩ = some (.bool true) := by
          obtain ⟨a, _, ⟨r, h, _⟩ | ⟨_, h⟩⟩ := hrs
          · cases h
          · exact h.cell 2
        have hpos : (0 : Int) < ((k + 1 : Nat) : Int) := by omega
        rw [hm2] at HF ⊢
        clear hrow hrl hrs hbut hk hm2
        go_wp2
        go_ret
        exact HF.out
      | some r2 =>
        have c2 : wr.cell? ⟨g, 2, none⟩ = some (.bool false) := by
          obtain ⟨a, _, ⟨r, _, _, h⟩ | ⟨h, _⟩⟩ := hrs
          · exact h.cell 2
          · cases h
        have hpos : (0 : Int) < ((k + 1 : Nat) : Int) := by omega
        have hgr : g < wr.heap.size := by omega
        have BTr := hid' (HB.out.keep (hbut.below (by omega)))
        have H1 := hid' (rnumber_any wr g ba cap l (some r2) hrs BTr.out hc hl)
        have HROW := hid' hrow
        have HRL := hid' hrl
        have HBT := hid' hbut
        have HK := hid' hk
        rw [hm2]
        have hmk : m + (k + 1) = n := by omega
        clear hrow hrl hrs hbut hk hm2
        go_wp2_with fail
        refine H1.out.mono ?_
        rintro e w3 ⟨x0, s3, rfl, hrd0, hrs3, hbut3⟩
        have hz3 := hbut3.size
        have BA : Below w3.heap.size w3 (w3.alloc (Obj.cells #[.int .i64 x0, .int .i64 0, .string ⟨#[]⟩] 64)) := (Below.refl _ w3).alloc (Nat.le_refl _) _
        have BT4 := hid' (Bx.new w3 #[.int .i64 x0, .int .i64 0, .string ⟨#[]⟩] 64)
        have BU4 := hid' (hbut3.trans (But.of_below BA))
        have hs4 : wr.heap.size ≤ (w3.alloc (Obj.cells #[.int .i64 x0, .int .i64 0, .string ⟨#[]⟩] 64)).heap.size := BU4.out.size
        have BY4 := hid' (BTr.out.keep (BU4.out.below (by omega)))
        have H2 := hid' (rnumber_any (w3.alloc (Obj.cells #[.int .i64 x0, .int .i64 0, .string ⟨#[]⟩] 64)) g ba cap l s3 (hrs3.keep BA) BY4.out hc hl)
        have HD0 := hid' hrd0
        clear hrd0 hrs3 hbut3 BA H1 BTr c2
        go_wp2_with fail
        refine H2.out.mono ?_
        rintro e w5 ⟨x1, s5, rfl, hrd1, hrs5, hbut5⟩
        have BT5 := hid' (BT4.out.but hbut5 (by omega))
        have g1 : w5.cell? ⟨w3.heap.size, 1, none⟩ = some (.int .i64 0) := BT5.out.cell 1
        have f1 := BT5.out.frozen 1
        have BU6 := hid' ((BU4.out.trans hbut5).setNew (b := w3.heap.size) (i := 1) (v := .int .i64 x1) (by omega))
        have BY6 := hid' ((BY4.out.keep (hbut5.below (by omega))).keep ((Below.refl g w5).setCell (p := ⟨w3.heap.size, 1, none⟩) (by show g ≤ w3.heap.size; omega) (.int .i64 x1)))
        have BT6 : Hid (Bx (w5.setCell ⟨w3.heap.size, 1, none⟩ (.int .i64 x1)) w3.heap.size #[.int .i64 x0, .int .i64 x1, .string ⟨#[]⟩] 64) := (BT5.out.setCell (i := 1) (v := .int .i64 x1) : _)
        have hrs6 := hrs5.set (b := w3.heap.size) (i := 1) (v := .int .i64 x1) (by omega)
        have HD1 := hid' hrd1
        obtain ⟨w6, hw6⟩ : ∃ z, w5.setCell ⟨w3.heap.size, 1, none⟩ (.int .i64 x1) = z := ⟨_, rfl⟩
        have HW6 := hid' hw6
        rw [hw6] at BU6 BY6 BT6 hrs6
        have hg6 := hrs6.lt
        have hz6 : w3.heap.size < w6.heap.size := BT6.out.lt
        clear hrd1 hrs5 hbut5 H2 BU4 BY4 BT4 BT5 hw6 hs4
        obtain ⟨at', ha, hs⟩ := hrs6
        obtain ⟨tx, next, er, hrel⟩ := textRel_total l (at' : Int)
        obtain ⟨bad, hbx⟩ : ∃ bad : Bool, Bx w6 g #[.slice ba l.length cap, .int .i64 (at' : Int), .bool bad] 67 := by
          rcases hs with ⟨r, _, _, h⟩ | ⟨_, h⟩
          · exact ⟨_, h⟩
          · exact ⟨_, h⟩
        have HC : Hid (∀ W, Below w6.heap.size w6 W → W.cell? ⟨g, 0, none⟩ = some (.slice ba l.length cap) ∧ W.cell? ⟨g, 1, none⟩ = some (.int .i64 (at' : Int))) := fun W hB => ⟨(hbx.keep hB).cell 0, (hbx.keep hB).cell 1⟩
        have HBT6 : Hid (∀ W, Below w6.heap.size w6 W → Bts W.heap.size W ba l) := fun W hB => (BY6.out.keep (hB.mono (Nat.le_of_lt hg6))).mono (by have := hB.size; omega)
        have HG : Hid (∀ W, Below w6.heap.size w6 W → Calls Try.prog 58 #[.slice ba l.length cap, .int .i64 (at' : Int), .int .i64 4096] W fun e w' => ∃ v, e = .returned v ∧ Below W.heap.size W w' ∧ PB.E (.tuple #[.string (strOfNums tx), .int .i64 next, .int .i64 er]) v w') := fun W hB => (rgetText_any W ba cap l at' 4096 (HBT6.out W hB) hc (by omega) (by omega)).mono (by
          rintro e w' ⟨⟨n', next', er', rfl, h'⟩, hw⟩
          obtain ⟨rfl, rfl, rfl⟩ := hrel.uniq h'
          exact ⟨_, rfl, hw, rfl⟩)
        have HS := hid' hs
        have HREL := hid' hrel
        have TY : Hid (er = 0 → SD (strOfNums tx) ∧ l.drop at' = strB (strOfNums tx) ++ l.drop next.toNat ∧ (next.toNat : Int) = next ∧ next.toNat ≤ l.length) := fun h => text_yes HBY.out (by rw [← h]; exact hrel)
        have TN : Hid (er ≠ 0 → ∀ y r, SD y → l.drop at' ≠ strB y ++ r) := fun h => text_no ha hrel h
        clear hs hbx hrel HREL
        go_wp2_with fail
        rw [HW6.out]
        refine PT.wp_region_tail 16 (PB.phi [PB.E (ptr g), PB.E (ptr g), PB.E (.pointer (some ⟨g, 0, none⟩)), PB.E (.slice ba l.length cap), PB.E (ptr g), PB.E (ptr g), PB.E (.pointer (some ⟨g, 1, none⟩)), PB.E (.int .i64 (at' : Int)), PB.E (.tuple #[.string (strOfNums tx), .int .i64 next, .int .i64 er]), PB.E (.tuple #[.string (strOfNums tx), .int .i64 next, .int .i64 er]), PB.E (.string (strOfNums tx)), PB.E (.int .i64 next), PB.E (.int .i64 er), PB.E (.string (strOfNums tx)), PB.E (.int .i64 next), PB.E (.int .i64 er)]) mixed' (by kernel_rfl)
          (PB.phi_lasts _ ⟨PB.E_lasts _, PB.E_lasts _, PB.E_lasts _, PB.E_lasts _, PB.E_lasts _, PB.E_lasts _, PB.E_lasts _, PB.E_lasts _, PB.E_lasts _, PB.E_lasts _, PB.E_lasts _, PB.E_lasts _, PB.E_lasts _, PB.E_lasts _, PB.E_lasts _, PB.E_lasts _, trivial⟩) ?_ ?_
        · refine ⟨?_, ?_, ?_, ?_, ?_, ?_, ?_, ?_, ?_, ?_, ?_, ?_, ?_, ?_, ?_, ?_, trivial⟩ <;> intro A W hB hS hA hF
          · exact Or.inl (PB.does_move (PB.wanted_free rfl) rfl (hS.slots 0 rfl))
          · exact Or.inl (PB.does_run (PB.wanted_free rfl) (run_nilc W (hA 0 rfl)) rfl)
          · exact Or.inl (PB.does_run (PB.wanted_free rfl) (run_fFrom0 W (hA 1 rfl)) rfl)
          · exact Or.inl (PB.does_run (PB.wanted_free rfl) (run_loadBy W (hA 2 rfl) (HC.out W hB).1) rfl)
          · exact Or.inl (PB.does_move (PB.wanted_free rfl) rfl (hS.slots 0 rfl))
          · exact Or.inl (PB.does_run (PB.wanted_free rfl) (run_nilc W (hA 4 rfl)) rfl)
          · exact Or.inl (PB.does_run (PB.wanted_free rfl) (run_fFrom1 W (hA 5 rfl)) rfl)
          · exact Or.inl (PB.does_run (PB.wanted_free rfl) (run_loadZ W (hA 6 rfl) (HC.out W hB).2) rfl)
          · exact Or.inl (PB.does_call #[.slice ba l.length cap, .int .i64 (at' : Int), .int .i64 4096] (PB.wanted_free rfl) rfl Try.func58 rfl rfl (by show [PB.slot A 32, PB.slot A 36, .int .i64 4096] = _; rw [show PB.slot A 32 = .slice ba l.length cap from hA 3 rfl, show PB.slot A 36 = .int .i64 (at' : Int) from hA 7 rfl]) (HG.out W hB))
          · exact Or.inl (PB.does_move (PB.wanted_free rfl) rfl (hA 8 rfl))
          · exact Or.inl (PB.does_run (PB.wanted_free rfl) (run_ext0 W (hA 9 rfl)) rfl)
          · exact Or.inl (PB.does_run (PB.wanted_free rfl) (run_ext1 W (hA 9 rfl)) rfl)
          · exact Or.inl (PB.does_run (PB.wanted_free rfl) (run_ext2 W (hA 9 rfl)) rfl)
          · exact Or.inl (PB.does_assign (PB.wanted_free rfl) rfl (hA 10 rfl))
          · exact Or.inl (PB.does_assign (PB.wanted_free rfl) rfl (hA 11 rfl))
          · exact Or.inl (PB.does_assign (PB.wanted_free rfl) rfl (hA 12 rfl))
        · intro A W hB hS hL
          have h_29 : PB.slot A 29 = ptr g := hL 0 (by decide)
          have h_30 : PB.slot A 30 = ptr g := hL 1 (by decide)
          have h_31 : PB.slot A 31 = .pointer (some ⟨g, 0, none⟩) := hL 2 (by decide)
          have h_32 : PB.slot A 32 = .slice ba l.length cap := hL 3 (by decide)
          have h_33 : PB.slot A 33 = ptr g := hL 4 (by decide)
          have h_34 : PB.slot A 34 = ptr g := hL 5 (by decide)
          have h_35 : PB.slot A 35 = .pointer (some ⟨g, 1, none⟩) := hL 6 (by decide)
          have h_36 : PB.slot A 36 = .int .i64 (at' : Int) := hL 7 (by decide)
          have h_37 : PB.slot A 37 = .tuple #[.string (strOfNums tx), .int .i64 next, .int .i64 er] := hL 8 (by decide)
          have h_28 : PB.slot A 28 = .tuple #[.string (strOfNums tx), .int .i64 next, .int .i64 er] := hL 9 (by decide)
          have h_38 : PB.slot A 38 = .string (strOfNums tx) := hL 10 (by decide)
          have h_39 : PB.slot A 39 = .int .i64 next := hL 11 (by decide)
          have h_40 : PB.slot A 40 = .int .i64 er := hL 12 (by decide)
          have h_6 : PB.slot A 6 = .string (strOfNums tx) := hL 13 (by decide)
          have h_7 : PB.slot A 7 = .int .i64 next := hL 14 (by decide)
          have h_8 : PB.slot A 8 = .int .i64 er := hL 15 (by decide)
          have q_0 := hS.slots 0 rfl
          have q_1 := hS.slots 1 rfl
          have q_2 := hS.slots 2 rfl
          have q_3 := hS.slots 3 rfl
          have q_4 := hS.slots 4 rfl
          have q_5 := hS.slots 5 rfl
          have q_9 := hS.slots 9 rfl
          have q_10 := hS.slots 10 rfl
          have q_11 := hS.slots 11 rfl
          have q_12 := hS.slots 12 rfl
          have q_13 := hS.slots 13 rfl
          have q_14 := hS.slots 14 rfl
          have q_15 := hS.slots 15 rfl
          have q_16 := hS.slots 16 rfl
          have q_17 := hS.slots 17 rfl
          have q_18 := hS.slots 18 rfl
          have q_19 := hS.slots 19 rfl
          have q_20 := hS.slots 20 rfl
          have q_21 := hS.slots 21 rfl
          have q_22 := hS.slots 22 rfl
          have q_23 := hS.slots 23 rfl
          have q_24 := hS.slots 24 rfl
          have q_25 := hS.slots 25 rfl
          have q_26 := hS.slots 26 rfl
          have q_27 := hS.slots 27 rfl
          have q_41 := hS.slots 41 rfl
          have q_42 := hS.slots 42 rfl
          have q_43 := hS.slots 43 rfl
          have q_44 := hS.slots 44 rfl
          have q_45 := hS.slots 45 rfl
          have q_46 := hS.slots 46 rfl
          have q_47 := hS.slots 47 rfl
          have q_48 := hS.slots 48 rfl
          have q_49 := hS.slots 49 rfl
          have q_50 := hS.slots 50 rfl
          have q_51 := hS.slots 51 rfl
          have q_52 := hS.slots 52 rfl
          have q_53 := hS.slots 53 rfl
          have q_54 := hS.slots 54 rfl
          have q_55 := hS.slots 55 rfl
          have q_56 := hS.slots 56 rfl
          have q_57 := hS.slots 57 rfl
          have q_58 := hS.slots 58 rfl
          have q_59 := hS.slots 59 rfl
          have q_60 := hS.slots 60 rfl
          have q_61 := hS.slots 61 rfl
          have q_62 := hS.slots 62 rfl
          have q_63 := hS.slots 63 rfl
          simp only [PB.slot, Array.getD_eq_getD_getElem?, List.getElem?_toArray, List.getElem?_cons_succ, List.getElem?_cons_zero, Option.getD_some] at q_0 q_1 q_2 q_3 q_4 q_5 q_9 q_10 q_11 q_12 q_13 q_14 q_15 q_16 q_17 q_18 q_19 q_20 q_21 q_22 q_23 q_24 q_25 q_26 q_27 q_41 q_42 q_43 q_44 q_45 q_46 q_47 q_48 q_49 q_50 q_51 q_52 q_53 q_54 q_55 q_56 q_57 q_58 q_59 q_60 q_61 q_62 q_63
          have q_0 := (PT.slot_get A 0).trans q_0
          have q_1 := (PT.slot_get A 1).trans q_1
          have q_2 := (PT.slot_get A 2).trans q_2
          have q_3 := (PT.slot_get A 3).trans q_3
          have q_4 := (PT.slot_get A 4).trans q_4
          have q_5 := (PT.slot_get A 5).trans q_5
          have q_9 := (PT.slot_get A 9).trans q_9
          have q_10 := (PT.slot_get A 10).trans q_10
          have q_11 := (PT.slot_get A 11).trans q_11
          have q_12 := (PT.slot_get A 12).trans q_12
          have q_13 := (PT.slot_get A 13).trans q_13
          have q_14 := (PT.slot_get A 14).trans q_14
          have q_15 := (PT.slot_get A 15).trans q_15
          have q_16 := (PT.slot_get A 16).trans q_16
          have q_17 := (PT.slot_get A 17).trans q_17
          have q_18 := (PT.slot_get A 18).trans q_18
          have q_19 := (PT.slot_get A 19).trans q_19
          have q_20 := (PT.slot_get A 20).trans q_20
          have q_21 := (PT.slot_get A 21).trans q_21
          have q_22 := (PT.slot_get A 22).trans q_22
          have q_23 := (PT.slot_get A 23).trans q_23
          have q_24 := (PT.slot_get A 24).trans q_24
          have q_25 := (PT.slot_get A 25).trans q_25
          have q_26 := (PT.slot_get A 26).trans q_26
          have q_27 := (PT.slot_get A 27).trans q_27
          have q_41 := (PT.slot_get A 41).trans q_41
          have q_42 := (PT.slot_get A 42).trans q_42
          have q_43 := (PT.slot_get A 43).trans q_43
          have q_44 := (PT.slot_get A 44).trans q_44
          have q_45 := (PT.slot_get A 45).trans q_45
          have q_46 := (PT.slot_get A 46).trans q_46
          have q_47 := (PT.slot_get A 47).trans q_47
          have q_48 := (PT.slot_get A 48).trans q_48
          have q_49 := (PT.slot_get A 49).trans q_49
          have q_50 := (PT.slot_get A 50).trans q_50
          have q_51 := (PT.slot_get A 51).trans q_51
          have q_52 := (PT.slot_get A 52).trans q_52
          have q_53 := (PT.slot_get A 53).trans q_53
          have q_54 := (PT.slot_get A 54).trans q_54
          have q_55 := (PT.slot_get A 55).trans q_55
          have q_56 := (PT.slot_get A 56).trans q_56
          have q_57 := (PT.slot_get A 57).trans q_57
          have q_58 := (PT.slot_get A 58).trans q_58
          have q_59 := (PT.slot_get A 59).trans q_59
          have q_60 := (PT.slot_get A 60).trans q_60
          have q_61 := (PT.slot_get A 61).trans q_61
          have q_62 := (PT.slot_get A 62).trans q_62
          have q_63 := (PT.slot_get A 63).trans q_63
          have hA := PT.frame_of (A := A) (n := 64) hS.size
          have hd : A.defers = [] := hS.defers
          rw [hd] at hA
          obtain ⟨fr, hf⟩ : ∃ f, PB.slot A = f := ⟨_, rfl⟩
          rw [hf] at hA h_29 h_30 h_31 h_32 h_33 h_34 h_35 h_36 h_37 h_28 h_38 h_39 h_40 h_6 h_7 h_8 q_0 q_1 q_2 q_3 q_4 q_5 q_9 q_10 q_11 q_12 q_13 q_14 q_15 q_16 q_17 q_18 q_19 q_20 q_21 q_22 q_23 q_24 q_25 q_26 q_27 q_41 q_42 q_43 q_44 q_45 q_46 q_47 q_48 q_49 q_50 q_51 q_52 q_53 q_54 q_55 q_56 q_57 q_58 q_59 q_60 q_61 q_62 q_63
          rw [hA]
          clear hA hf hd hL hS
          simp only [List.range, List.range.loop, List.map_cons, List.map_nil, List.drop_succ_cons, List.drop_zero, h_29, h_30, h_31, h_32, h_33, h_34, h_35, h_36, h_37, h_28, h_38, h_39, h_40, h_6, h_7, h_8, q_0, q_1, q_2, q_3, q_4, q_5, q_9, q_10, q_11, q_12, q_13, q_14, q_15, q_16, q_17, q_18, q_19, q_20, q_21, q_22, q_23, q_24, q_25, q_26, q_27, q_41, q_42, q_43, q_44, q_45, q_46, q_47, q_48, q_49, q_50, q_51, q_52, q_53, q_54, q_55, q_56, q_57, q_58, q_59, q_60, q_61, q_62, q_63]
          clear h_29 h_30 h_31 h_32 h_33 h_34 h_35 h_36 h_37 h_28 h_38 h_39 h_40 h_6 h_7 h_8 q_0 q_1 q_2 q_3 q_4 q_5 q_9 q_10 q_11 q_12 q_13 q_14 q_15 q_16 q_17 q_18 q_19 q_20 q_21 q_22 q_23 q_24 q_25 q_26 q_27 q_41 q_42 q_43 q_44 q_45 q_46 q_47 q_48 q_49 q_50 q_51 q_52 q_53 q_54 q_55 q_56 q_57 q_58 q_59 q_60 q_61 q_62 q_63
          simp only [ptr]
          generalize strOfNums tx = st at *
          have BTW := hid' (BT6.out.keep hB)
          have BUW := hid' (BU6.out.trans (But.of_below (g := g) hB))
          have hzW : w3.heap.size < W.heap.size := BTW.out.lt
          have HSW := hid' hB
          clear HC HBT6 HG hB BT6 BU6 BY6
          rcases HS.out with ⟨r, rfl, hr, hbx⟩ | ⟨rfl, hbx⟩
          · replace hbx := hid' (hbx.keep HSW.out)
            have d2 : W.cell? ⟨g, 2, none⟩ = some (.bool false) := hbx.out.cell 2
            by_cases h0 : er = 0
            · obtain ⟨y1, y2, y3, y4⟩ := TY.out h0
              subst h0
              have BA1 : Bx (W.setCell ⟨w3.heap.size, 2, none⟩ (.string st)) w3.heap.size #[.int .i64 x0, .int .i64 x1, .string st] 64 := (BTW.out.setCell (i := 2) (v := .string st) : _)
              have BG1 : Bx (W.setCell ⟨w3.heap.size, 2, none⟩ (.string st)) g #[.slice ba l.length cap, .int .i64 (at' : Int), .bool false] 67 := hbx.out.setOther (by omega)
              have BA2 : Bx ((W.setCell ⟨w3.heap.size, 2, none⟩ (.string st)).setCell ⟨g, 1, none⟩ (.int .i64 next)) w3.heap.size #[.int .i64 x0, .int .i64 x1, .string st] 64 := BA1.setOther (by omega)
              have BG2 : Bx ((W.setCell ⟨w3.heap.size, 2, none⟩ (.string st)).setCell ⟨g, 1, none⟩ (.int .i64 next)) g #[.slice ba l.length cap, .int .i64 next, .bool false] 67 := (BG1.setCell (i := 1) (v := .int .i64 next) : _)
              have e2 : W.cell? ⟨w3.heap.size, 2, none⟩ = some (.string ⟨#[]⟩) := BTW.out.cell 2
              have f2 := BTW.out.frozen 2
              have e1 : (W.setCell ⟨w3.heap.size, 2, none⟩ (.string st)).cell? ⟨g, 1, none⟩ = some (.int .i64 (at' : Int)) := BG1.cell 1
              have f3 := BG1.frozen 1
              have q0 : ((W.setCell ⟨w3.heap.size, 2, none⟩ (.string st)).setCell ⟨g, 1, none⟩ (.int .i64 next)).cell? ⟨w3.heap.size, 0, none⟩ = some (.int .i64 x0) := BA2.cell 0
              have q1 : ((W.setCell ⟨w3.heap.size, 2, none⟩ (.string st)).setCell ⟨g, 1, none⟩ (.int .i64 next)).cell? ⟨w3.heap.size, 1, none⟩ = some (.int .i64 x1) := BA2.cell 1
              have q2 : ((W.setCell ⟨w3.heap.size, 2, none⟩ (.string st)).setCell ⟨g, 1, none⟩ (.int .i64 next)).cell? ⟨w3.heap.size, 2, none⟩ = some (.string st) := BA2.cell 2
              have BUX := hid' ((BUW.out.setNew (b := w3.heap.size) (i := 2) (v := .string st) (by omega)).trans (But.setCell g 1 _ (.int .i64 next)))
              have RSX : Hid (RdS 67 ((W.setCell ⟨w3.heap.size, 2, none⟩ (.string st)).setCell ⟨g, 1, none⟩ (.int .i64 next)) g ba cap l (some (l.drop next.toNat))) := ⟨next.toNat, y4, .inl ⟨_, rfl, rfl, by rw [y3]; exact BG2⟩⟩
              have HD2 : Hid (Rd strB SD (some r) st (some (l.drop next.toNat))) := (⟨y1, by rw [← hr]; exact y2⟩ : SD st ∧ r = strB st ++ l.drop next.toNat)
              have HRD := hid' (rd_step HD0.out HD1.out HD2.out)
              obtain ⟨wX, hwX⟩ : ∃ z, (W.setCell ⟨w3.heap.size, 2, none⟩ (.string st)).setCell ⟨g, 1, none⟩ (.int .i64 next) = z := ⟨_, rfl⟩
              have HWX := hid' hwX
              rw [hwX] at BUX RSX
              have BAX : Below wX.heap.size wX (wX.alloc (Obj.cells #[.int .i64 x0, .int .i64 x1, .string st] 64)) := (Below.refl _ _).alloc (Nat.le_refl _) _
              obtain ⟨cs, hcs1, hcs2⟩ := HROW.out
              rw [HM.out] at hcs1
              have F3 : Fix w.heap.size (fun _ => True) wr (wX.alloc (Obj.cells #[.int .i64 x0, .int .i64 x1, .string st] 64)) := Fix.of_but (BUX.out.trans (But.of_below BAX)) hgl
              have HO := hid' (own_fix hcs1 F3 trivial)
              have HE : Hid (∀ i, i < xs.length → ET w.heap.size (wX.alloc (Obj.cells #[.int .i64 x0, .int .i64 x1, .string st] 64)) (xs.getD i d0) (cs i)) := fun i hi => ET_lasts _ _ _ _ _ _ (hcs2 i hi) F3 (fun _ _ => trivial)
              have HX : Hid (ET w.heap.size (wX.alloc (Obj.cells #[.int .i64 x0, .int .i64 x1, .string st] 64)) (x0, x1, st) (#[.int .i64 x0, .int .i64 x1, .string st] : Array Value).toList) := rfl
              have HRS := hid' (RSX.out.keep BAX)
              have HBW := hid' ((HBT.out.trans BUX.out).trans (But.of_below BAX))
              have hsX : w.heap.size ≤ wX.heap.size := (HBT.out.trans BUX.out).size
              clear F3 BAX hcs1 hcs2 HROW BA1 BG1 BA2 BG2 HS hbx BTW BUW HSW HD0 HD1 HD2 TY TN y1 y2 y3 y4 hr BUX RSX
              have hNZ : wX.heap.size = W.heap.size := by rw [← hwX, World.size_setCell, World.size_setCell]
              have HNC := hid' (new_cells wX #[.int .i64 x0, .int .i64 x1, .string st] 64)
              rw [hNZ] at HNC
              rw [← hwX] at HO HE HX HRS HBW hsX HNC
              clear hNZ
              clear hwX HWX
              go_wp2_with (first
                | (at_builtin; refine wpList_append_own _ rfl (.tmp 59) (.tmp 61) 46 rfl w.heap.size 64 iE (.agg #[.int .i64 0, .int .i64 0, .string ⟨#[]⟩]) 3 32 Try.underlying46 hiE hz0 hz1 hz2 rfl (by decide) (.slice a0 m cb) m ((List.range m).flatMap cs) rfl HO.out ⟨W.heap.size, 0, none⟩ 1 1 (#[.int .i64 x0, .int .i64 x1, .string st] : Array Value).toList rfl rfl HNC.out (by intro u hu; simp at hu; rcases hu with rfl | rfl | rfl <;> rfl) (by unfold maxLen; omega) (by omega) (Nat.le_trans hsX (by simp)) ?_; intro v4 w9 hown4 hgrow4 hnil4))
              have R : Hid (DLoop 64 3 ET d0 stepB TOK 64 n 67 w g ba cap l s k v4 (.int .i64 (k : Int)) w9) := DLoop.step ET_lasts (fun _ h => h.elim) pf_step HK.out hgl (by rw [HM.out]; exact HO.out) HE.out HX.out hgrow4 (by rw [HM.out]; exact hown4) HRL.out HRD.out HRS.out HBW.out
              clear hown4 hgrow4 hnil4 HE HX HRS HBW HRD HO
              obtain ⟨a4, cb4, n4, hv4⟩ : ∃ a4 cb4 n4, v4 = .slice a4 n4 cb4 := by obtain ⟨_, _, a, b, h, _⟩ := R.out; exact ⟨a, b, _, h⟩
              subst hv4
              have hk1 : ((k + 1 : Nat) : Int) - 1 = (k : Int) := by omega
              go_wp2
              go_roundg k
              case measure => omega
              case rel => first | exact R.out | (rw [hk1]; exact R.out) | (simp only [hk1]; exact R.out) | (have h := R.out; simpa using h)
            · have eb : (er != 0) = true := by simpa using h0
              have f2 := hbx.out.frozen 2
              have hb2 : Bx (W.setCell ⟨g, 2, none⟩ (.bool true)) g #[.slice ba l.length cap, .int .i64 (at' : Int), .bool true] 67 := hbx.out.setCell (i := 2)
              have HD2 : Hid (Rd strB SD (some r) st none) := (by intro y r' hy; rw [← hr]; exact TN.out h0 y r' hy : ∀ y r', SD y → r ≠ strB y ++ r')
              have BUX := hid' (BUW.out.trans (But.setCell g 2 W (.bool true)))
              have HF : Hid (LAns RTerms stepB TOK 64 67 w g ba cap l s (.returned (.slice a0 m cb)) (W.setCell ⟨g, 2, none⟩ (.bool true))) := ⟨_, xs, none, rfl, (by
                have h := HROW.out.fix ET_lasts (Fix.of_but (ok := fun _ => True) BUX.out hgl) trivial (fun _ _ => trivial)
                rw [HM.out] at h
                exact h), Rd.any xs ((HRL.out.push pf_step (by rw [HM.out]; omega) (rd_step HD0.out HD1.out HD2.out)).done (.inl rfl)), ⟨at', ha, .inr ⟨rfl, hb2⟩⟩, HBT.out.trans BUX.out⟩
              clear hb2 HD2 BUX hbx HS HROW BTW BUW HSW HD0 HD1 TY TN hr HRL HBT
              go_wp2
              go_ret
              exact HF.out
          · replace hbx := hid' (hbx.keep HSW.out)
            have d2 : W.cell? ⟨g, 2, none⟩ = some (.bool true) := hbx.out.cell 2
            have f2 := hbx.out.frozen 2
            have hb2 : Bx (W.setCell ⟨g, 2, none⟩ (.bool true)) g #[.slice ba l.length cap, .int .i64 (at' : Int), .bool true] 67 := hbx.out.setCell (i := 2)
            have BUX := hid' (BUW.out.trans (But.setCell g 2 W (.bool true)))
            have HF : Hid (LAns RTerms stepB TOK 64 67 w g ba cap l s (.returned (.slice a0 m cb)) (W.setCell ⟨g, 2, none⟩ (.bool true))) := ⟨_, xs, none, rfl, (by
              have h := HROW.out.fix ET_lasts (Fix.of_but (ok := fun _ => True) BUX.out hgl) trivial (fun _ _ => trivial)
              rw [HM.out] at h
              exact h), Rd.any xs ((HRL.out.push pf_step (by rw [HM.out]; omega) (rd_step HD0.out HD1.out (x2 := st) (show Rd strB SD none st none from trivial))).done (.inl rfl)), ⟨at', ha, .inr ⟨rfl, hb2⟩⟩, HBT.out.trans BUX.out⟩
            clear hb2 BUX hbx HS HROW BTW BUW HSW HD0 HD1 TY TN HRL HBT
            go_wp2
            go_ret
            exact HF.out

end Go.Proofs.Ytjpjeledbjpaeaa
