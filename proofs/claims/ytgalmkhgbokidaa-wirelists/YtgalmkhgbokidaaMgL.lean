/-
  What is proved here: what the document's Get wants: numbers by one, two and three; its variables in memory.
  What is proved here: the document's Get tells the command that the bytes tell from a place on.
  What is proved here: the document's Get where the byte 0 stands.
  What is proved here: the document's Get where the byte 1 stands.
  What is proved here: the document's Get where the byte 2 stands.
-/
import Derived.Test.YtgalmkhgbokidaaMgK
import Derived.Test.YtgalmkhgbokidaaMgJ

namespace Go.Proofs.Ytgalmkhgbokidaa
open Go.RowKit Go.Proofs
set_option maxRecDepth 20000
set_option linter.unusedVariables false
set_option linter.unusedSimpArgs false

theorem num1 {l : List Int} {p : Nat} {w w' : World} {e : Ending} (h : NAns l p 1 w e w') : Below w.heap.size w w' ∧ ((∃ (x : Int) (b off c nx : Nat), e = .returned (.tuple #[.slice (some ⟨b, off, none⟩) 1 c, .int .i64 (nx : Int), .bool true]) ∧ Rd oneB R64 (some (l.drop p)) x (some (l.drop nx)) ∧ nx ≤ l.length ∧ w'.cell? ⟨b, off, none⟩ = some (.int .i64 x)) ∨
    (e = .returned (.tuple #[.slice none 0 0, .int .i64 0, .bool false]) ∧ ∀ x, Rd oneB R64 (some (l.drop p)) x none)) := by
  obtain ⟨hb, h⟩ := h
  refine ⟨hb, ?_⟩
  rcases h with ⟨xs, a, c, nx, rfl, hl, hr, hd, hn, hip⟩ | ⟨rfl, hno⟩
  · match xs, hl with
    | [x], _ =>
      obtain ⟨b, off, rfl⟩ := SP.lt hip (by simp)
      exact .inl ⟨x, b, off, c, nx, rfl, ⟨hr x (by simp), by simpa using hd⟩, hn, by have := IP.at hip (i := 0) (by simp); simpa using this⟩
  · exact .inr ⟨rfl, fun x y r hy e => hno [y] r rfl (by simpa using hy) (by simpa using e)⟩

theorem num2 {l : List Int} {p : Nat} {w w' : World} {e : Ending} (h : NAns l p 2 w e w') : Below w.heap.size w w' ∧ ((∃ (x y : Int) (b off c nx : Nat), e = .returned (.tuple #[.slice (some ⟨b, off, none⟩) 2 c, .int .i64 (nx : Int), .bool true]) ∧ Rd timeB RT (some (l.drop p)) (x, y) (some (l.drop nx)) ∧ nx ≤ l.length ∧ w.heap.size ≤ b ∧ w'.cell? ⟨b, off, none⟩ = some (.int .i64 x) ∧ w'.cell? ⟨b, off + 1, none⟩ = some (.int .i64 y)) ∨
    (e = .returned (.tuple #[.slice none 0 0, .int .i64 0, .bool false]) ∧ ∀ x, Rd timeB RT (some (l.drop p)) x none)) := by
  obtain ⟨hb, h⟩ := h
  refine ⟨hb, ?_⟩
  rcases h with ⟨xs, a, c, nx, rfl, hl, hr, hd, hn, hip⟩ | ⟨rfl, hno⟩
  · match xs, hl with
    | [x, y], _ =>
      obtain ⟨b, off, e', hbl, _, _⟩ := hip.cells (by simp)
      subst e'
      exact .inl ⟨x, y, b, off, c, nx, rfl, ⟨⟨hr x (by simp), hr y (by simp)⟩, by simpa [timeB] using hd⟩, hn, hbl, by have := IP.at hip (i := 0) (by simp); simpa using this, by have := IP.at hip (i := 1) (by simp); simpa using this⟩
  · exact .inr ⟨rfl, fun x y r hy e => hno [y.1, y.2] r rfl (by simpa using ⟨hy.1, hy.2⟩) (by simpa [timeB] using e)⟩

theorem num3 {l : List Int} {p : Nat} {w w' : World} {e : Ending} (h : NAns l p 3 w e w') : Below w.heap.size w w' ∧ ((∃ (x y z : Int) (b off c nx : Nat) (s4 : Option (List Int)), e = .returned (.tuple #[.slice (some ⟨b, off, none⟩) 3 c, .int .i64 (nx : Int), .bool true]) ∧ Rd timeB RT (some (l.drop p)) (x, y) s4 ∧ Rd oneB R64 s4 z (some (l.drop nx)) ∧ nx ≤ l.length ∧ w.heap.size ≤ b ∧ w'.cell? ⟨b, off, none⟩ = some (.int .i64 x) ∧ w'.cell? ⟨b, off + 1, none⟩ = some (.int .i64 y) ∧ w'.cell? ⟨b, off + 2, none⟩ = some (.int .i64 z)) ∨
    (e = .returned (.tuple #[.slice none 0 0, .int .i64 0, .bool false]) ∧ ∃ (t : T) (s4 : Option (List Int)), Rd timeB RT (some (l.drop p)) t s4 ∧ Rd oneB R64 s4 0 none)) := by
  obtain ⟨hb, h⟩ := h
  refine ⟨hb, ?_⟩
  rcases h with ⟨xs, a, c, nx, rfl, hl, hr, hd, hn, hip⟩ | ⟨rfl, hno⟩
  · match xs, hl with
    | [x, y, z], _ =>
      obtain ⟨b, off, e', hbl, _, _⟩ := hip.cells (by simp)
      subst e'
      exact .inl ⟨x, y, z, b, off, c, nx, some (oneB z ++ l.drop nx), rfl, ⟨⟨hr x (by simp), hr y (by simp)⟩, by simpa [timeB] using hd⟩, ⟨hr z (by simp), rfl⟩, hn, hbl, by have := IP.at hip (i := 0) (by simp); simpa using this, by have := IP.at hip (i := 1) (by simp); simpa using this, by have := IP.at hip (i := 2) (by simp); simpa using this⟩
  · refine .inr ⟨rfl, ?_⟩
    by_cases ht : ∃ (t : T) (r : List Int), RT t ∧ l.drop p = timeB t ++ r
    · obtain ⟨t, r, h1, h2⟩ := ht
      refine ⟨t, some r, ⟨h1, h2⟩, fun y r' hy e => hno [t.1, t.2, y] r' rfl (by simpa using ⟨h1.1, h1.2, hy⟩) ?_⟩
      rw [h2, e]
      simp [timeB]
    · exact ⟨t0, none, fun y r hy e => ht ⟨y, r, hy, e⟩, trivial⟩

/-- What holds while the document's Get goes on: its result's block, the command's block. -/
structure DG (w : World) (c : Cm) (s : CmS) (W : World) : Prop where
  bel : Below w.heap.size w W
  res : Bx W w.heap.size (cmA c0 s0) 31
  bx : Bx W (w.heap.size + 1) (cmA c s) 31
  cm : CmR (fun k => w.heap.size + 1 < k) W c s

section
variable {w : World} {c : Cm} {s : CmS} {W W' : World}
theorem DG.start (d : Int) : DG w ⟨d, 0, [], (0, 0), 0, [], 0, []⟩ s0 ((w.alloc (.cells (cmA c0 s0) 31)).alloc (.cells (cmA ⟨d, 0, [], (0, 0), 0, [], 0, []⟩ s0) 31)) := by
  have B0 : Below w.heap.size w (w.alloc (.cells (cmA c0 s0) 31)) := (Below.refl _ _).alloc (Nat.le_refl _) _
  have eg : (w.alloc (.cells (cmA c0 s0) 31)).heap.size = w.heap.size + 1 := World.size_alloc _ _
  have B1 := (Below.refl (w.alloc (.cells (cmA c0 s0) 31)).heap.size _).alloc (Nat.le_refl _) (.cells (cmA ⟨d, 0, [], (0, 0), 0, [], 0, []⟩ s0) 31)
  refine ⟨bel_trans' B0 B1, (Bx.new w _ _).keep B1, ?_, cmR1 _ _ _⟩
  have := Bx.new (w.alloc (.cells (cmA c0 s0) 31)) (cmA ⟨d, 0, [], (0, 0), 0, [], 0, []⟩ s0) 31
  rwa [eg] at this
theorem DG.call (h : DG w c s W) (hb : Below W.heap.size W W') : DG w c s W' := ⟨bel_trans' h.bel hb, h.res.keep hb, h.bx.keep hb, h.cm.on hb⟩
theorem DG.set {i : Nat} {v : Value} {c' : Cm} {s' : CmS} (h : DG w c s W) (he : (cmA c s).setIfInBounds i v = cmA c' s') (hc : CmR (fun k => w.heap.size + 1 < k) W c' s') : DG w c' s' (W.setCell ⟨w.heap.size + 1, i, none⟩ v) :=
  ⟨h.bel.setCell (p := ⟨w.heap.size + 1, i, none⟩) (Nat.le_succ _) v, (Below.heap_setCell _ _ _ _ (by show w.heap.size ≠ w.heap.size + 1; omega)).trans h.res, by rw [← he]; exact h.bx.setCell, hc.keep (fun k hk hl => ⟨Below.heap_setCell _ _ _ _ (by show k ≠ w.heap.size + 1; omega), hk⟩) (by simp)⟩
theorem DG.lt (h : DG w c s W) : w.heap.size + 1 < W.heap.size := h.bx.lt
theorem DG.done (h : DG w c s W) : CmR (Since w.heap.size) (set9 W w.heap.size c s) c s ∧ Below w.heap.size w (set9 W w.heap.size c s) ∧ Bx (set9 W w.heap.size c s) w.heap.size (cmA c s) 31 :=
  ⟨h.cm.keep (fun k hk hl => ⟨set9_other W _ c s (by omega), by unfold Since; omega⟩) (by rw [set9_size]; exact Nat.le_refl _), set9_below h.bel (Nat.le_refl _) c s, set9_bx h.res c s⟩
theorem DG.zero (h : DG w c s W) : Below w.heap.size w (set9 W w.heap.size c0 s0) ∧ Bx (set9 W w.heap.size c0 s0) w.heap.size (cmA c0 s0) 31 := ⟨set9_below h.bel (Nat.le_refl _) _ _, set9_bx h.res _ _⟩
theorem DG.rowSet {a : Option Addr} {n : Nat} {x : List V} (h : DG w c s W) (hp : VP (Since (w.heap.size + 1 + 1)) W a x) (hs : Sh a x.length n) : CmR (fun k => w.heap.size + 1 < k) W { c with row := x } { s with ra := a, rc := n } := ⟨SP.mono hp (fun k hk => by unfold Since at hk; omega), h.cm.front, h.cm.sheet, h.cm.byt, hs, h.cm.hf, h.cm.hs⟩
theorem DG.frontSet {a : Option Addr} {n : Nat} {x : List T} (h : DG w c s W) (hp : TP (Since (w.heap.size + 1 + 1)) W a x) (hs : Sh a x.length n) : CmR (fun k => w.heap.size + 1 < k) W { c with front := x } { s with fa := a, fc := n } := ⟨h.cm.row, SP.mono hp (fun k hk => by unfold Since at hk; omega), h.cm.sheet, h.cm.byt, h.cm.hr, hs, h.cm.hs⟩
end

theorem rdN {α : Type} {f : α → List Int} {D : α → Prop} (x : α) : Rd f D none x none := trivial

theorem Rd.byte {l : List Int} {at0 : Nat} {d : Int} (hlt : at0 < l.length) (hd : l.getD at0 0 = d) (h : DO d) : Rd doB DO (some (l.drop at0)) d (some (l.drop (at0 + 1))) := ⟨h, by rw [drop_byte hlt, hd]; rfl⟩

theorem fin_yes {l : List Int} {at0 nx : Nat} {c : Cm} {s : CmS} {w W : World} (ha : at0 ≤ l.length) (h : Rd cmdB Nice (some (l.drop at0)) c (some (l.drop nx))) (hn : nx ≤ l.length) (hc : CmR (Since w.heap.size) W c s) (hb : Below w.heap.size w W) : GAns cmdB Nice RepC c0 l (at0 : Int) w (.returned (.tuple #[cmV c s, .int .i64 (nx : Int), .int .i64 0])) W :=
  ⟨c, _, nx, 0, rfl, ⟨s, rfl, hc⟩, hb, .inr (.inl ⟨by omega, by omega, rfl, h.1, by simpa using h.2, by simp, by simpa using hn⟩)⟩

theorem fin_no {l : List Int} {at0 : Nat} {c : Cm} {w W : World} (ha : at0 ≤ l.length) (h : Rd cmdB Nice (some (l.drop at0)) c none) (hb : Below w.heap.size w W) : GAns cmdB Nice RepC c0 l (at0 : Int) w (.returned (.tuple #[cmV c0 s0, .int .i64 0, .int .i64 6])) W :=
  ⟨c0, _, 0, 6, rfl, RepC.zero _ _, hb, .inr (.inr ⟨by omega, by omega, rfl, rfl, rfl, fun y r hy => by simpa using h y r hy⟩)⟩

end Go.Proofs.Ytgalmkhgbokidaa

namespace Go.Proofs.Ytgalmkhgbokidaa
open Go.RowKit Go.Proofs
set_option maxRecDepth 20000
set_option linter.unusedVariables false
set_option linter.unusedSimpArgs false

section
variable {a : Act} {t u c : Nat} {dst : Option Tmp} {ty : TypeId} {pos : String} {aft : Array Edge} {guard : Option (Nat × Bool)}
theorem run_storeT {g k : Nat} {x y : Int} {p q : Value} (w : World) (h : PB.slot a t = .pointer (some ⟨g, k, none⟩)) (h' : PB.slot a u = .agg #[.int .i64 x, .int .i64 y]) (hc : w.cell? ⟨g, k, none⟩ = some p) (hc1 : w.cell? ⟨g, k + 1, none⟩ = some q) (hf : w.frozen? ⟨g, k, none⟩ = false) (hf1 : w.frozen? ⟨g, k + 1, none⟩ = false) :
    (execOp a.eval { dst := dst, op := .store 26 (.tmp t) (.tmp u), type := ty, pos := pos, after := aft, guard := guard }).run Try.prog w = .ok .skip ((w.setCell ⟨g, k, none⟩ (.int .i64 x)).setCell ⟨g, k + 1, none⟩ (.int .i64 y)) := by
  have h0 : a.tmps[t]?.getD undef = .pointer (some ⟨g, k, none⟩) := by rw [← Array.getD_eq_getD_getElem?]; exact h
  have h1 : a.tmps[u]?.getD undef = .agg #[.int .i64 x, .int .i64 y] := by rw [← Array.getD_eq_getD_getElem?]; exact h'
  go_simp
theorem run_storeZ {g k : Nat} {x : Int} {p : Value} (w : World) (h : PB.slot a t = .pointer (some ⟨g, k, none⟩)) (h' : PB.slot a u = .int .i64 x) (hc : w.cell? ⟨g, k, none⟩ = some p) (hf : w.frozen? ⟨g, k, none⟩ = false) :
    (execOp a.eval { dst := dst, op := .store 3 (.tmp t) (.tmp u), type := ty, pos := pos, after := aft, guard := guard }).run Try.prog w = .ok .skip (w.setCell ⟨g, k, none⟩ (.int .i64 x)) := by
  have h0 : a.tmps[t]?.getD undef = .pointer (some ⟨g, k, none⟩) := by rw [← Array.getD_eq_getD_getElem?]; exact h
  have h1 : a.tmps[u]?.getD undef = .int .i64 x := by rw [← Array.getD_eq_getD_getElem?]; exact h'
  go_simp
end

theorem cell_set {w : World} {g i : Nat} {v : Value} {p : Addr} (h : p.block ≠ g) : (w.setCell ⟨g, i, none⟩ v).cell? p = w.cell? p := World.cell?_of_block (Below.heap_setCell _ _ _ _ h)

def r5Val (g nb noff c : Nat) (x y : Int) (i : Nat) : Option Value :=
  [some (.slice (some ⟨nb, noff, none⟩) 2 c), some (.pointer (some ⟨nb, noff + 0, none⟩)), some (.int .i64 x), some (.slice (some ⟨nb, noff, none⟩) 2 c), some (.pointer (some ⟨nb, noff + 1, none⟩)), some (.int .i64 y), some (.agg #[.int .i64 x, .int .i64 y]), some (.pointer (some ⟨g, 2, none⟩)), some (.pointer (some ⟨g, 3, none⟩)), none].getD i none

def r5Inv (w : World) (nb noff : Nat) (x y : Int) (c c' : Cm) (s : CmS) (vs : List Value) (W : World) : Prop :=
  match vs with
    | [] => DG w c s W ∧ W.cell? ⟨nb, noff + 0, none⟩ = some (.int .i64 x) ∧ W.cell? ⟨nb, noff + 1, none⟩ = some (.int .i64 y)
    | [_] => DG w c' s W
    | _ => False

def r1Val (g nb noff c : Nat) (x y z : Int) (i : Nat) : Option Value :=
  [some (.slice (some ⟨nb, noff, none⟩) 3 c), some (.pointer (some ⟨nb, noff + 0, none⟩)), some (.int .i64 x), some (.slice (some ⟨nb, noff, none⟩) 3 c), some (.pointer (some ⟨nb, noff + 1, none⟩)), some (.int .i64 y), some (.agg #[.int .i64 x, .int .i64 y]), some (.slice (some ⟨nb, noff, none⟩) 3 c), some (.pointer (some ⟨nb, noff + 2, none⟩)), some (.int .i64 z), some (.pointer (some ⟨g, 2, none⟩)), some (.pointer (some ⟨g, 3, none⟩)), none, some (.pointer (some ⟨g, 2, none⟩)), some (.pointer (some ⟨g, 5, none⟩)), none].getD i none

def r1Inv (w : World) (nb noff : Nat) (x y z : Int) (c c' c'' : Cm) (s : CmS) (vs : List Value) (W : World) : Prop :=
  (W.cell? ⟨nb, noff + 0, none⟩ = some (.int .i64 x) ∧ W.cell? ⟨nb, noff + 1, none⟩ = some (.int .i64 y) ∧ W.cell? ⟨nb, noff + 2, none⟩ = some (.int .i64 z)) ∧ match vs with
    | [] => DG w c s W
    | [_] => DG w c' s W
    | [_, _] => DG w c'' s W
    | _ => False

end Go.Proofs.Ytgalmkhgbokidaa

namespace Go.Proofs.Ytgalmkhgbokidaa
open Go.RowKit Go.Proofs
set_option maxRecDepth 20000
set_option linter.unusedVariables false
set_option linter.unusedSimpArgs false

set_option maxHeartbeats 8000000 in
theorem rGet0 (w : World) (ba : Option Addr) (cap : Nat) (l : List Int) (at0 : Nat) (hb : Bts w.heap.size w ba l) (hlt : at0 < l.length) (hd : l.getD at0 0 = 0) (hc : l.length ≤ cap) (hl : l.length ≤ 1000000000) :
    Calls Try.prog 19 #[.slice ba l.length cap, .int .i64 (at0 : Int)] w (GAns cmdB Nice RepC c0 l (at0 : Int) w) := by
  have hat : at0 ≤ l.length := by omega
  obtain ⟨b, off, hba, hcell, _, _⟩ := hb.byte hlt
  rw [hd] at hcell
  have hbl : b < w.heap.size := by
    obtain ⟨b', off', e', hb', _⟩ := hb.cells (by rintro rfl; simp at hlt)
    rw [hba] at e'; cases e'; exact hb'
  have hcell0 : (w.alloc (.cells (cmA c0 s0) 31)).cell? ⟨b, off + at0, none⟩ = some (.int .u8 0) := (((Below.refl _ w).alloc (Nat.le_refl _) _).cell (p := ⟨b, off + at0, none⟩) hbl).trans hcell
  have HRB := hid' (Rd.byte hlt hd (by unfold DO; omega))
  have DG0 := hid' (DG.start (w := w) 0)
  have HNUM := hid' (fun W (hW : Below w.heap.size w W) (p m : Nat) (hp : p ≤ l.length) (hm : m ≤ 1000) => numbers_any W ba cap l p m ((hb.keep hW).mono hW.size) hp hc hl hm)
  have HOG := hid' (fun W (hW : Below w.heap.size w W) (p : Int) => oGet_any W ba cap l p ((hb.keep hW).mono hW.size) hc hl)
  have HGF := hid' (fun W (hW : Below w.heap.size w W) (p : Int) => rGetFront_any W ba cap l p ((hb.keep hW).mono hW.size) hc hl)
  have HGT := hid' (fun W (hW : Below w.heap.size w W) (p : Int) => rgetText_any W ba cap l p 65536 ((hb.keep hW).mono hW.size) hc hl (by omega))
  have HBY := hid' hb.range
  have ec : ((at0 + 1 : Nat) : Int) = (at0 : Int) + 1 := by simp
  have hh1 : ¬ (at0 : Int) < 0 := by omega
  have hh2 : ¬ (l.length : Int) < (at0 : Int) := by omega
  have hh3 : ¬ (at0 : Int) = (l.length : Int) := by omega
  unfold cmA c0 s0 at hcell0 DG0
  simp only [List.length_nil] at hcell0 DG0
  obtain ⟨ln, hln⟩ : ∃ n, l.length = n := ⟨_, rfl⟩
  rw [hln] at HNUM HOG HGF HGT hh2 hh3 ⊢
  have HLN := hid' hln
  have hixl : at0 < ln := by omega
  clear hb hcell hd hln
  subst hba
  have HT := hid' (HGT.out _ DG0.out.bel ((at0 : Int) + 1))
  clear HNUM HOG HGF HGT
  go_enter Try.func19, Try.ntmps19
  go_wp2_with fail
  refine HT.out.mono ?_
  rintro e w2 ⟨⟨sx, next, er, rfl, hrel⟩, hb2⟩
  have DG1 := hid' (DG0.out.call hb2)
  have hby := text_byt HBY.out hrel
  clear DG0 HT hb2 hcell0
  by_cases her : er = 0
  · subst her
    obtain ⟨y1, y2, y3, y4, y5⟩ := sheet_yes (most := 65536) HBY.out (by rw [← ec] at hrel; exact hrel)
    obtain ⟨nx, rfl⟩ := Int.eq_ofNat_of_zero_le (show 0 ≤ next by omega)
    rw [Int.toNat_natCast] at y3 y5
    have HRS : Hid (Rd shB SN (some (l.drop (at0 + 1))) sx (some (l.drop nx))) := (⟨⟨y1, y2⟩, y3⟩ : _ ∧ _)
    obtain ⟨W, c, hcv, hbW, a', c', hv', hp', hsh', hby'⟩ := new_bytes w2 sx hby
    cases hv'
    have CT := DG1.out.call hbW
    have o8 := CT.bx.cell 8
    have g8 := CT.bx.frozen 8
    simp [cmA] at o8
    have DG2 : Hid (DG w ⟨0, 0, [], (0, 0), 0, [], 0, sx⟩ ⟨none, 0, none, 0, some ⟨w2.heap.size, 0, none⟩, c⟩ (W.setCell ⟨w.heap.size + 1, 8, none⟩ (.slice (some ⟨w2.heap.size, 0, none⟩) sx.length c))) := CT.set (i := 8) (by simp [cmA]) ⟨CT.cm.row, CT.cm.front, SP.mono hp' (fun k hk => by unfold Since at hk; have := DG1.out.lt; omega), hby', CT.cm.hr, CT.cm.hf, hsh'⟩
    clear CT DG1 y1 y2 y3 y4 hrel hp' hsh' hby' hby
    generalize strOfNums sx = st at *
    generalize hg2 : w2.heap.size = g2 at *
    obtain ⟨z0, z1, z2⟩ := DG2.out.done
    have HZ := hid' (fin_yes (w := w) hat (Rd.cmd HRB.out (fun _ => rest0 HRS.out) (fun h => by cases h)) y5 z0 z1)
    obtain ⟨r0, r1, r2, r3, r4, r5, r6, r7, r8⟩ := cm_cells DG2.out.res
    obtain ⟨k0, k1, k2, k3, k4, k5, k6, k7, k8⟩ := cm_cells DG2.out.bx
    have f0 := DG2.out.res.frozen 0
    have f1 := DG2.out.res.frozen 1
    have f2 := DG2.out.res.frozen 2
    have f3 := DG2.out.res.frozen 3
    have f4 := DG2.out.res.frozen 4
    have f5 := DG2.out.res.frozen 5
    have f6 := DG2.out.res.frozen 6
    have f7 := DG2.out.res.frozen 7
    have f8 := DG2.out.res.frozen 8
    obtain ⟨t0, t1, t2, t3, t4, t5, t6, t7, t8⟩ := cm_cells z2
    unfold set9 at HZ t0 t1 t2 t3 t4 t5 t6 t7 t8
    unfold cmV cmA at HZ
    simp only [c0, s0] at r0 r1 r2 r3 r4 r5 r6 r7 r8
    simp only [List.length_nil] at HZ r0 r1 r2 r3 r4 r5 r6 r7 r8 t0 t1 t2 t3 t4 t5 t6 t7 t8 k0 k1 k2 k3 k4 k5 k6 k7 k8
    clear z0 z1 z2 DG2 hbW hg2
    go_wp2
    refine bodyPost_ret (v := .tuple #[.agg #[.int .i64 0, .int .i64 0, .slice none 0 0, .int .i64 0, .int .i64 0, .int .i64 0, .slice none 0 0, .int .i64 0, .slice (some ⟨g2, 0, none⟩) sx.length c], .int .i64 (nx : Int), .int .i64 0]) ?_ rfl HZ.out
    unfold results
    go_simp
  · have hno : Rd shB SN (some (l.drop (at0 + 1))) [] none := fun y r hy => sheet_no (most := 65536) (by omega) (by omega) (by rw [← ec] at hrel; exact hrel) her y r hy.1
    have HNO := hid' hno
    have her' : (er != 0) = true := by simpa using her
    clear hrel hby hno
    generalize strOfNums sx = st at *
    obtain ⟨z1, z2⟩ := DG1.out.zero
    have HZ := hid' (fin_no (w := w) hat (Rd.cmd HRB.out (fun _ => rest0 HNO.out) (fun h => by cases h)) z1)
    obtain ⟨r0, r1, r2, r3, r4, r5, r6, r7, r8⟩ := cm_cells DG1.out.res
    have f0 := DG1.out.res.frozen 0
    have f1 := DG1.out.res.frozen 1
    have f2 := DG1.out.res.frozen 2
    have f3 := DG1.out.res.frozen 3
    have f4 := DG1.out.res.frozen 4
    have f5 := DG1.out.res.frozen 5
    have f6 := DG1.out.res.frozen 6
    have f7 := DG1.out.res.frozen 7
    have f8 := DG1.out.res.frozen 8
    obtain ⟨t0, t1, t2, t3, t4, t5, t6, t7, t8⟩ := cm_cells z2
    unfold set9 at HZ t0 t1 t2 t3 t4 t5 t6 t7 t8
    unfold cmV cmA at HZ
    simp only [c0, s0, List.length_nil] at HZ r0 r1 r2 r3 r4 r5 r6 r7 r8 t0 t1 t2 t3 t4 t5 t6 t7 t8
    clear z1 z2 DG1 
    go_wp2
    refine bodyPost_ret (v := .tuple #[.agg #[.int .i64 0, .int .i64 0, .slice none 0 0, .int .i64 0, .int .i64 0, .int .i64 0, .slice none 0 0, .int .i64 0, .slice none 0 0], .int .i64 0, .int .i64 6]) ?_ rfl HZ.out
    unfold results
    go_simp

end Go.Proofs.Ytgalmkhgbokidaa

namespace Go.Proofs.Ytgalmkhgbokidaa
open Go.RowKit Go.Proofs
set_option maxRecDepth 20000
set_option linter.unusedVariables false
set_option linter.unusedSimpArgs false

set_option maxHeartbeats 8000000 in
theorem rGet1 (w : World) (ba : Option Addr) (cap : Nat) (l : List Int) (at0 : Nat) (hb : Bts w.heap.size w ba l) (hlt : at0 < l.length) (hd : l.getD at0 0 = 1) (hc : l.length ≤ cap) (hl : l.length ≤ 1000000000) :
    Calls Try.prog 19 #[.slice ba l.length cap, .int .i64 (at0 : Int)] w (GAns cmdB Nice RepC c0 l (at0 : Int) w) := by
  have hat : at0 ≤ l.length := by omega
  obtain ⟨b, off, hba, hcell, _, _⟩ := hb.byte hlt
  rw [hd] at hcell
  have hbl : b < w.heap.size := by
    obtain ⟨b', off', e', hb', _⟩ := hb.cells (by rintro rfl; simp at hlt)
    rw [hba] at e'; cases e'; exact hb'
  have hcell0 : (w.alloc (.cells (cmA c0 s0) 31)).cell? ⟨b, off + at0, none⟩ = some (.int .u8 1) := (((Below.refl _ w).alloc (Nat.le_refl _) _).cell (p := ⟨b, off + at0, none⟩) hbl).trans hcell
  have HRB := hid' (Rd.byte hlt hd (by unfold DO; omega))
  have DG0 := hid' (DG.start (w := w) 1)
  have HNUM := hid' (fun W (hW : Below w.heap.size w W) (p m : Nat) (hp : p ≤ l.length) (hm : m ≤ 1000) => numbers_any W ba cap l p m ((hb.keep hW).mono hW.size) hp hc hl hm)
  have HOG := hid' (fun W (hW : Below w.heap.size w W) (p : Int) => oGet_any W ba cap l p ((hb.keep hW).mono hW.size) hc hl)
  have HGF := hid' (fun W (hW : Below w.heap.size w W) (p : Int) => rGetFront_any W ba cap l p ((hb.keep hW).mono hW.size) hc hl)
  have HGT := hid' (fun W (hW : Below w.heap.size w W) (p : Int) => rgetText_any W ba cap l p 65536 ((hb.keep hW).mono hW.size) hc hl (by omega))
  have HBY := hid' hb.range
  have ec : ((at0 + 1 : Nat) : Int) = (at0 : Int) + 1 := by simp
  have hh1 : ¬ (at0 : Int) < 0 := by omega
  have hh2 : ¬ (l.length : Int) < (at0 : Int) := by omega
  have hh3 : ¬ (at0 : Int) = (l.length : Int) := by omega
  unfold cmA c0 s0 at hcell0 DG0
  simp only [List.length_nil] at hcell0 DG0
  obtain ⟨ln, hln⟩ : ∃ n, l.length = n := ⟨_, rfl⟩
  rw [hln] at HNUM HOG HGF HGT hh2 hh3 ⊢
  have HLN := hid' hln
  have hixl : at0 < ln := by omega
  clear hb hcell hd hln
  subst hba
  have HN1 := hid' (HNUM.out _ DG0.out.bel (at0 + 1) 1 (by have := HLN.out; omega) (by omega))
  rw [ec] at HN1
  clear HGT
  go_enter Try.func19, Try.ntmps19
  go_wp2_with fail
  refine HN1.out.mono ?_
  intro e w2 hans
  obtain ⟨hb2, ⟨xn, nb, noff, nc, nx, rfl, hrd, hnx, hcn⟩ | ⟨rfl, hno⟩⟩ := num1 hans
  · have CT := DG0.out.call hb2
    have o1 := CT.bx.cell 1
    have g1 := CT.bx.frozen 1
    simp [cmA] at o1
    have HRN := hid' hrd
    have DG1 : Hid (DG w ⟨1, xn, [], (0, 0), 0, [], 0, []⟩ ⟨none, 0, none, 0, none, 0⟩ (w2.setCell ⟨w.heap.size + 1, 1, none⟩ (.int .i64 xn))) := CT.set (i := 1) (by simp [cmA]) ⟨CT.cm.row, CT.cm.front, CT.cm.sheet, CT.cm.byt, CT.cm.hr, CT.cm.hf, CT.cm.hs⟩
    have d0 := DG1.out.bx.cell 0
    simp [cmA] at d0
    clear CT DG0 hans hrd HN1 hcell0
    have HR2 := hid' (HOG.out _ DG1.out.bel (nx : Int))
    clear HOG HGF hb2
    go_wp2_with fail
    refine HR2.out.mono ?_
    intro e w3 hans
    obtain ⟨v, next, er, rfl, ⟨xr, ⟨ra, rc, hv, hp, hsh⟩, hgot⟩, hb3⟩ := GAns.got hnx hans
    subst hv
    have CT := DG1.out.call hb3
    have o2 := CT.bx.cell 2
    have g2 := CT.bx.frozen 2
    simp [cmA] at o2
    have DG2 : Hid (DG w ⟨1, xn, xr, (0, 0), 0, [], 0, []⟩ ⟨ra, rc, none, 0, none, 0⟩ (w3.setCell ⟨w.heap.size + 1, 2, none⟩ (.slice ra xr.length rc))) := CT.set (i := 2) (by simp [cmA]) ⟨SP.mono hp (fun k hk => by unfold Since at hk; have := DG1.out.lt; omega), CT.cm.front, CT.cm.sheet, CT.cm.byt, hsh, CT.cm.hf, CT.cm.hs⟩
    clear CT DG1 hans HR2 hb3 hp hsh
    rcases hgot with ⟨rfl, hD, hdr, hnn, hnl⟩ | ⟨her, hno⟩
    · obtain ⟨nx2, rfl⟩ := Int.eq_ofNat_of_zero_le (show 0 ≤ next by omega)
      rw [Int.toNat_natCast] at hdr hnl
      have HRR : Hid (Rd rowB (LD 16 VN) (some (l.drop nx)) xr (some (l.drop nx2))) := (⟨hD, hdr⟩ : _ ∧ _)
      have HN3 := hid' (HNUM.out _ DG2.out.bel nx2 3 (by have := HLN.out; omega) (by omega))
      clear hD hdr hnn HNUM
      go_wp2_with fail
      refine HN3.out.mono ?_
      intro e w4 hans
      obtain ⟨hb4, ⟨xt, xu, xd, nb3, noff3, nc3, nx3, s4, rfl, hrd3, hrd4, hnx3, hnb3, hc30, hc31, hc32⟩ | ⟨rfl, tt, s4, hno1, hno2⟩⟩ := num3 hans
      · have CT := DG2.out.call hb4
        have hnbC : nb3 ≠ w.heap.size + 1 := by have := DG2.out.lt; omega
        have HI : Hid (r1Inv w nb3 noff3 xt xu xd ⟨1, xn, xr, (0, 0), 0, [], 0, []⟩ ⟨1, xn, xr, (xt, xu), 0, [], 0, []⟩ ⟨1, xn, xr, (xt, xu), xd, [], 0, []⟩ ⟨ra, rc, none, 0, none, 0⟩ [] w4.drew) := ⟨⟨by simpa using hc30, by simpa using hc31, by simpa using hc32⟩, CT.call (Below.refl _ _).drew⟩
        have HR3 := hid' hrd3
        have HR4 := hid' hrd4
        clear CT DG2 hans hrd3 hrd4 HN3 hb4 hc30 hc31 hc32
        go_wp2_with fail
        refine PQ.wp_region_quiet (r1Val (w.heap.size + 1) nb3 noff3 nc3 xt xu xd) (r1Inv w nb3 noff3 xt xu xd ⟨1, xn, xr, (0, 0), 0, [], 0, []⟩ ⟨1, xn, xr, (xt, xu), 0, [], 0, []⟩ ⟨1, xn, xr, (xt, xu), xd, [], 0, []⟩ ⟨ra, rc, none, 0, none, 0⟩) mixed' (by kernel_rfl) HI.out ?_ ?_
        · refine ⟨?_, ?_, ?_, ?_, ?_, ?_, ?_, ?_, ?_, ?_, ?_, ?_, ?_, ?_, ?_, ?_, trivial⟩
          · intro vs A W hI hC
            exact ⟨PB.wanted_free rfl, run_moveD W (hC.outer 11 rfl)⟩
          · intro vs A W hI hC
            exact ⟨PB.wanted_free rfl, run_ixC 0 W (hC.left 0 rfl) rfl (by omega) (by omega)⟩
          · intro vs A W hI hC
            exact ⟨PB.wanted_free rfl, run_loadZ W (hC.left 1 rfl) hI.1.1⟩
          · intro vs A W hI hC
            exact ⟨PB.wanted_free rfl, run_moveD W (hC.outer 11 rfl)⟩
          · intro vs A W hI hC
            exact ⟨PB.wanted_free rfl, run_ixC 1 W (hC.left 3 rfl) rfl (by omega) (by omega)⟩
          · intro vs A W hI hC
            exact ⟨PB.wanted_free rfl, run_loadZ W (hC.left 4 rfl) hI.1.2.1⟩
          · intro vs A W hI hC
            exact ⟨PB.wanted_free rfl, run_bldT W (hC.left 2 rfl) (hC.left 5 rfl)⟩
          · intro vs A W hI hC
            exact ⟨PB.wanted_free rfl, run_moveD W (hC.outer 11 rfl)⟩
          · intro vs A W hI hC
            exact ⟨PB.wanted_free rfl, run_ixC 2 W (hC.left 7 rfl) rfl (by omega) (by omega)⟩
          · intro vs A W hI hC
            exact ⟨PB.wanted_free rfl, run_loadZ W (hC.left 8 rfl) hI.1.2.2⟩
          · intro vs A W hI hC
            exact ⟨PB.wanted_free rfl, run_faCmd2 W (hC.outer 7 rfl)⟩
          · intro vs A W hI hC
            exact ⟨PB.wanted_free rfl, run_faUp1 W (hC.left 10 rfl)⟩
          · intro vs A W hk hI hC
            obtain rfl : vs = [] := List.length_eq_zero_iff.1 hk
            obtain ⟨⟨i0, i1, i2⟩, hG⟩ := hI
            refine ⟨PB.wanted_free rfl, PQ.loud_skip rfl (run_storeT W (hC.left 11 rfl) (hC.left 6 rfl) (hG.bx.cell 3) (hG.bx.cell 4) (hG.bx.frozen 3) (hG.bx.frozen 4)) ?_⟩
            have hq : DG w ⟨1, xn, xr, (xt, 0), 0, [], 0, []⟩ ⟨ra, rc, none, 0, none, 0⟩ (W.setCell ⟨w.heap.size + 1, 3, none⟩ (.int .i64 xt)) := hG.set (i := 3) (by simp [cmA]) ⟨hG.cm.row, hG.cm.front, hG.cm.sheet, hG.cm.byt, hG.cm.hr, hG.cm.hf, hG.cm.hs⟩
            exact ⟨⟨(cell_set hnbC).trans ((cell_set hnbC).trans i0), (cell_set hnbC).trans ((cell_set hnbC).trans i1), (cell_set hnbC).trans ((cell_set hnbC).trans i2)⟩, hq.set (i := 4) (by simp [cmA]) ⟨hq.cm.row, hq.cm.front, hq.cm.sheet, hq.cm.byt, hq.cm.hr, hq.cm.hf, hq.cm.hs⟩⟩
          · intro vs A W hI hC
            exact ⟨PB.wanted_free rfl, run_faCmd2 W (hC.outer 7 rfl)⟩
          · intro vs A W hI hC
            exact ⟨PB.wanted_free rfl, run_faUp2 W (hC.left 13 rfl)⟩
          · intro vs A W hk hI hC
            match vs, hk, hI, hC with
            | [p], _, hI, hC =>
              obtain ⟨⟨i0, i1, i2⟩, hG⟩ := hI
              refine ⟨PB.wanted_free rfl, PQ.loud_skip rfl (run_storeZ W (hC.left 14 rfl) (hC.left 9 rfl) (hG.bx.cell 5) (hG.bx.frozen 5)) ?_⟩
              exact ⟨⟨(cell_set hnbC).trans i0, (cell_set hnbC).trans i1, (cell_set hnbC).trans i2⟩, hG.set (i := 5) (by simp [cmA]) ⟨hG.cm.row, hG.cm.front, hG.cm.sheet, hG.cm.byt, hG.cm.hr, hG.cm.hf, hG.cm.hs⟩⟩
        · intro vs A W hk hI hE
          match vs, hk, hI, hE with
          | [p, q], _, hI, hE =>
            have DG3 : Hid (DG w ⟨1, xn, xr, (xt, xu), xd, [], 0, []⟩ ⟨ra, rc, none, 0, none, 0⟩ W) := hI.2
            clear hI
            have h_103 : PB.slot A 103 = .slice (some ⟨nb3, noff3, none⟩) 3 nc3 := hE.left 0
            have h_104 : PB.slot A 104 = .pointer (some ⟨nb3, noff3 + 0, none⟩) := hE.left 1
            have h_105 : PB.slot A 105 = .int .i64 xt := hE.left 2
            have h_106 : PB.slot A 106 = .slice (some ⟨nb3, noff3, none⟩) 3 nc3 := hE.left 3
            have h_107 : PB.slot A 107 = .pointer (some ⟨nb3, noff3 + 1, none⟩) := hE.left 4
            have h_108 : PB.slot A 108 = .int .i64 xu := hE.left 5
            have h_109 : PB.slot A 109 = .agg #[.int .i64 xt, .int .i64 xu] := hE.left 6
            have h_110 : PB.slot A 110 = .slice (some ⟨nb3, noff3, none⟩) 3 nc3 := hE.left 7
            have h_111 : PB.slot A 111 = .pointer (some ⟨nb3, noff3 + 2, none⟩) := hE.left 8
            have h_112 : PB.slot A 112 = .int .i64 xd := hE.left 9
            have h_113 : PB.slot A 113 = .pointer (some ⟨w.heap.size + 1, 2, none⟩) := hE.left 10
            have h_114 : PB.slot A 114 = .pointer (some ⟨w.heap.size + 1, 3, none⟩) := hE.left 11
            have h_115 : PB.slot A 115 = .pointer (some ⟨w.heap.size + 1, 2, none⟩) := hE.left 13
            have h_116 : PB.slot A 116 = .pointer (some ⟨w.heap.size + 1, 5, none⟩) := hE.left 14
            have hA := PQ.frame_puts hE.defers hE.size [103, 104, 105, 106, 107, 108, 109, 110, 111, 112, 113, 114, 115, 116] (fun t ht => hE.outer t (by simp only [List.mem_cons, List.not_mem_nil, or_false, not_or] at ht; simp [PB.outer]; omega))
            obtain ⟨fr, hf⟩ : ∃ f, PB.slot A = f := ⟨_, rfl⟩
            rw [hA]
            simp only [PQ.puts]
            rw [hf] at h_103 h_104 h_105 h_106 h_107 h_108 h_109 h_110 h_111 h_112 h_113 h_114 h_115 h_116 ⊢
            clear hA hf hE
            simp only [h_103, h_104, h_105, h_106, h_107, h_108, h_109, h_110, h_111, h_112, h_113, h_114, h_115, h_116, Act.put, List.setIfInBounds_toArray, List.set_cons_succ, List.set_cons_zero]
            clear h_103 h_104 h_105 h_106 h_107 h_108 h_109 h_110 h_111 h_112 h_113 h_114 h_115 h_116
            clear HI d0
            obtain ⟨z0, z1, z2⟩ := DG3.out.done
            have HZ := hid' (fin_yes (w := w) hat (Rd.cmd HRB.out (fun _ => rest1 HRN.out HRR.out HR3.out HR4.out) (fun h => by cases h)) hnx3 z0 z1)
            obtain ⟨r0, r1, r2, r3, r4, r5, r6, r7, r8⟩ := cm_cells DG3.out.res
            obtain ⟨k0, k1, k2, k3, k4, k5, k6, k7, k8⟩ := cm_cells DG3.out.bx
            have f0 := DG3.out.res.frozen 0
            have f1 := DG3.out.res.frozen 1
            have f2 := DG3.out.res.frozen 2
            have f3 := DG3.out.res.frozen 3
            have f4 := DG3.out.res.frozen 4
            have f5 := DG3.out.res.frozen 5
            have f6 := DG3.out.res.frozen 6
            have f7 := DG3.out.res.frozen 7
            have f8 := DG3.out.res.frozen 8
            obtain ⟨t0, t1, t2, t3, t4, t5, t6, t7, t8⟩ := cm_cells z2
            unfold set9 at HZ t0 t1 t2 t3 t4 t5 t6 t7 t8
            unfold cmV cmA at HZ
            simp only [c0, s0] at r0 r1 r2 r3 r4 r5 r6 r7 r8
            simp only [List.length_nil] at HZ r0 r1 r2 r3 r4 r5 r6 r7 r8 t0 t1 t2 t3 t4 t5 t6 t7 t8 k0 k1 k2 k3 k4 k5 k6 k7 k8
            clear z0 z1 z2 DG3 
            go_wp2
            refine bodyPost_ret (v := .tuple #[.agg #[.int .i64 1, .int .i64 xn, .slice ra xr.length rc, .int .i64 xt, .int .i64 xu, .int .i64 xd, .slice none 0 0, .int .i64 0, .slice none 0 0], .int .i64 (nx3 : Int), .int .i64 0]) ?_ rfl HZ.out
            unfold results
            go_simp
      · have DG3 := hid' (DG2.out.call hb4)
        have HNO1 := hid' hno1
        have HNO2 := hid' hno2
        clear hans HN3 hb4 hno1 hno2 DG2
        obtain ⟨z1, z2⟩ := DG3.out.zero
        have HZ := hid' (fin_no (w := w) hat (Rd.cmd HRB.out (fun _ => rest1 HRN.out HRR.out HNO1.out HNO2.out) (fun h => by cases h)) z1)
        obtain ⟨r0, r1, r2, r3, r4, r5, r6, r7, r8⟩ := cm_cells DG3.out.res
        have f0 := DG3.out.res.frozen 0
        have f1 := DG3.out.res.frozen 1
        have f2 := DG3.out.res.frozen 2
        have f3 := DG3.out.res.frozen 3
        have f4 := DG3.out.res.frozen 4
        have f5 := DG3.out.res.frozen 5
        have f6 := DG3.out.res.frozen 6
        have f7 := DG3.out.res.frozen 7
        have f8 := DG3.out.res.frozen 8
        obtain ⟨t0, t1, t2, t3, t4, t5, t6, t7, t8⟩ := cm_cells z2
        unfold set9 at HZ t0 t1 t2 t3 t4 t5 t6 t7 t8
        unfold cmV cmA at HZ
        simp only [c0, s0, List.length_nil] at HZ r0 r1 r2 r3 r4 r5 r6 r7 r8 t0 t1 t2 t3 t4 t5 t6 t7 t8
        clear z1 z2 DG3 
        go_wp2
        refine bodyPost_ret (v := .tuple #[.agg #[.int .i64 0, .int .i64 0, .slice none 0 0, .int .i64 0, .int .i64 0, .int .i64 0, .slice none 0 0, .int .i64 0, .slice none 0 0], .int .i64 0, .int .i64 6]) ?_ rfl HZ.out
        unfold results
        go_simp
    · have HNO : Hid (Rd rowB (LD 16 VN) (some (l.drop nx)) [] none) := hno
      have her' : (er != 0) = true := by simpa using her
      have hez : (er == 0) = false := by simpa using her
      clear hno HNUM
      obtain ⟨z1, z2⟩ := DG2.out.zero
      have HZ := hid' (fin_no (w := w) hat (Rd.cmd HRB.out (fun _ => rest1 HRN.out HNO.out (rdN t0) (rdN 0)) (fun h => by cases h)) z1)
      obtain ⟨r0, r1, r2, r3, r4, r5, r6, r7, r8⟩ := cm_cells DG2.out.res
      have f0 := DG2.out.res.frozen 0
      have f1 := DG2.out.res.frozen 1
      have f2 := DG2.out.res.frozen 2
      have f3 := DG2.out.res.frozen 3
      have f4 := DG2.out.res.frozen 4
      have f5 := DG2.out.res.frozen 5
      have f6 := DG2.out.res.frozen 6
      have f7 := DG2.out.res.frozen 7
      have f8 := DG2.out.res.frozen 8
      obtain ⟨t0, t1, t2, t3, t4, t5, t6, t7, t8⟩ := cm_cells z2
      unfold set9 at HZ t0 t1 t2 t3 t4 t5 t6 t7 t8
      unfold cmV cmA at HZ
      simp only [c0, s0, List.length_nil] at HZ r0 r1 r2 r3 r4 r5 r6 r7 r8 t0 t1 t2 t3 t4 t5 t6 t7 t8
      clear z1 z2 DG2 
      go_wp2
      refine bodyPost_ret (v := .tuple #[.agg #[.int .i64 0, .int .i64 0, .slice none 0 0, .int .i64 0, .int .i64 0, .int .i64 0, .slice none 0 0, .int .i64 0, .slice none 0 0], .int .i64 0, .int .i64 6]) ?_ rfl HZ.out
      unfold results
      go_simp
  · have DG1 := hid' (DG0.out.call hb2)
    have HNO := hid' (hno 0)
    clear hans HN1 hb2 hno DG0 HNUM HOG HGF hcell0
    obtain ⟨z1, z2⟩ := DG1.out.zero
    have HZ := hid' (fin_no (w := w) hat (Rd.cmd HRB.out (fun _ => rest1 HNO.out (rdN []) (rdN t0) (rdN 0)) (fun h => by cases h)) z1)
    obtain ⟨r0, r1, r2, r3, r4, r5, r6, r7, r8⟩ := cm_cells DG1.out.res
    have f0 := DG1.out.res.frozen 0
    have f1 := DG1.out.res.frozen 1
    have f2 := DG1.out.res.frozen 2
    have f3 := DG1.out.res.frozen 3
    have f4 := DG1.out.res.frozen 4
    have f5 := DG1.out.res.frozen 5
    have f6 := DG1.out.res.frozen 6
    have f7 := DG1.out.res.frozen 7
    have f8 := DG1.out.res.frozen 8
    obtain ⟨t0, t1, t2, t3, t4, t5, t6, t7, t8⟩ := cm_cells z2
    unfold set9 at HZ t0 t1 t2 t3 t4 t5 t6 t7 t8
    unfold cmV cmA at HZ
    simp only [c0, s0, List.length_nil] at HZ r0 r1 r2 r3 r4 r5 r6 r7 r8 t0 t1 t2 t3 t4 t5 t6 t7 t8
    clear z1 z2 DG1 
    go_wp2
    refine bodyPost_ret (v := .tuple #[.agg #[.int .i64 0, .int .i64 0, .slice none 0 0, .int .i64 0, .int .i64 0, .int .i64 0, .slice none 0 0, .int .i64 0, .slice none 0 0], .int .i64 0, .int .i64 6]) ?_ rfl HZ.out
    unfold results
    go_simp

end Go.Proofs.Ytgalmkhgbokidaa

namespace Go.Proofs.Ytgalmkhgbokidaa
open Go.RowKit Go.Proofs
set_option maxRecDepth 20000
set_option linter.unusedVariables false
set_option linter.unusedSimpArgs false

set_option maxHeartbeats 8000000 in
theorem rGet2 (w : World) (ba : Option Addr) (cap : Nat) (l : List Int) (at0 : Nat) (hb : Bts w.heap.size w ba l) (hlt : at0 < l.length) (hd : l.getD at0 0 = 2) (hc : l.length ≤ cap) (hl : l.length ≤ 1000000000) :
    Calls Try.prog 19 #[.slice ba l.length cap, .int .i64 (at0 : Int)] w (GAns cmdB Nice RepC c0 l (at0 : Int) w) := by
  have hat : at0 ≤ l.length := by omega
  obtain ⟨b, off, hba, hcell, _, _⟩ := hb.byte hlt
  rw [hd] at hcell
  have hbl : b < w.heap.size := by
    obtain ⟨b', off', e', hb', _⟩ := hb.cells (by rintro rfl; simp at hlt)
    rw [hba] at e'; cases e'; exact hb'
  have hcell0 : (w.alloc (.cells (cmA c0 s0) 31)).cell? ⟨b, off + at0, none⟩ = some (.int .u8 2) := (((Below.refl _ w).alloc (Nat.le_refl _) _).cell (p := ⟨b, off + at0, none⟩) hbl).trans hcell
  have HRB := hid' (Rd.byte hlt hd (by unfold DO; omega))
  have DG0 := hid' (DG.start (w := w) 2)
  have HNUM := hid' (fun W (hW : Below w.heap.size w W) (p m : Nat) (hp : p ≤ l.length) (hm : m ≤ 1000) => numbers_any W ba cap l p m ((hb.keep hW).mono hW.size) hp hc hl hm)
  have HOG := hid' (fun W (hW : Below w.heap.size w W) (p : Int) => oGet_any W ba cap l p ((hb.keep hW).mono hW.size) hc hl)
  have HGF := hid' (fun W (hW : Below w.heap.size w W) (p : Int) => rGetFront_any W ba cap l p ((hb.keep hW).mono hW.size) hc hl)
  have HGT := hid' (fun W (hW : Below w.heap.size w W) (p : Int) => rgetText_any W ba cap l p 65536 ((hb.keep hW).mono hW.size) hc hl (by omega))
  have HBY := hid' hb.range
  have ec : ((at0 + 1 : Nat) : Int) = (at0 : Int) + 1 := by simp
  have hh1 : ¬ (at0 : Int) < 0 := by omega
  have hh2 : ¬ (l.length : Int) < (at0 : Int) := by omega
  have hh3 : ¬ (at0 : Int) = (l.length : Int) := by omega
  unfold cmA c0 s0 at hcell0 DG0
  simp only [List.length_nil] at hcell0 DG0
  obtain ⟨ln, hln⟩ : ∃ n, l.length = n := ⟨_, rfl⟩
  rw [hln] at HNUM HOG HGF HGT hh2 hh3 ⊢
  have HLN := hid' hln
  have hixl : at0 < ln := by omega
  clear hb hcell hd hln
  subst hba
  have HN1 := hid' (HNUM.out _ DG0.out.bel (at0 + 1) 1 (by have := HLN.out; omega) (by omega))
  rw [ec] at HN1
  clear HGT
  go_enter Try.func19, Try.ntmps19
  go_wp2_with fail
  refine HN1.out.mono ?_
  intro e w2 hans
  obtain ⟨hb2, ⟨xn, nb, noff, nc, nx, rfl, hrd, hnx, hcn⟩ | ⟨rfl, hno⟩⟩ := num1 hans
  · have CT := DG0.out.call hb2
    have o1 := CT.bx.cell 1
    have g1 := CT.bx.frozen 1
    simp [cmA] at o1
    have HRN := hid' hrd
    have DG1 : Hid (DG w ⟨2, xn, [], (0, 0), 0, [], 0, []⟩ ⟨none, 0, none, 0, none, 0⟩ (w2.setCell ⟨w.heap.size + 1, 1, none⟩ (.int .i64 xn))) := CT.set (i := 1) (by simp [cmA]) ⟨CT.cm.row, CT.cm.front, CT.cm.sheet, CT.cm.byt, CT.cm.hr, CT.cm.hf, CT.cm.hs⟩
    have d0 := DG1.out.bx.cell 0
    simp [cmA] at d0
    clear CT DG0 hans hrd HN1 hcell0
    have HF2 := hid' (HGF.out _ DG1.out.bel (nx : Int))
    clear HNUM HOG HGF hb2
    go_wp2_with fail
    refine HF2.out.mono ?_
    intro e w3 hans
    obtain ⟨v, next, er, rfl, ⟨xf, ⟨fa, fc, hv, hp, hsh⟩, hgot⟩, hb3⟩ := GAns.got hnx hans
    subst hv
    have CT := DG1.out.call hb3
    have o6 := CT.bx.cell 6
    have g6 := CT.bx.frozen 6
    simp [cmA] at o6
    have DG2 : Hid (DG w ⟨2, xn, [], (0, 0), 0, xf, 0, []⟩ ⟨none, 0, fa, fc, none, 0⟩ (w3.setCell ⟨w.heap.size + 1, 6, none⟩ (.slice fa xf.length fc))) := CT.set (i := 6) (by simp [cmA]) ⟨CT.cm.row, SP.mono hp (fun k hk => by unfold Since at hk; have := DG1.out.lt; omega), CT.cm.sheet, CT.cm.byt, CT.cm.hr, hsh, CT.cm.hs⟩
    clear CT DG1 hans HF2 hb3 hp hsh
    rcases hgot with ⟨rfl, hD, hdr, hnn, hnl⟩ | ⟨her, hno⟩
    · obtain ⟨nx3, rfl⟩ := Int.eq_ofNat_of_zero_le (show 0 ≤ next by omega)
      rw [Int.toNat_natCast] at hdr hnl
      have HR3 : Hid (Rd frontB (LD 16 RT) (some (l.drop nx)) xf (some (l.drop nx3))) := (⟨hD, hdr⟩ : _ ∧ _)
      clear hD hdr hnn
      obtain ⟨z0, z1, z2⟩ := DG2.out.done
      have HZ := hid' (fin_yes (w := w) hat (Rd.cmd HRB.out (fun _ => rest2 HRN.out HR3.out) (fun h => by cases h)) hnl z0 z1)
      obtain ⟨r0, r1, r2, r3, r4, r5, r6, r7, r8⟩ := cm_cells DG2.out.res
      obtain ⟨k0, k1, k2, k3, k4, k5, k6, k7, k8⟩ := cm_cells DG2.out.bx
      have f0 := DG2.out.res.frozen 0
      have f1 := DG2.out.res.frozen 1
      have f2 := DG2.out.res.frozen 2
      have f3 := DG2.out.res.frozen 3
      have f4 := DG2.out.res.frozen 4
      have f5 := DG2.out.res.frozen 5
      have f6 := DG2.out.res.frozen 6
      have f7 := DG2.out.res.frozen 7
      have f8 := DG2.out.res.frozen 8
      obtain ⟨t0, t1, t2, t3, t4, t5, t6, t7, t8⟩ := cm_cells z2
      unfold set9 at HZ t0 t1 t2 t3 t4 t5 t6 t7 t8
      unfold cmV cmA at HZ
      simp only [c0, s0] at r0 r1 r2 r3 r4 r5 r6 r7 r8
      simp only [List.length_nil] at HZ r0 r1 r2 r3 r4 r5 r6 r7 r8 t0 t1 t2 t3 t4 t5 t6 t7 t8 k0 k1 k2 k3 k4 k5 k6 k7 k8
      clear z0 z1 z2 DG2 
      go_wp2
      refine bodyPost_ret (v := .tuple #[.agg #[.int .i64 2, .int .i64 xn, .slice none 0 0, .int .i64 0, .int .i64 0, .int .i64 0, .slice fa xf.length fc, .int .i64 0, .slice none 0 0], .int .i64 (nx3 : Int), .int .i64 0]) ?_ rfl HZ.out
      unfold results
      go_simp
    · have HNO : Hid (Rd frontB (LD 16 RT) (some (l.drop nx)) [] none) := hno
      have her' : (er != 0) = true := by simpa using her
      clear hno
      obtain ⟨z1, z2⟩ := DG2.out.zero
      have HZ := hid' (fin_no (w := w) hat (Rd.cmd HRB.out (fun _ => rest2 HRN.out HNO.out) (fun h => by cases h)) z1)
      obtain ⟨r0, r1, r2, r3, r4, r5, r6, r7, r8⟩ := cm_cells DG2.out.res
      have f0 := DG2.out.res.frozen 0
      have f1 := DG2.out.res.frozen 1
      have f2 := DG2.out.res.frozen 2
      have f3 := DG2.out.res.frozen 3
      have f4 := DG2.out.res.frozen 4
      have f5 := DG2.out.res.frozen 5
      have f6 := DG2.out.res.frozen 6
      have f7 := DG2.out.res.frozen 7
      have f8 := DG2.out.res.frozen 8
      obtain ⟨t0, t1, t2, t3, t4, t5, t6, t7, t8⟩ := cm_cells z2
      unfold set9 at HZ t0 t1 t2 t3 t4 t5 t6 t7 t8
      unfold cmV cmA at HZ
      simp only [c0, s0, List.length_nil] at HZ r0 r1 r2 r3 r4 r5 r6 r7 r8 t0 t1 t2 t3 t4 t5 t6 t7 t8
      clear z1 z2 DG2 
      go_wp2
      refine bodyPost_ret (v := .tuple #[.agg #[.int .i64 0, .int .i64 0, .slice none 0 0, .int .i64 0, .int .i64 0, .int .i64 0, .slice none 0 0, .int .i64 0, .slice none 0 0], .int .i64 0, .int .i64 6]) ?_ rfl HZ.out
      unfold results
      go_simp
  · have DG1 := hid' (DG0.out.call hb2)
    have HNO := hid' (hno 0)
    clear hans HN1 hb2 hno DG0 HNUM HOG HGF hcell0
    obtain ⟨z1, z2⟩ := DG1.out.zero
    have HZ := hid' (fin_no (w := w) hat (Rd.cmd HRB.out (fun _ => rest2 HNO.out (rdN [])) (fun h => by cases h)) z1)
    obtain ⟨r0, r1, r2, r3, r4, r5, r6, r7, r8⟩ := cm_cells DG1.out.res
    have f0 := DG1.out.res.frozen 0
    have f1 := DG1.out.res.frozen 1
    have f2 := DG1.out.res.frozen 2
    have f3 := DG1.out.res.frozen 3
    have f4 := DG1.out.res.frozen 4
    have f5 := DG1.out.res.frozen 5
    have f6 := DG1.out.res.frozen 6
    have f7 := DG1.out.res.frozen 7
    have f8 := DG1.out.res.frozen 8
    obtain ⟨t0, t1, t2, t3, t4, t5, t6, t7, t8⟩ := cm_cells z2
    unfold set9 at HZ t0 t1 t2 t3 t4 t5 t6 t7 t8
    unfold cmV cmA at HZ
    simp only [c0, s0, List.length_nil] at HZ r0 r1 r2 r3 r4 r5 r6 r7 r8 t0 t1 t2 t3 t4 t5 t6 t7 t8
    clear z1 z2 DG1 
    go_wp2
    refine bodyPost_ret (v := .tuple #[.agg #[.int .i64 0, .int .i64 0, .slice none 0 0, .int .i64 0, .int .i64 0, .int .i64 0, .slice none 0 0, .int .i64 0, .slice none 0 0], .int .i64 0, .int .i64 6]) ?_ rfl HZ.out
    unfold results
    go_simp

end Go.Proofs.Ytgalmkhgbokidaa
