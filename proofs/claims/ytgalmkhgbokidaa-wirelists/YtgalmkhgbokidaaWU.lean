/-
  What is proved here: what the document's Get wants: numbers by one, two and three; its variables in memory.
-/
import Derived.Test.YtgalmkhgbokidaaWT
import Derived.Test.YtgalmkhgbokidaaWQ
namespace Go.Proofs.Ytgalmkhgbokidaa
open Go.RowKit Go.Proofs
set_option maxRecDepth 20000
set_option linter.unusedVariables false
set_option linter.unusedSimpArgs false

theorem num1 {l : List Int} {p : Nat} {w w' : World} {e : Ending} (h : NAns l p 1 w e w') : Below w.heap.size w w' ∧ ((∃ (x : Int) (b off c nx : Nat), e = .returned (.tuple #[.slice (some ⟨b, off, none⟩) 1 c, .int .i64 (nx : Int), .bool true]) ∧ Rd oneB R64 (some (l.drop p)) x (some (l.drop nx)) ∧ nx ≤ l.length ∧ w'.cell? ⟨b, off, none⟩ = some (.int .i64 x)) ∨
    (e = .returned (.tuple #[.slice none 0 0, .int .i64 0, .bool false]) ∧ ∀ x, Rd oneB R64 (some (l.drop p)) x none)) := by
  obtain ⟨hb, h⟩ := h
  refine ⟨hb, ?_⟩
  rcases h with ⟨xs, a, c, nx, rfl, hl, hr, hd, hn, hip⟩ | ⟨rfl, hno⟩
  · match xs, hl with
    | [x], _ =>
      obtain ⟨b, off, rfl⟩ := SP.lt hip (by simp)
      exact .inl ⟨x, b, off, c, nx, rfl, ⟨hr x (by simp), by simpa using hd⟩, hn, by have := IP.at hip (i := 0) (by simp); simpa using this⟩
  · exact .inr ⟨rfl, fun x y r hy e => hno [y] r rfl (by simpa using hy) (by simpa using e)⟩

theorem num2 {l : List Int} {p : Nat} {w w' : World} {e : Ending} (h : NAns l p 2 w e w') : Below w.heap.size w w' ∧ ((∃ (x y : Int) (b off c nx : Nat), e = .returned (.tuple #[.slice (some ⟨b, off, none⟩) 2 c, .int .i64 (nx : Int), .bool true]) ∧ Rd timeB RT (some (l.drop p)) (x, y) (some (l.drop nx)) ∧ nx ≤ l.length ∧ w.heap.size ≤ b ∧ w'.cell? ⟨b, off, none⟩ = some (.int .i64 x) ∧ w'.cell? ⟨b, off + 1, none⟩ = some (.int .i64 y)) ∨
    (e = .returned (.tuple #[.slice none 0 0, .int .i64 0, .bool false]) ∧ ∀ x, Rd timeB RT (some (l.drop p)) x none)) := by
  obtain ⟨hb, h⟩ := h
  refine ⟨hb, ?_⟩
  rcases h with ⟨xs, a, c, nx, rfl, hl, hr, hd, hn, hip⟩ | ⟨rfl, hno⟩
  · match xs, hl with
    | [x, y], _ =>
      obtain ⟨b, off, e', hbl, _, _⟩ := hip.cells (by simp)
      subst e'
      exact .inl ⟨x, y, b, off, c, nx, rfl, ⟨⟨hr x (by simp), hr y (by simp)⟩, by simpa [timeB] using hd⟩, hn, hbl, by have := IP.at hip (i := 0) (by simp); simpa using this, by have := IP.at hip (i := 1) (by simp); simpa using this⟩
  · exact .inr ⟨rfl, fun x y r hy e => hno [y.1, y.2] r rfl (by simpa using ⟨hy.1, hy.2⟩) (by simpa [timeB] using e)⟩

theorem num3 {l : List Int} {p : Nat} {w w' : World} {e : Ending} (h : NAns l p 3 w e w') : Below w.heap.size w w' ∧ ((∃ (x y z : Int) (b off c nx : Nat) (s4 : Option (List Int)), e = .returned (.tuple #[.slice (some ⟨b, off, none⟩) 3 c, .int .i64 (nx : Int), .bool true]) ∧ Rd timeB RT (some (l.drop p)) (x, y) s4 ∧ Rd oneB R64 s4 z (some (l.drop nx)) ∧ nx ≤ l.length ∧ w.heap.size ≤ b ∧ w'.cell? ⟨b, off, none⟩ = some (.int .i64 x) ∧ w'.cell? ⟨b, off + 1, none⟩ = some (.int .i64 y) ∧ w'.cell? ⟨b, off + 2, none⟩ = some (.int .i64 z)) ∨
    (e = .returned (.tuple #[.slice none 0 0, .int .i64 0, .bool false]) ∧ ∃ (t : T) (s4 : Option (List Int)), Rd timeB RT (some (l.drop p)) t s4 ∧ Rd oneB R64 s4 0 none)) := by
  obtain ⟨hb, h⟩ := h
  refine ⟨hb, ?_⟩
  rcases h with ⟨xs, a, c, nx, rfl, hl, hr, hd, hn, hip⟩ | ⟨rfl, hno⟩
  · match xs, hl with
    | [x, y, z], _ =>
      obtain ⟨b, off, e', hbl, _, _⟩ := hip.cells (by simp)
      subst e'
      exact .inl ⟨x, y, z, b, off, c, nx, some (oneB z ++ l.drop nx), rfl, ⟨⟨hr x (by simp), hr y (by simp)⟩, by simpa [timeB] using hd⟩, ⟨hr z (by simp), rfl⟩, hn, hbl, by have := IP.at hip (i := 0) (by simp); simpa using this, by have := IP.at hip (i := 1) (by simp); simpa using this, by have := IP.at hip (i := 2) (by simp); simpa using this⟩
  · refine .inr ⟨rfl, ?_⟩
    by_cases ht : ∃ (t : T) (r : List Int), RT t ∧ l.drop p = timeB t ++ r
    · obtain ⟨t, r, h1, h2⟩ := ht
      refine ⟨t, some r, ⟨h1, h2⟩, fun y r' hy e => hno [t.1, t.2, y] r' rfl (by simpa using ⟨h1.1, h1.2, hy⟩) ?_⟩
      rw [h2, e]
      simp [timeB]
    · exact ⟨t0, none, fun y r hy e => ht ⟨y, r, hy, e⟩, trivial⟩

/-- What holds while the document's Get goes on: its result's block, the command's block. -/
structure DG (w : World) (c : Cm) (s : CmS) (W : World) : Prop where
  bel : Below w.heap.size w W
  res : Bx W w.heap.size (cmA c0 s0) 31
  bx : Bx W (w.heap.size + 1) (cmA c s) 31
  cm : CmR (fun k => w.heap.size + 1 < k) W c s

section
variable {w : World} {c : Cm} {s : CmS} {W W' : World}
theorem DG.start (d : Int) : DG w ⟨d, 0, [], (0, 0), 0, [], 0, []⟩ s0 ((w.alloc (.cells (cmA c0 s0) 31)).alloc (.cells (cmA ⟨d, 0, [], (0, 0), 0, [], 0, []⟩ s0) 31)) := by
  have B0 : Below w.heap.size w (w.alloc (.cells (cmA c0 s0) 31)) := (Below.refl _ _).alloc (Nat.le_refl _) _
  have eg : (w.alloc (.cells (cmA c0 s0) 31)).heap.size = w.heap.size + 1 := World.size_alloc _ _
  have B1 := (Below.refl (w.alloc (.cells (cmA c0 s0) 31)).heap.size _).alloc (Nat.le_refl _) (.cells (cmA ⟨d, 0, [], (0, 0), 0, [], 0, []⟩ s0) 31)
  refine ⟨bel_trans' B0 B1, (Bx.new w _ _).keep B1, ?_, cmR1 _ _ _⟩
  have := Bx.new (w.alloc (.cells (cmA c0 s0) 31)) (cmA ⟨d, 0, [], (0, 0), 0, [], 0, []⟩ s0) 31
  rwa [eg] at this
theorem DG.call (h : DG w c s W) (hb : Below W.heap.size W W') : DG w c s W' := ⟨bel_trans' h.bel hb, h.res.keep hb, h.bx.keep hb, h.cm.on hb⟩
theorem DG.set {i : Nat} {v : Value} {c' : Cm} {s' : CmS} (h : DG w c s W) (he : (cmA c s).setIfInBounds i v = cmA c' s') (hc : CmR (fun k => w.heap.size + 1 < k) W c' s') : DG w c' s' (W.setCell ⟨w.heap.size + 1, i, none⟩ v) :=
  ⟨h.bel.setCell (p := ⟨w.heap.size + 1, i, none⟩) (Nat.le_succ _) v, (Below.heap_setCell _ _ _ _ (by show w.heap.size ≠ w.heap.size + 1; omega)).trans h.res, by rw [← he]; exact h.bx.setCell, hc.keep (fun k hk hl => ⟨Below.heap_setCell _ _ _ _ (by show k ≠ w.heap.size + 1; omega), hk⟩) (by simp)⟩
theorem DG.lt (h : DG w c s W) : w.heap.size + 1 < W.heap.size := h.bx.lt
theorem DG.done (h : DG w c s W) : CmR (Since w.heap.size) (set9 W w.heap.size c s) c s ∧ Below w.heap.size w (set9 W w.heap.size c s) ∧ Bx (set9 W w.heap.size c s) w.heap.size (cmA c s) 31 :=
  ⟨h.cm.keep (fun k hk hl => ⟨set9_other W _ c s (by omega), by unfold Since; omega⟩) (by rw [set9_size]; exact Nat.le_refl _), set9_below h.bel (Nat.le_refl _) c s, set9_bx h.res c s⟩
theorem DG.zero (h : DG w c s W) : Below w.heap.size w (set9 W w.heap.size c0 s0) ∧ Bx (set9 W w.heap.size c0 s0) w.heap.size (cmA c0 s0) 31 := ⟨set9_below h.bel (Nat.le_refl _) _ _, set9_bx h.res _ _⟩
theorem DG.rowSet {a : Option Addr} {n : Nat} {x : List V} (h : DG w c s W) (hp : VP (Since (w.heap.size + 1 + 1)) W a x) (hs : Sh a x.length n) : CmR (fun k => w.heap.size + 1 < k) W { c with row := x } { s with ra := a, rc := n } := ⟨SP.mono hp (fun k hk => by unfold Since at hk; omega), h.cm.front, h.cm.sheet, h.cm.byt, hs, h.cm.hf, h.cm.hs⟩
theorem DG.frontSet {a : Option Addr} {n : Nat} {x : List T} (h : DG w c s W) (hp : TP (Since (w.heap.size + 1 + 1)) W a x) (hs : Sh a x.length n) : CmR (fun k => w.heap.size + 1 < k) W { c with front := x } { s with fa := a, fc := n } := ⟨h.cm.row, SP.mono hp (fun k hk => by unfold Since at hk; omega), h.cm.sheet, h.cm.byt, h.cm.hr, hs, h.cm.hs⟩
end

theorem rdN {α : Type} {f : α → List Int} {D : α → Prop} (x : α) : Rd f D none x none := trivial

theorem Rd.byte {l : List Int} {at0 : Nat} {d : Int} (hlt : at0 < l.length) (hd : l.getD at0 0 = d) (h : DO d) : Rd doB DO (some (l.drop at0)) d (some (l.drop (at0 + 1))) := ⟨h, by rw [drop_byte hlt, hd]; rfl⟩

theorem fin_yes {l : List Int} {at0 nx : Nat} {c : Cm} {s : CmS} {w W : World} (ha : at0 ≤ l.length) (h : Rd cmdB Nice (some (l.drop at0)) c (some (l.drop nx))) (hn : nx ≤ l.length) (hc : CmR (Since w.heap.size) W c s) (hb : Below w.heap.size w W) : GAns cmdB Nice RepC c0 l (at0 : Int) w (.returned (.tuple #[cmV c s, .int .i64 (nx : Int), .int .i64 0])) W :=
  ⟨c, _, nx, 0, rfl, ⟨s, rfl, hc⟩, hb, .inr (.inl ⟨by omega, by omega, rfl, h.1, by simpa using h.2, by simp, by simpa using hn⟩)⟩

theorem fin_no {l : List Int} {at0 : Nat} {c : Cm} {w W : World} (ha : at0 ≤ l.length) (h : Rd cmdB Nice (some (l.drop at0)) c none) (hb : Below w.heap.size w W) : GAns cmdB Nice RepC c0 l (at0 : Int) w (.returned (.tuple #[cmV c0 s0, .int .i64 0, .int .i64 6])) W :=
  ⟨c0, _, 0, 6, rfl, RepC.zero _ _, hb, .inr (.inr ⟨by omega, by omega, rfl, rfl, rfl, fun y r hy => by simpa using h y r hy⟩)⟩

end Go.Proofs.Ytgalmkhgbokidaa
