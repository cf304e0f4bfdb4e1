/-
  What is proved here: Ops tells the ops of an error that is wrapped any number of times, the outermost first, in new memory.
-/
import Derived.Test.YtnpnbhgkcaefnaaDoorNum
import Derived.OwnWalk
namespace Go.Proofs.YtnpnbhgkcaefnaaDoor
open Go.RowKit Go.Extern.Stop Go.Stop Go.Extern
set_option linter.unusedVariables false

theorem Tryd.info9 : (Tryd.prog.info? 9).map (fun i => (i.zero, i.size, i.bytes)) = some (some (.string ⟨#[]⟩), 1, 16) := by kernel_rfl

/-- Texts as cells. -/
def S9 (l : List ByteArray) : List Value := l.map Value.string

theorem one_cell (w : World) (v : Value) (t : TypeId) : ∀ j u, [v][j]? = some u → (w.alloc (.cells #[v] t)).cell? ((⟨w.heap.size, 0, none⟩ : Addr).add j) = some u := by
  intro j u hj
  match j, hj with
  | 0, hj => simp at hj; subst hj; simp [Addr.add]
  | j + 1, hj => simp at hj

theorem one_str (s : ByteArray) : ∀ u ∈ [Value.string s], u.oneCell' = true := by
  intro u hu
  simp at hu
  subst hu
  rfl

theorem isErr_wrap {b : Value} (hb : ∃ t v, b = .iface t v) (r : List ByteArray) : IsErr (wrapV r b) := .inr (wrapV_iface hb r)

theorem owns_keep {w w' : World} {base : Nat} {e : TypeId} {size : Nat} {v : Value} {n : Nat} {xs : List Value} (h : w.ownsRow base e size v n xs) (hb : Below w.heap.size w w') : w'.ownsRow base e size v n xs := by
  obtain ⟨h1, h2 | ⟨g, cap, cur, hv, hg, hh, hrest⟩⟩ := h
  · exact ⟨h1, .inl h2⟩
  · have hlt : g < w.heap.size := by
      rcases Nat.lt_or_ge g w.heap.size with k | k
      · exact k
      · rw [Array.getElem?_eq_none k] at hh; cases hh
    exact ⟨h1, .inr ⟨g, cap, cur, hv, hg, (hb.block g hlt).trans hh, hrest⟩⟩

/-- A slice that grew by one. -/
theorem grown_below {w wr w1 : World} {B : Nat} {e : TypeId} {size : Nat} {v : Value} {n : Nat} {xs : List Value} {o : Obj} (hb : Below B w wr) (hB : B ≤ w.heap.size) (hown : wr.ownsRow B e size v n xs) (hg : (wr.alloc o).grownBy w1 v.ownBlock) : Below B w w1 := by
  have hs := hb.size
  exact (hb.alloc (by omega) o).grown hg (by simp; omega) (fun k hk => (hown.lt k hk).1)

/-- Where Ops' loop stands. -/
def OpsAt (w : World) (ops : List ByteArray) (b : Value) (k : Nat) (p v : Value) (wr : World) : Prop :=
  ∃ done : List ByteArray, wr.ownsRow w.heap.size 9 1 v done.length (S9 done) ∧ Below w.heap.size w wr ∧
    ((p = .nilIface ∧ k = 0 ∧ done = ops) ∨ ∃ r, ops = done ++ r ∧ p = wrapV r b ∧ k = r.length + 1)

set_option maxHeartbeats 4000000 in
theorem ops_of (ops : List ByteArray) (tb : TypeId) (vb : Value) (hops : ops.length ≤ 100000) (hop : ∀ W : World, Calls Tryd.prog 20 #[.iface tb vb] W fun e w' => e = .returned (.tuple #[.string ⟨#[]⟩, .bool false]) ∧ Below W.heap.size W w')
    (hin : ∀ W : World, Calls Tryd.prog 21 #[.iface tb vb] W fun e w' => e = .returned .nilIface ∧ Below W.heap.size W w') (w : World) :
    Calls Tryd.prog 9 #[wrapV ops (.iface tb vb)] w fun e w' => ∃ v, e = .returned v ∧ w'.ownsRow w.heap.size 9 1 v ops.length (S9 ops) ∧ Below w.heap.size w w' := by
  obtain ⟨i0, hi, hz0, hz1, hz2⟩ := info_parts Tryd.info9
  have HOP := hid' hop
  have HIN := hid' hin
  clear hop hin
  go_enter Tryd.func9, Tryd.ntmps9
  go_wp2
  go_loopg [0, 3] (ops.length + 1) (fun k p v wr => OpsAt w ops (.iface tb vb) k p v wr)
  case atStart => exact ⟨[], World.ownsRow_nil _ _ _ _, Below.refl _ _, .inr ⟨ops, rfl, rfl, rfl⟩⟩
  case round =>
    obtain ⟨done, hown, hb, ⟨rfl, hk, rfl⟩ | ⟨r, hr, rfl, hk⟩⟩ := hrel
    · have HO := hid' (And.intro hown hb)
      clear hown hb
      go_wp2
      go_ret
      exact ⟨_, rfl, HO.out.1, HO.out.2⟩
    · have HR : Hid (ops = done ++ r ∧ gk = r.length + 1) := ⟨hr, hk⟩
      have hl : done.length + r.length ≤ 100000 := by rw [hr, List.length_append] at hops; exact hops
      clear hr hk
      have HO := hid' (And.intro hown hb)
      have hsz := hb.size
      clear hown hb
      cases r with
      | nil =>
        unfold wrapV
        go_wp2_with fail
        refine (HOP.out wr).mono ?_
        rintro e w1 ⟨rfl, hb1⟩
        have HO1 := hid' (And.intro (owns_keep HO.out.1 hb1) (HO.out.2.trans (hb1.mono hsz)))
        clear hb1
        go_wp2_with fail
        refine (HIN.out w1).mono ?_
        rintro e w2 ⟨rfl, hb2⟩
        have HO2 := hid' (And.intro (owns_keep HO1.out.1 hb2) (HO1.out.2.trans (hb2.mono HO1.out.2.size)))
        clear hb2
        go_wp2
        go_roundg 0
        case measure => have := HR.out.2; omega
        case rel => exact ⟨done, HO2.out.1, HO2.out.2, .inl ⟨rfl, rfl, by rw [HR.out.1, List.append_nil]⟩⟩
      | cons op r =>
        have hw := isErr_wrap (b := .iface tb vb) ⟨_, _, rfl⟩ r
        have HOF := hid' (fun W => opOf_fail op _ hw W)
        have HIF := hid' (fun W => inner_fail op _ hw W)
        have hl' : done.length + (r.length + 1) ≤ 100000 := hl
        clear hl hw
        unfold wrapV
        unfold failV at HOF HIF ⊢
        generalize hp : wrapV r (.iface tb vb) = P at HOF HIF
        have HP := hid' hp
        clear hp
        go_wp2_with fail
        refine (HOF.out wr).mono ?_
        rintro e w1 ⟨rfl, hb1⟩
        have HO1 := hid' (And.intro (owns_keep HO.out.1 hb1) (HO.out.2.trans (hb1.mono hsz)))
        have hsz1 := HO1.out.2.size
        clear hb1
        go_wp2_with (at_builtin; refine wpList_append_own _ rfl (.tmp 14) (.tmp 16) 22 rfl w.heap.size 9 i0 (.string ⟨#[]⟩) 1 16 Tryd.underlying22 hi hz0 hz1 hz2 rfl (by decide) _ _ _ rfl (HO1.out.1.alloc _) ⟨w1.heap.size, 0, none⟩ 1 1 [.string op] rfl rfl (one_cell _ _ _) (one_str _) (by unfold maxLen; omega) (by omega) (by simp; omega) ?_; intro v' w2 hown2 hgrow2 hnil2)
        have HO2 : Hid (w2.ownsRow w.heap.size 9 1 v' (done ++ [op]).length (S9 (done ++ [op])) ∧ Below w.heap.size w w2) := ⟨by simpa [S9] using hown2, grown_below HO1.out.2 (Nat.le_refl _) HO1.out.1 hgrow2⟩
        clear hown2 hgrow2 hnil2
        go_wp2_with fail
        refine (HIF.out w2).mono ?_
        rintro e w3 ⟨rfl, hb3⟩
        have HO3 := hid' (And.intro (owns_keep HO2.out.1 hb3) (HO2.out.2.trans (hb3.mono HO2.out.2.size)))
        clear hb3
        go_wp2
        go_roundg (r.length + 1)
        case measure => have := HR.out.2; simp only [List.length_cons] at this; omega
        case rel => exact ⟨done ++ [op], HO3.out.1, HO3.out.2, .inr ⟨r, by rw [HR.out.1]; simp, HP.out.symm, rfl⟩⟩
end Go.Proofs.YtnpnbhgkcaefnaaDoor
