/-
  What is proved here: slices of one time; slices.Clone of one.
-/
import Derived.Test.YtlamcgeboclkjaaTs
import Derived.Maps.OwnSet
import Derived.OwnWalk
import Derived.Lib.SliceRun
namespace Go.Proofs.Ytlamcgeboclkjaa
open Go.RowKit Go.Maps
set_option linter.unusedVariables false
set_option linter.unusedSimpArgs false

/-- A slice that holds one time, in a block of its own. -/
def One (x : T) (v : Value) (w : World) : Prop := RT x ∧ ∃ g c cur, v = .slice (some ⟨g, 0, none⟩) 1 c ∧ 1 ≤ c ∧ w.heap[g]? = some (.cells cur 31 (0, 0)) ∧ cur.toList.take 2 = [.int .i64 x.1, .int .i64 x.2]

theorem One.on {x : T} {v : Value} {w w' : World} (h : One x v w) (hb : Below w.heap.size w w') : One x v w' := by
  obtain ⟨hr, g, c, cur, rfl, hc, hg, ht⟩ := h
  exact ⟨hr, g, c, cur, rfl, hc, (hb.block g (Array.getElem?_eq_some_iff.1 hg).1).trans hg, ht⟩

theorem One.cells {x : T} {w : World} {g c : Nat} (h : One x (.slice (some ⟨g, 0, none⟩) 1 c) w) : g < w.heap.size ∧ w.cell? ⟨g, 0, none⟩ = some (.int .i64 x.1) ∧ w.cell? ⟨g, 1, none⟩ = some (.int .i64 x.2) := by
  obtain ⟨hr, g', c', cur, e, hc, hg, ht⟩ := h
  simp at e
  obtain ⟨rfl, rfl⟩ := e
  refine ⟨(Array.getElem?_eq_some_iff.1 hg).1, ?_, ?_⟩
  · rw [cell_of_row _ _ _ _ _ _ hg]
    have : (cur.toList.take 2)[0]? = some (.int .i64 x.1) := by rw [ht]; rfl
    rw [List.getElem?_take_of_lt (by omega), Array.getElem?_toList] at this
    exact this
  · rw [cell_of_row _ _ _ _ _ _ hg]
    have : (cur.toList.take 2)[1]? = some (.int .i64 x.2) := by rw [ht]; rfl
    rw [List.getElem?_take_of_lt (by omega), Array.getElem?_toList] at this
    exact this

theorem One.of_owns {x : T} {w : World} {base : Nat} {v : Value} (h : w.ownsRow base 31 2 v 1 [.int .i64 x.1, .int .i64 x.2]) (hr : RT x) : One x v w := by
  rcases h.2 with ⟨_, h0⟩ | ⟨g, cap, cur, rfl, hg, hb, hle, hm, hs, ht⟩
  · cases h0
  · exact ⟨hr, g, cap, cur, rfl, hle, hb, ht⟩

set_option maxRecDepth 10000 in
set_option maxHeartbeats 1000000 in
theorem clone_one (x : T) (v : Value) (w : World) (h : One x v w) :
    Calls Try.prog 18 #[v] w fun e w' => ∃ u, e = .returned u ∧ One x u w' ∧ Below w.heap.size w w' := by
  obtain ⟨i23, hi23, hy0, hy1, hy2⟩ := info_parts Try.info23
  obtain ⟨g, c, rfl⟩ : ∃ g c, v = .slice (some ⟨g, 0, none⟩) 1 c := by obtain ⟨_, g, c, _, e, _⟩ := h; exact ⟨g, c, e⟩
  obtain ⟨hg, h1, h2⟩ := h.cells
  have hr := h.1
  have HH := hid' h
  clear h
  have q : ∀ (w : World) (a : Addr) (n c : Nat), (binOp .eql 32 (.slice (some a) n c) (.slice none 0 0)).run Try.prog w = .ok (.bool false) w := fun w a n c => Lib.run_eql_slice_nil w _ _ (some a) n c 0 0 Try.underlying32
  go_enter Try.func18, Try.ntmps18
  have hsrc : ∀ j u, [Value.int .i64 x.1, Value.int .i64 x.2][j]? = some u → (w.alloc (.cells #[] 31)).cell? ((⟨g, 0, none⟩ : Addr).add j) = some u := by
    intro j u hj
    have e : (w.alloc (.cells #[] 31)).cell? ((⟨g, 0, none⟩ : Addr).add j) = w.cell? ((⟨g, 0, none⟩ : Addr).add j) := World.cell?_of_block (Below.heap_alloc _ _ _ (by cases j <;> simpa [Addr.add] using hg))
    rw [e]
    match j, hj with
    | 0, hj => simp at hj; subst hj; simpa [Addr.add] using h1
    | 1, hj => simp at hj; subst hj; simpa [Addr.add] using h2
    | j + 2, hj => simp at hj
  have HSRC := hid' hsrc
  clear hsrc h1 h2
  go_wp2_with (at_builtin; refine wpList_append_own _ rfl _ _ 32 rfl w.heap.size 31 i23 (.agg #[.int .i64 0, .int .i64 0]) 2 16 Try.underlying32 hi23 hy0 hy1 hy2 rfl (by decide) _ 0 [] rfl ⟨rfl, .inr ⟨w.heap.size, 0, #[], rfl, Nat.le_refl _, World.alloc_heap_new w _, Nat.le_refl _, Nat.zero_le _, rfl, rfl⟩⟩ ⟨g, 0, none⟩ 1 c [.int .i64 x.1, .int .i64 x.2] rfl rfl HSRC.out (by simp [Value.oneCell']) (by decide) (by decide) (by simp) ?_; intro v' w' hown' hg' hnil')
  go_ret
  have hgr : (w.alloc (.cells #[] 31)).grownBy w' (some w.heap.size) := hg'
  have hb0 : Below w.heap.size w (w.alloc (.cells #[] 31)) := (Below.refl _ w).alloc (Nat.le_refl _) _
  exact ⟨v', rfl, One.of_owns hown' hr, hb0.grown hgr hb0.size (fun k e => by cases e; exact Nat.le_refl _)⟩

end Go.Proofs.Ytlamcgeboclkjaa
