/-
  What is proved here: Unique: a new slice of the list's times, each once, in strict order; nothing old is written.
-/
import Derived.Test.YtboeodcjcbgeaaaSorted
import Derived.Maps.OwnSet
import Derived.OwnWalk
namespace Go.Proofs.Ytboeodcjcbgeaaa
open Go.RowKit Go.Maps Go.Proofs
set_option linter.unusedVariables false
set_option linter.unusedSimpArgs false

/-- The map holds just these times. -/
def Just {H : Type} (D : DataW H) (l : List T) : Prop := ∀ x, RT x → (has D (kl x) = true ↔ x ∈ l)

set_option maxRecDepth 100000 in
theorem run_makeMapN (n : Int) (w : World) (h : 0 ≤ n) : (Instr.makeMap 78 (some (.int .i64 n))).run Try.prog w = .ok (.map (some w.heap.size)) (w.alloc (.map #[] 0)) := by
  simp [Instr.makeMap, asInt, asIntOf]

set_option maxRecDepth 100000 in
theorem just_put {H : Type} {D : DataW H} {l : List T} {x : T} (hD : IsMap D) (h : Just D l) (hx : RT x) (d : DataW H) : Just (D.put (kl x) d) (l ++ [x]) := by
  intro y hy
  by_cases e : y = x
  · subst e
    rw [has_put_same hD (keyed37.key (keyOf_mk hx))]
    simp
  · rw [has_put_other (fun h => e (kl_inj hy hx h)), h y hy]
    simp [e]

set_option maxRecDepth 100000 in
theorem rows_apart {w : World} {b1 b2 e1 e2 s1 s2 n1 n2 : Nat} {v1 v2 : Value} {x1 x2 : List Value} (h1 : w.ownsRow b1 e1 s1 v1 n1 x1) (h2 : w.ownsRow b2 e2 s2 v2 n2 x2) (hne : e1 ≠ e2) : v1.ownBlock = none ∨ v1.ownBlock ≠ v2.ownBlock := by
  rcases h2.2 with ⟨rfl, _⟩ | ⟨g, cap, cur, rfl, _, hg, _⟩
  · rcases h1.2 with ⟨rfl, _⟩ | ⟨g, cap, cur, rfl, _, hg, _⟩
    · exact .inl rfl
    · exact .inr (by simp [Value.ownBlock])
  · exact ownsRow_ne_a h1 hg (fun cur' e => by have := (Obj.cells.inj e).2.1; exact hne this.symm)

set_option maxRecDepth 100000 in
set_option maxHeartbeats 2000000 in
theorem unique_any (w : World) (a : Option Addr) (cap : Nat) (l : List T) (h : Ts w.heap.size w a l) (hl : l.length ≤ 1000000000) :
    Calls Try.prog 32 #[.slice a l.length cap] w fun e w' => ∃ v u, e = .returned v ∧ u.length ≤ l.length ∧ SetOf u (· ∈ l) ∧ w'.ownsRow w.heap.size 36 2 v u.length (flat u) ∧ Below w.heap.size w w' := by
  have hmm : ∀ w', (Instr.makeMap 78 (some (.int .i64 (l.length : Int)))).run Try.prog w' = .ok (.map (some w'.heap.size)) (w'.alloc (.map #[] 0)) := fun w' => run_makeMapN _ w' (by omega)
  go_enter Try.func32, Try.ntmps32
  go_wp2
  go_loopg [14] l.length (fun k i wr => ∃ j : Nat, j + k = l.length ∧ i = .int .i64 (j : Int) ∧ ∃ D : DataW Nat, wr.ownsMap Try.prog 80 unitElem w.heap.size j D ∧ Just D (l.take j) ∧ Maps.size D ≤ j ∧ Below w.heap.size w wr)
  case atStart => exact ⟨0, by omega, rfl, _, World.ownsMap_made w _ _ _, fun x hx => by simp [has], by simp [Maps.size], (Below.refl _ w).alloc (Nat.le_refl _) _⟩
  case round =>
    obtain ⟨j, hj, rfl, D, hown, hju, hsz, hbel⟩ := hrel
    cases gk with
    | zero =>
      obtain rfl : j = l.length := by omega
      have HJ : Hid (Just D l) := by rw [List.take_length] at hju; exact hju
      obtain ⟨i0, hi, hz0, hz1, hz2⟩ := info_parts Try.info23
      have hsize := hbel.size
      have hlt := hown.lt
      generalize hsD : Maps.size D = sD at hsz
      have HSD := hid' hsD
      have HO := hid' hown
      have hlen := hown.len Try.underlying78 3
      rw [HSD.out] at hlen
      clear hju hmm hsD hown
      go_wp2_with (
        (at_make; refine wpList_make_own _ rfl _ _ 47 rfl w.heap.size 36 i0 (.agg #[.int .i64 0, .int .i64 0]) 2 Try.underlying47 hi hz0 hz1 .i64 .i64 _ sD rfl rfl rfl (by rw [hz2]; omega) (by unfold maxLen; omega) hsize ?_; intro w1 hown1 hgrow1))
      refine (keys_any _ _).mono ?_
      rintro e w2 ⟨rfl, rfl⟩
      have hb1 : Below w.heap.size w w1 := hbel.grown hgrow1 hsize (fun k hk => by cases hk)
      have HS := hid' (sortedFunc_any (w1.alloc (.cells #[.map (some w.heap.size)] 78)) w1.heap.size w.heap.size l.length D (by simp) (by simp) ((HO.out.kept hgrow1 (by simp)).alloc _) (by rw [HSD.out]; unfold maxLen; omega) (by rw [HSD.out]; omega) (by rw [HSD.out]; omega))
      have HO1 := hid' (hown1.alloc (.cells #[.map (some w.heap.size)] 78))
      have hb2 : Below w.heap.size w (w1.alloc (.cells #[.map (some w.heap.size)] 78)) := hb1.alloc hb1.size _
      clear hown1 hlen HO hgrow1 hbel
      go_wp2_with fail
      refine HS.out.mono ?_
      clear HS
      rintro e w3 ⟨v3, ss, rfl, hsl, hk, hrow3, hb3⟩
      have hset : Hid (SetOf ss (· ∈ l)) := ⟨hsl, fun x => by
        constructor
        · intro hx; exact (HJ.out x (hk.range x hx)).1 ((hk.mem x (hk.range x hx)).1 hx)
        · intro hx; exact (hk.mem x (h.range x hx)).2 ((HJ.out x (h.range x hx)).2 hx)⟩
      have hss : ss.length ≤ sD := by rw [← HSD.out]; exact hk.len
      have hrng := hid' hk.range
      have hown4 : Hid (w3.ownsRow w.heap.size 36 2 (.slice (some ⟨wr.heap.size, 0, none⟩) 0 sD) 0 []) := by
        refine ⟨rfl, ?_⟩
        rcases HO1.out.2 with ⟨h1, _⟩ | ⟨g, c, cur, h1, h2, h3, h4⟩
        · cases h1
        · exact .inr ⟨g, c, cur, h1, h2, (hb3.block g (Array.getElem?_eq_some_iff.1 h3).1).trans h3, h4⟩
      have hb4 : Below w.heap.size w w3 := hb2.trans (hb3.mono hb2.size)
      obtain ⟨a3, c3, rfl, hc3, hts⟩ := Ts.of_owns hrow3 hk.range
      have HR3 := hid' hrow3
      clear hsl hk hrow3 hts HO1 hb3 hb2 hb1
      go_wp2
      go_loopg [6, 29] ss.length (fun k v i wr => ∃ j : Nat, j + k = ss.length ∧ i = .int .i64 (j : Int) ∧ wr.ownsRow w.heap.size 36 2 v j (flat (ss.take j)) ∧ wr.ownsRow (w1.heap.size + 1) 80 2 (.slice a3 ss.length c3) ss.length (flat ss) ∧ Below w.heap.size w wr)
      case atStart => exact ⟨0, by omega, rfl, hown4.out, by simpa using HR3.out, hb4⟩
      case round =>
        obtain ⟨j, hj, rfl, hown, hrd, hbel⟩ := hrel
        cases gk with
        | zero =>
          obtain rfl : j = ss.length := by omega
          have HO := hid' hown
          rw [List.take_length] at HO
          clear hown
          go_wp2
          go_ret
          exact ⟨_, ss, rfl, by omega, hset.out, HO.out, hbel⟩
        | succ k =>
          have hjl : j < ss.length := by omega
          obtain ⟨a4, c4, e4, _, hts⟩ := Ts.of_owns hrd hrng.out
          cases e4
          obtain ⟨b1, o1, rfl, hB1, hc1⟩ := hts.cells (by rintro rfl; simp at hjl)
          have p1 := (hc1 j hjl).1
          have p2 := (hc1 j hjl).2
          have HX : Hid (ss.take (j + 1) = ss.take j ++ [ss.getD j (0, 0)]) := by
            unfold Hid
            rw [List.take_add_one]
            simp [List.getD, List.getElem?_eq_getElem hjl]
          generalize ss.getD j (0, 0) = x at p1 p2 HX
          obtain ⟨x1, x2⟩ := x
          have hsz2 := hbel.size
          have HRD := hid' hrd
          have HOW := hid' hown
          clear hc1 hts hrd
          go_wp2_with (
            (at_builtin; refine wpList_append_own _ rfl _ _ 47 rfl w.heap.size 36 i0 (.agg #[.int .i64 0, .int .i64 0]) 2 16 Try.underlying47 hi hz0 hz1 hz2 rfl (by decide) _ _ _ rfl ((hown.alloc _).alloc _) ⟨wr.heap.size + 1, 0, none⟩ 1 1 [.int .i64 x1, .int .i64 x2] rfl rfl (cell_two_new2 _ _ _ _ _) (by intro u hu; simp at hu; rcases hu with rfl | rfl <;> rfl) (by unfold maxLen; omega) (by omega) (by simp; omega) ?_; intro v1 w4 hown4 hgrow4 hnil4))
          have hgrow5 : ((wr.alloc (.cells #[.int .i64 x1, .int .i64 x2] 80)).alloc (.cells #[.int .i64 x1, .int .i64 x2] 36)).grownBy w4 u6.ownBlock := hgrow4
          clear hnil4 hgrow4
          go_roundg k
          case measure => omega
          case rel =>
            refine ⟨j + 1, by omega, by simp, ?_, ((HRD.out.alloc _).alloc _).kept hgrow5 (rows_apart HRD.out HOW.out (by decide)), ((hbel.alloc hsz2 _).alloc (by simp; omega) _).grown hgrow5 (by simp; omega) (fun k hk => (HOW.out.lt k hk).1)⟩
            rw [HX.out, flat_append, flat_one]
            exact hown4
    | succ k =>
      have hjl : j < l.length := by omega
      obtain ⟨b1, o1, rfl, hB1, hc1⟩ := h.cells (by rintro rfl; simp at hjl)
      have p1 := (hbel.cell (p := ⟨b1, o1 + j * 2, none⟩) hB1).trans (hc1 j hjl).1
      have p2 := (hbel.cell (p := ⟨b1, o1 + j * 2 + 1, none⟩) hB1).trans (hc1 j hjl).2
      have HX : Hid (RT (l.getD j (0, 0)) ∧ l.take (j + 1) = l.take j ++ [l.getD j (0, 0)]) := by
        refine ⟨h.range _ (by simp [List.getD, List.getElem?_eq_getElem hjl]), ?_⟩
        rw [List.take_add_one]
        simp [List.getD, List.getElem?_eq_getElem hjl]
      generalize l.getD j (0, 0) = x at p1 p2 HX
      obtain ⟨x1, x2⟩ := x
      have hrx : RT (x1, x2) := HX.out.1
      have hoa := hown.alloc (.cells #[.int .i64 x1, .int .i64 x2] 36)
      have HK := hid' hju
      have HO := hid' hown
      clear hc1 h hju hown hmm
      go_wp2_with (at_mapUpdate; refine wpList_mapUpdate_own _ rfl _ _ _ 78 rfl 80 79 keyed37 Try.underlying78 _ w.heap.size j _ rfl hoa (by simp only [maxLen]; omega) (tv (x1, x2)) (.agg #[]) (kl (x1, x2)) rfl rfl (keyOf_mk hrx) _ [] unitElem_mk ?_; intro w1 hown1 hgrow1)
      go_roundg k
      case measure => omega
      case rel =>
        refine ⟨j + 1, by omega, by simp, _, hown1, by rw [HX.out.2]; exact just_put HO.out.isMap HK.out hrx _, ?_, ?_⟩
        · rw [size_put (HO.out.tidy keyed37)]; split <;> omega
        · exact (hbel.alloc hbel.size _).grown hgrow1 (by have := hbel.size; simp; omega) (fun k hk => by cases hk; exact Nat.le_refl _)

end Go.Proofs.Ytboeodcjcbgeaaa
