/-
  What is proved here: append to a row that a call owns: it lays a new block, or it writes behind what is there; what lasts where a row is written behind what is there.
-/
import Derived.Test.YtioldkilfeemfaaAssign
import Derived.Test.YtioldkilfeemfaaTailR
namespace Go.Proofs.Ytioldkilfeemfaa
open Go.RowKit Go.Proofs
set_option linter.unusedVariables false
set_option linter.unusedSimpArgs false

/-- One row of values that lies from block B on was written behind its first n values. -/
def InP (B n : Nat) (w w' : World) : Prop := ∃ g, B ≤ g ∧ w.grownBy w' (some g) ∧ ∃ cur cur' : Array Value, w.heap[g]? = some (.cells cur 48 (0, 0)) ∧ w'.heap[g]? = some (.cells cur' 48 (0, 0)) ∧ cur'.size = cur.size ∧ cur'.toList.take (n * 3) = cur.toList.take (n * 3)

theorem InP.owns {B n k base : Nat} {w w' : World} {v : Value} {xs : List Value} (h : InP B n w w') (ho : w.ownsRow base 48 3 v k xs) (hk : k ≤ n) : w'.ownsRow base 48 3 v k xs := by
  obtain ⟨g, hB, hg, cur, cur', h1, h2, h3, h4⟩ := h
  refine ⟨ho.1, ?_⟩
  rcases ho.2 with hn | ⟨g', cap, cu, rfl, hb, hcu, hle, hm, hs, ht⟩
  · exact .inl hn
  · by_cases hgg : g' = g
    · subst hgg
      rw [h1] at hcu
      simp at hcu
      subst hcu
      refine .inr ⟨g', cap, cur', rfl, hb, h2, hle, hm, by rw [h3]; exact hs, ?_⟩
      rw [← ht, show k * 3 = min (k * 3) (n * 3) by omega, ← List.take_take, h4, List.take_take]
    · refine .inr ⟨g', cap, cu, rfl, hb, ?_, hle, hm, hs, ht⟩
      rw [hg.block g' (Array.getElem?_eq_some_iff.1 hcu).1 (by simpa using hgg)]
      exact hcu

theorem InP.below {B n : Nat} {w0 w w' : World} (hb : Below B w0 w) (hB : B ≤ w.heap.size) (h : InP B n w w') : Below B w0 w' := by
  obtain ⟨g, hg1, hg, _⟩ := h
  exact hb.grown hg hB (fun k hk => by cases hk; exact hg1)

/-- Append to a row of values. -/
theorem wp_append_two {o : Oper} {a : Act} {w : World} {K : Act → World → Prop} {Q : Exit → Act → World → Prop} (s x : Operand)
    (ho : o.op = .call { callee := .builtin .append, args := #[s, x], argTypes := #[39, 39] })
    (base g n cap : Nat) (xs : List Value) (hs : a.eval s = .slice (some ⟨g, 0, none⟩) n cap) (hown : w.ownsRow base 48 3 (.slice (some ⟨g, 0, none⟩) n cap) n xs)
    (ad : Addr) (m c : Nat) (news : List Value) (hx : a.eval x = .slice (some ad) m c) (hl : news.length = m * 3) (hnews : ∀ j u, news[j]? = some u → w.cell? (ad.add j) = some u) (h1 : ∀ u ∈ news, u.oneCell' = true)
    (hsm : n + m ≤ 1000000) (hbase : base ≤ w.heap.size)
    (h : ∀ v' w', w'.ownsRow base 48 3 v' (n + m) (xs ++ news) → ((cap < n + m ∧ Below w.heap.size w w') ∨ (n + m ≤ cap ∧ InP base n w w')) → K (a.put o.dst v') w') : o.wp Try.prog a w K Q := by
  obtain ⟨iV, hiV, hV0, hV1, hV2⟩ := info_parts Try.infoVal
  have two : ∃ v' w', (Builtin.append_ #[39, 39] o.type #[.slice (some ⟨g, 0, none⟩) n cap, .slice (some ad) m c]).run Try.prog w = .ok v' w' ∧ w'.ownsRow base 48 3 v' (n + m) (xs ++ news) ∧
      ((cap < n + m ∧ Below w.heap.size w w') ∨ (n + m ≤ cap ∧ InP base n w w')) := by
    obtain ⟨cur, hg, hbg, hcs, htake⟩ : ∃ cur : Array Value, w.heap[g]? = some (.cells cur 48 (0, 0)) ∧ base ≤ g ∧ cur.size = cap * 3 ∧ cur.toList.take (n * 3) = xs := by
      rcases hown.2 with ⟨h0, _⟩ | ⟨_, _, cur, e, h1, h2, _, _, h3, h4⟩
      · cases h0
      · cases e; exact ⟨cur, h2, h1, h3, h4⟩
    by_cases hroom : n + m ≤ cap
    · obtain ⟨w', hrun, r1, r2⟩ := run_append_fits (P := Try.prog) w base 39 o.type 48 iV 3 Try.underlying39 hiV hV1 g n cap xs hown ad m c news hl hnews h1 hroom
      obtain ⟨cur', hg', hcs', ht'⟩ : ∃ cur' : Array Value, w'.heap[g]? = some (.cells cur' 48 (0, 0)) ∧ cur'.size = cap * 3 ∧ cur'.toList.take ((n + m) * 3) = xs ++ news := by
        rcases r1.2 with ⟨h0, _⟩ | ⟨_, _, cur', e, _, h2, _, _, h3, h4⟩
        · cases h0
        · cases e; exact ⟨cur', h2, h3, h4⟩
      refine ⟨_, w', hrun, r1, .inr ⟨hroom, g, hbg, r2, cur, cur', hg, hg', by rw [hcs', hcs], ?_⟩⟩
      have h5 := congrArg (List.take (n * 3)) ht'
      rw [List.take_take, show min (n * 3) ((n + m) * 3) = n * 3 by omega, ← hown.1, List.take_left, hown.1] at h5
      rw [h5, htake]
    · obtain ⟨v', w', hr', ho', _, _⟩ := run_append_own (P := Try.prog) w base 39 o.type 48 iV zV 3 32 Try.underlying39 hiV hV0 hV1 hV2 rfl (by decide) _ n xs hown ad m c news hl hnews h1 (by unfold maxLen; omega) (by omega) hbase
      have hr := run_append_grow (P := Try.prog) w 39 o.type 48 iV zV Try.underlying39 hiV hV0 ⟨g, 0, none⟩ n cap xs (by rw [hV1]; exact hown.1) (hown.cells (g := g) rfl) ad m c news (by rw [hV1]; exact hl) hnews (by omega) (by omega) (growslice_fits (by omega) (by rw [hV2]; omega))
      have hr2 := hr'
      rw [hr] at hr2
      injection hr2 with e1 e2
      subst e1
      subst e2
      exact ⟨_, _, hr', ho', .inl ⟨by omega, (Below.refl _ w).drew.alloc (Nat.le_refl _) _⟩⟩
  obtain ⟨v', w', hr, h2, h3⟩ := two
  unfold Oper.wp execOp
  simp only [ho, resolve, invoke, builtin, Sem.run_bind, Sem.run_pure, Result.andThen_ok, List.map_toArray, List.map_cons, List.map_nil, hs, hx, hr]
  exact h v' w' h2 h3

end Go.Proofs.Ytioldkilfeemfaa
