/-
  What is proved here: Meet of two; Both of the document.
-/
import Derived.Test.YtaadbjnfnmjkfaaCat
namespace Go.Proofs.Ytaadbjnfnmjkfaa
open Go.RowKit Go.Proofs
set_option linter.unusedVariables false
set_option linter.unusedSimpArgs false

set_option maxHeartbeats 1000000 in
theorem Meet_any (w : World) (f g : List T) (u v : Value) (hu : IsL f u w) (hv : IsL g v w) (hf : f.length ≤ 100000) (hg : g.length ≤ 100000) :
    Calls Try.prog 19 #[u, v] w fun e w' => ∃ x s, e = .returned x ∧ StepsOf (f ++ g) s ∧ s.length ≤ f.length + g.length ∧ IsL s x w' ∧ Below w.heap.size w w' := by
  have h1 := hu
  have h2 := hv
  obtain ⟨a, ca, rfl, _⟩ := hu
  obtain ⟨b, cb, rfl, _⟩ := hv
  have hb0 : Below w.heap.size w (w.alloc (.cells #[.slice a f.length ca, .slice b g.length cb] 22)) := (Below.refl _ w).alloc (Nat.le_refl _) _
  have HC := hid' (concat_any (w.alloc (.cells #[.slice a f.length ca, .slice b g.length cb] 22)) w.heap.size f g a b ca cb f.length g.length rfl rfl (by rw [cell_of_row _ _ _ _ _ _ (World.alloc_heap_new w _)]; rfl) (by rw [cell_of_row _ _ _ _ _ _ (World.alloc_heap_new w _)]; rfl) (by simp) (h1.on hb0) (h2.on hb0) hf hg)
  have HR : Hid (∀ x ∈ f ++ g, RT x) := fun x hx => by
    rcases List.mem_append.1 hx with hx | hx
    · exact h1.range x hx
    · exact h2.range x hx
  clear h1 h2
  obtain ⟨n, hn⟩ : ∃ n, f.length = n := ⟨_, rfl⟩
  obtain ⟨m, hm⟩ : ∃ m, g.length = m := ⟨_, rfl⟩
  have HN := hid' hn
  have HM := hid' hm
  rw [hn, hm] at HC
  rw [hn] at hf ⊢
  rw [hm] at hg ⊢
  clear hn hm hb0
  go_enter Try.func19, Try.ntmps19
  go_wp2_with fail
  refine HC.out.mono ?_
  rintro e w1 ⟨x, rfl, hown, hb1⟩
  have hx : IsL (f ++ g) x w1 := IsL.of_owns hown HR.out
  have H2 := hid' (new_L w1 (f ++ g) x hx (by rw [List.length_append, HN.out, HM.out]; omega))
  clear hx hown HC
  go_wp2_with fail
  refine H2.out.mono ?_
  rintro e w2 ⟨y, s, rfl, hst, hsl, hs, hb2⟩
  have HS := hid' (And.intro hst (And.intro hsl hs))
  clear hst hsl hs H2
  go_wp2
  go_ret
  refine ⟨y, s, rfl, HS.out.1, by have := HS.out.2.1; rw [List.length_append, HN.out, HM.out] at this; exact this, HS.out.2.2, ?_⟩
  have hb01 : Below w.heap.size w w1 := ((Below.refl _ w).alloc (Nat.le_refl _) _).trans (hb1.mono (by simp))
  exact hb01.trans (hb2.mono hb01.size)

theorem src_some {l : List T} {ad : Addr} {n cap : Nat} {w : World} (h : Src l (some ad) n cap w) : ∀ i u, (flat l)[i]? = some u → w.cell? (ad.add i) = some u := by
  rcases h with ⟨h, _⟩ | ⟨ad', h, hs⟩
  · cases h
  · cases h; exact hs

set_option maxRecDepth 20000 in
set_option maxHeartbeats 2000000 in
theorem Both_any (w : World) (f g : List T) (a b : Option Addr) (ca cb n m : Nat) (hf : f.length = n) (hg : g.length = m) (hu : IsL f (.slice a n ca) w) (hv : IsL g (.slice b m cb) w) (hn : n ≤ 100000) (hm : m ≤ 100000) :
    Calls Try.prog 20 #[.slice a n ca, .slice b m cb] w fun e w' => ∃ x, e = .returned x ∧ IsL (f ++ g) x w' ∧ Below w.heap.size w w' := by
  obtain ⟨i23, hi23, hy0, hy1, hy2⟩ := info_parts Try.info23
  have HR : Hid (∀ x ∈ f ++ g, RT x) := fun x hx => by
    rcases List.mem_append.1 hx with hx | hx
    · exact hu.range x hx
    · exact hv.range x hx
  have hb0 : Below w.heap.size w (w.alloc (.cells #[] 32)) := (Below.refl _ w).alloc (Nat.le_refl _) _
  have HEM := hid' (owns_empty23 w w.heap.size (Nat.le_refl _))
  have HS1 := hid' (src_of hf (hu.on hb0))
  have HS2 : Hid (∀ W, Below w.heap.size w W → Src g b m cb W) := fun W hW => src_of hg (hv.on hW)
  have HL1 : Hid ((flat f).length = n * 2) := by unfold Hid; rw [length_flat, hf]
  have HL2 : Hid ((flat g).length = m * 2) := by unfold Hid; rw [length_flat, hg]
  have HO1 := hid' (flat_ones f)
  have HO2 := hid' (flat_ones g)
  have HB0 := hid' hb0
  have HF := hid' hf
  have HG := hid' hg
  clear hu hv hb0 hf hg
  rcases HS1.out with ⟨rfl, rfl, rfl, ef⟩ | ⟨ad, rfl, hsrc⟩
  · rcases HS2.out w (Below.refl _ _) with ⟨rfl, rfl, rfl, eg⟩ | ⟨ad2, rfl, _⟩
    · skip
      have HEF := hid' ef
      clear ef
      obtain ⟨w3, hw3⟩ : ∃ w3, w.alloc (.cells #[] 32) = w3 := ⟨_, rfl⟩
      have HW3 := hid' hw3
      rw [hw3] at HEM HB0
      have hsz := HB0.out.size
      clear hw3
      have HEG := hid' eg
      clear eg
      go_enter Try.func20, Try.ntmps20
      go_wp2_with (first
        | (at_builtin; refine wpList_append_own_none rfl (.tmp 5) (.tmp 6) 22 rfl w.heap.size 32 i23 2 Try.underlying22 hi23 _ 0 [] rfl (by rw [HW3.out]; exact HEM.out) rfl ?_; rw [HW3.out])
        | (at_builtin; refine wpList_append_own_none rfl (.tmp 7) (.tmp 8) 22 rfl w.heap.size 32 i23 2 Try.underlying22 hi23 _ 0 [] rfl HEM.out rfl ?_))
      go_ret
      refine ⟨_, rfl, ?_, HB0.out⟩
      have h4 := HEM.out
      exact IsL.of_owns (by rw [HEF.out, HEG.out]; exact h4) HR.out
    · skip
      have HEF := hid' ef
      clear ef
      obtain ⟨w3, hw3⟩ : ∃ w3, w.alloc (.cells #[] 32) = w3 := ⟨_, rfl⟩
      have HW3 := hid' hw3
      rw [hw3] at HEM HB0
      have hsz := HB0.out.size
      clear hw3
      have HSRC2 := hid' (src_some (HS2.out w3 HB0.out))
      go_enter Try.func20, Try.ntmps20
      go_wp2_with (first
        | (at_builtin; refine wpList_append_own_none rfl (.tmp 5) (.tmp 6) 22 rfl w.heap.size 32 i23 2 Try.underlying22 hi23 _ 0 [] rfl (by rw [HW3.out]; exact HEM.out) rfl ?_; rw [HW3.out])
        | (at_builtin; refine wpList_append_own _ rfl (.tmp 7) (.tmp 8) 22 rfl w.heap.size 32 i23 (.agg #[.int .i64 0, .int .i64 0]) 2 16 Try.underlying22 hi23 hy0 hy1 hy2 rfl (by decide) _ _ _ rfl HEM.out ad2 m cb (flat g) rfl HL2.out HSRC2.out HO2.out (by unfold maxLen; omega) (by omega) hsz ?_; intro v4 w4 hown4 hgrow4 hnil4))
      have hgr4 : w3.grownBy w4 (some w.heap.size) := hgrow4
      have hb4 : Below w.heap.size w w4 := HB0.out.grown hgr4 hsz (fun q hq => by cases hq; exact Nat.le_refl _)
      have HO4 := hid' hown4
      clear hgrow4 hnil4 hgr4 hown4
      go_ret
      refine ⟨_, rfl, ?_, hb4⟩
      have h4 := HO4.out
      rw [Nat.zero_add, List.nil_append] at h4
      exact IsL.of_owns (by rw [HEF.out, List.nil_append, HG.out]; exact h4) HR.out
  · rcases HS2.out w (Below.refl _ _) with ⟨rfl, rfl, rfl, eg⟩ | ⟨ad2, rfl, _⟩
    · skip
      have HSRC := hid' hsrc
      clear hsrc
      have HEG := hid' eg
      clear eg
      go_enter Try.func20, Try.ntmps20
      go_wp2_with (first
        | (at_builtin; refine wpList_append_own _ rfl (.tmp 5) (.tmp 6) 22 rfl w.heap.size 32 i23 (.agg #[.int .i64 0, .int .i64 0]) 2 16 Try.underlying22 hi23 hy0 hy1 hy2 rfl (by decide) _ _ _ rfl HEM.out ad n ca (flat f) rfl HL1.out HSRC.out HO1.out (by unfold maxLen; omega) (by omega) (by simp) ?_; intro v3 w3 hown3 hgrow3 hnil3
           have hb3 : Below w.heap.size w w3 := HB0.out.grown (show (w.alloc (.cells #[] 32)).grownBy w3 (some w.heap.size) from hgrow3) (by simp) (fun q hq => by cases hq; exact Nat.le_refl _)
           have hsz3 := hb3.size
           have HO3 := hid' hown3
           clear hgrow3 hnil3 hown3)
        | (at_builtin; refine wpList_append_own_none rfl (.tmp 7) (.tmp 8) 22 rfl w.heap.size 32 i23 2 Try.underlying22 hi23 _ _ _ rfl HO3.out rfl ?_))
      go_ret
      refine ⟨_, rfl, ?_, hb3⟩
      have h4 := HO3.out
      rw [Nat.zero_add, List.nil_append] at h4
      exact IsL.of_owns (by rw [HEG.out, List.append_nil, HF.out]; exact h4) HR.out
    · skip
      have HSRC := hid' hsrc
      clear hsrc
      go_enter Try.func20, Try.ntmps20
      go_wp2_with (first
        | (at_builtin; refine wpList_append_own _ rfl (.tmp 5) (.tmp 6) 22 rfl w.heap.size 32 i23 (.agg #[.int .i64 0, .int .i64 0]) 2 16 Try.underlying22 hi23 hy0 hy1 hy2 rfl (by decide) _ _ _ rfl HEM.out ad n ca (flat f) rfl HL1.out HSRC.out HO1.out (by unfold maxLen; omega) (by omega) (by simp) ?_; intro v3 w3 hown3 hgrow3 hnil3
           have hb3 : Below w.heap.size w w3 := HB0.out.grown (show (w.alloc (.cells #[] 32)).grownBy w3 (some w.heap.size) from hgrow3) (by simp) (fun q hq => by cases hq; exact Nat.le_refl _)
           have hsz3 := hb3.size
           have HO3 := hid' hown3
           have HSRC2 := hid' (src_some (HS2.out w3 hb3))
           clear hgrow3 hnil3 hown3)
        | (at_builtin; refine wpList_append_own _ rfl (.tmp 7) (.tmp 8) 22 rfl w.heap.size 32 i23 (.agg #[.int .i64 0, .int .i64 0]) 2 16 Try.underlying22 hi23 hy0 hy1 hy2 rfl (by decide) _ _ _ rfl HO3.out ad2 m cb (flat g) rfl HL2.out HSRC2.out HO2.out (by unfold maxLen; omega) (by omega) hsz3 ?_; intro v4 w4 hown4 hgrow4 hnil4))
      have hgr4 : w3.grownBy w4 v3.ownBlock := hgrow4
      have hb4 : Below w.heap.size w w4 := hb3.grown hgr4 hsz3 (fun q hq => (HO3.out.lt q hq).1)
      have HO4 := hid' hown4
      clear hgrow4 hnil4 hgr4 hown4
      go_ret
      refine ⟨_, rfl, ?_, hb4⟩
      have h4 := HO4.out
      rw [Nat.zero_add, List.nil_append] at h4
      exact IsL.of_owns (by rw [List.length_append, HF.out, HG.out, flat_append]; exact h4) HR.out

theorem Both_L (w : World) (f g : List T) (u v : Value) (hu : IsL f u w) (hv : IsL g v w) (hn : f.length ≤ 100000) (hm : g.length ≤ 100000) :
    Calls Try.prog 20 #[u, v] w fun e w' => ∃ x, e = .returned x ∧ IsL (f ++ g) x w' ∧ Below w.heap.size w w' := by
  have h1 := hu
  have h2 := hv
  obtain ⟨a, c, rfl, _⟩ := hu
  obtain ⟨a', c', rfl, _⟩ := hv
  exact Both_any w f g a a' c c' _ _ rfl rfl h1 h2 hn hm

end Go.Proofs.Ytaadbjnfnmjkfaa
