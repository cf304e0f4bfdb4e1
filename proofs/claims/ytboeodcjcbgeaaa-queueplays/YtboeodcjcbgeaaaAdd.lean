/-
  What is proved here: the document's Add: a time is put into a list that is in strict order, if it is not there.
-/
import Derived.Test.YtboeodcjcbgeaaaUniq
import Derived.Test.YtboeodcjcbgeaaaPlanB
import Derived.Laws.AppendOwnNone
import Derived.Laws.CopyOwn
import Derived.Shelf.SlSortCmp.QuietGrown
namespace Go.Proofs.Ytboeodcjcbgeaaa
open Go.RowKit Go.Proofs
set_option linter.unusedVariables false
set_option linter.unusedSimpArgs false

set_option maxRecDepth 100000 in
theorem order_grown (x y : T) (w : World) (n : Nat) (os : Array Obj) : Calls Try.prog 29 #[.agg #[.int .i64 x.1, .int .i64 x.2], .agg #[.int .i64 y.1, .int .i64 y.2]] (Sort.grow (w.drewN n) os) fun e w' => e = .returned (.int .i64 (cfT x y)) ∧ ∃ q os', w' = Sort.grow ((Sort.grow (w.drewN n) os).drewN q) os' :=
  (refOrder_any x y _).mono fun e w' ⟨he, hg⟩ => ⟨he, hg.grow⟩

set_option maxRecDepth 100000 in
theorem Gr.of_grow (w : World) (n : Nat) (os : Array Obj) : Gr w (Sort.grow (w.drewN n) os) := by
  refine ⟨⟨rfl, rfl, rfl, by simp [Sort.grow], fun k hk => ?_⟩, Nat.le_add_right _ _⟩
  exact Sort.heap_grow_old (w.drewN n) os hk

set_option maxRecDepth 100000 in
theorem flat_inv (l : List T) (j : Nat) (u : Value) (h : (flat l)[j]? = some u) : j / 2 < l.length ∧ ((j % 2 = 0 ∧ u = .int .i64 (l.getD (j / 2) (0, 0)).1) ∨ (j % 2 = 1 ∧ u = .int .i64 (l.getD (j / 2) (0, 0)).2)) := by
  have hj : j < (flat l).length := by
    rcases Nat.lt_or_ge j (flat l).length with h' | h'
    · exact h'
    · rw [List.getElem?_eq_none h'] at h; cases h
  rw [length_flat] at hj
  have h2 : j / 2 < l.length := by omega
  have hf := flat_get l (j / 2) h2
  refine ⟨h2, ?_⟩
  rcases Nat.mod_two_eq_zero_or_one j with hm | hm
  · left
    have e : j / 2 * 2 = j := by omega
    rw [e, h] at hf
    exact ⟨hm, by simpa using hf.1⟩
  · right
    have e : j / 2 * 2 + 1 = j := by omega
    rw [e, h] at hf
    exact ⟨hm, by simpa using hf.2⟩

set_option maxRecDepth 100000 in
theorem flat_ones (l : List T) : ∀ u ∈ flat l, u.oneCell' = true := by
  intro u hu
  simp only [flat, List.mem_flatMap] at hu
  obtain ⟨x, _, hx⟩ := hu
  simp at hx
  rcases hx with rfl | rfl <;> rfl

set_option maxRecDepth 100000 in
theorem addr_add (b off i : Nat) : (⟨b, off, none⟩ : Addr).add i = ⟨b, off + i, none⟩ := by unfold Addr.add; split <;> simp_all

set_option maxRecDepth 100000 in
theorem Ts.src {B : Nat} {w : World} {b off : Nat} {l : List T} (h : Ts B w (some ⟨b, off, none⟩) l) : ∀ j u, (flat l)[j]? = some u → w.cell? ((⟨b, off, none⟩ : Addr).add j) = some u := by
  intro j u hj
  obtain ⟨h2, hc⟩ := flat_inv l j u hj
  obtain ⟨b', off', e, _, hcell⟩ := h.cells (by rintro rfl; simp at h2)
  cases e
  have := hcell (j / 2) h2
  rw [addr_add]
  rcases hc with ⟨hm, rfl⟩ | ⟨hm, rfl⟩
  · rw [← this.1]; congr 2; omega
  · rw [← this.2]; congr 2; omega

set_option maxRecDepth 100000 in
theorem owns_empty23 (w : World) (base : Nat) (hb : base ≤ w.heap.size) : (w.alloc (.cells #[] 36)).ownsRow base 36 2 (.slice (some ⟨w.heap.size, 0, none⟩) 0 0) 0 [] :=
  World.ownsRow_made w #[] 0 hb (by unfold maxLen; omega) rfl

/-- A slice's address: none, or the place of a cell. -/
def Sl (a : Option Addr) (cap : Nat) : Prop := (a = none ∧ cap = 0) ∨ ∃ b off, a = some ⟨b, off, none⟩

set_option maxRecDepth 100000 in
theorem Sl.of_owns {base e n c k : Nat} {w : World} {a : Option Addr} {xs : List Value} (h : w.ownsRow base e k (.slice a n c) n xs) : Sl a c := by
  rcases h.2 with ⟨h1, _⟩ | ⟨g, c', cur, h1, _⟩
  · simp at h1; exact .inl ⟨h1.1, h1.2.2⟩
  · simp at h1; exact .inr ⟨g, 0, h1.1⟩

set_option maxRecDepth 20000 in
set_option maxHeartbeats 1000000 in
theorem add_any (w : World) (a : Option Addr) (cap : Nat) (l : List T) (t : T) (h : Ts w.heap.size w a l) (hcap : l.length ≤ cap) (hsl : Sl a cap) (ht : RT t) (hl : l.length ≤ 1000000) :
    Calls Try.prog 34 #[.slice a l.length cap, .agg #[.int .i64 t.1, .int .i64 t.2]] w fun e w' => ∃ a' c', e = .returned (.slice a' (addT l t).length c') ∧ (addT l t).length ≤ c' ∧ Sl a' c' ∧ Ts w'.heap.size w' a' (addT l t) ∧ Below w.heap.size w w' := by
  obtain ⟨t1, t2⟩ := t
  have mixed : Try.prog.follows .mixedOrders = true := by kernel_rfl
  obtain ⟨i23, hi23, hy0, hy1, hy2⟩ := info_parts Try.info23
  have HP := hid' (place_spec l (t1, t2))
  have HPS := hid' (place_stop l (t1, t2))
  have HAD := hid' (addT_place l (t1, t2))
  have hple := place_le l (t1, t2)
  obtain ⟨p, hp⟩ : ∃ p, place l (t1, t2) = p := ⟨_, rfl⟩
  rw [hp] at HP HPS HAD hple
  clear hp
  obtain ⟨n, hn⟩ : ∃ n, l.length = n := ⟨_, rfl⟩
  have HTS := hid' h
  have HN := hid' hn
  rw [hn] at hcap hl hple HPS HAD ⊢
  clear hn h
  go_enter Try.func34, Try.ntmps34
  go_wp2
  go_loopg [5] p (fun k i wr => ∃ j : Nat, j + k = p ∧ i = .int .i64 (j : Int) ∧ Gr (w.alloc (.cells #[.int .i64 t1, .int .i64 t2] 36)) wr)
  case atStart => exact ⟨0, by omega, rfl, Gr.refl _⟩
  case round =>
    obtain ⟨j, hj, rfl, hg⟩ := hrel
    have b0 : wr.cell? ⟨w.heap.size, 0, none⟩ = some (.int .i64 t1) := (hg.below.cell (p := ⟨w.heap.size, 0, none⟩) (by simp)).trans (by rw [cell_of_row _ _ _ _ _ _ (World.alloc_heap_new w _)]; rfl)
    have b1 : wr.cell? ⟨w.heap.size, 1, none⟩ = some (.int .i64 t2) := (hg.below.cell (p := ⟨w.heap.size, 1, none⟩) (by simp)).trans (by rw [cell_of_row _ _ _ _ _ _ (World.alloc_heap_new w _)]; rfl)
    have hwl : w.heap.size < wr.heap.size := Nat.lt_of_lt_of_le (by simp) hg.below.size
    have B0 := fun n os => cell_grown (a := ⟨w.heap.size, 0, none⟩) hwl b0 n os
    have B1 := fun n os => cell_grown (a := ⟨w.heap.size, 1, none⟩) hwl b1 n os
    have hgw : Gr w wr := ((Gr.refl w).alloc _).trans hg
    cases gk with
    | zero =>
      obtain rfl : j = p := by omega
      by_cases hpn : j < n
      · obtain ⟨b, off, rfl, hB, hc⟩ := HTS.out.cells (by intro e; rw [e] at HN; have := HN.out; simp at this; omega)
        have hc1 := (hgw.below.cell (p := ⟨b, off + j * 2, none⟩) hB).trans (hc j (by rw [HN.out]; exact hpn)).1
        have hc2 := (hgw.below.cell (p := ⟨b, off + j * 2 + 1, none⟩) hB).trans (hc j (by rw [HN.out]; exact hpn)).2
        have HGE : Hid (¬ cfT (l.getD j (0, 0)) (t1, t2) < 0) := fun h => HPS.out hpn ((cf_lt _ _).1 h)
        generalize l.getD j (0, 0) = y at hc1 hc2 HGE HAD
        obtain ⟨y1, y2⟩ := y
        have C1 := fun n os => cell_grown (a := ⟨b, off + j * 2, none⟩) (show b < wr.heap.size by omega) hc1 n os
        have C2 := fun n os => cell_grown (a := ⟨b, off + j * 2 + 1, none⟩) (show b < wr.heap.size by omega) hc2 n os
        have HO := hid' (order_grown (y1, y2) (t1, t2) wr)
        generalize cfT (y1, y2) (t1, t2) = r at HGE HO
        have hr := HGE.out
        simp only at HO
        clear hc hc1 hc2 b0 b1
        go_wp2_with fail
        go_quiet_grown (first | (go_at_call 29; exact Calls.grown_of (HO.out _ _)))
        have hg2 : Gr w (Sort.grow (wr.drewN nq) osq) := hgw.trans (Gr.of_grow _ _ _)
        have D1 := C1 nq osq
        have D2 := C2 nq osq
        have E0 := B0 nq osq
        have E1 := B1 nq osq
        have HW2 : Hid (w.heap.size < (Sort.grow (wr.drewN nq) osq).heap.size) := by unfold Hid; simp [Sort.grow]; omega
        generalize Sort.grow (wr.drewN nq) osq = w2 at hg2 D1 D2 E0 E1 HW2 ⊢
        clear C1 C2 B0 B1 HO
        by_cases e1 : y1 = t1
        · subst e1
          by_cases e2 : y2 = t2
          · subst e2
            have HE : Hid (addT l (y1, y2) = l) := by unfold Hid; rw [HAD.out, if_pos ⟨rfl, hpn⟩]
            go_wp2_with fail
            go_quiet (fail)
            go_wp2
            go_ret
            rw [HE.out]
            exact ⟨_, cap, by rw [HN.out]; rfl, by rw [HN.out]; exact hcap, hsl, HTS.out.gr (hg2.drewN _), (hg2.drewN _).below⟩
          · have hcj : ¬ cap = j := by omega
            have hcj2 : ¬ j = cap := by omega
            have HAP : Hid (addT l (y1, t2) = l.take j ++ [(y1, t2)] ++ l.drop j) := by unfold Hid; rw [HAD.out, if_neg (fun h => by simp at h; omega)]
            go_wp2_with fail
            go_quiet (fail)
            obtain ⟨W, hW⟩ : ∃ W, w2.drewN nq = W := ⟨_, rfl⟩
            have HGW : Hid (Gr w W) := by unfold Hid; rw [← hW]; exact hg2.drewN _
            have HE0 : Hid (W.cell? ⟨w.heap.size, 0, none⟩ = some (.int .i64 y1)) := by unfold Hid; rw [← hW]; exact E0
            have HE1 : Hid (W.cell? ⟨w.heap.size, 1, none⟩ = some (.int .i64 t2)) := by unfold Hid; rw [← hW]; exact E1
            have HLT2 : Hid (w.heap.size < W.heap.size) := by unfold Hid; rw [← hW]; exact HW2.out
            rw [hW]
            clear hW E0 E1 D1 D2 hg2
            have hgW : Gr w W := HGW.out
            have hwW := hgW.below.size
            have E0 : W.cell? ⟨w.heap.size, 0, none⟩ = some (.int .i64 y1) := HE0.out
            have E1 : W.cell? ⟨w.heap.size, 1, none⟩ = some (.int .i64 t2) := HE1.out
            have hbxW : w.heap.size < W.heap.size := HLT2.out
            have hTs1 : Ts W.heap.size W (some ⟨b, off, none⟩) (l.take j) := by
              have := (HTS.out.gr hgW).part 0 j
              simpa using this
            have hlj : (l.take j).length = j := by rw [List.length_take, HN.out]; omega
            have hS1 : ∀ i u, (flat (l.take j))[i]? = some u → (W.alloc (.cells #[] 36)).cell? ((⟨b, off, none⟩ : Addr).add i) = some u := (hTs1.gr ((Gr.refl W).alloc (.cells #[] 36))).src
            have hL1 : (flat (l.take j)).length = j * 2 := by rw [length_flat, hlj]
            have HS1 := hid' hS1
            have HL1 := hid' hL1
            have HO1 := hid' (flat_ones (l.take j))
            have HEM := hid' (owns_empty23 W W.heap.size (Nat.le_refl _))
            clear hS1 hL1 hTs1 hlj
            go_wp2_with (first
              | (at_builtin; refine wpList_append_own _ rfl (.tmp 35) (.tmp 38) 47 rfl W.heap.size 36 i23 (.agg #[.int .i64 0, .int .i64 0]) 2 16 Try.underlying47 hi23 hy0 hy1 hy2 rfl (by decide) _ _ _ rfl HEM.out ⟨b, off, none⟩ j cap (flat (l.take j)) rfl HL1.out HS1.out HO1.out (by unfold maxLen; omega) (by omega) (by simp) ?_; intro v1 w3 hown3 hgrow3 hnil3
                 have hgr3 : (W.alloc (.cells #[] 36)).grownBy w3 (some W.heap.size) := hgrow3
                 have hbw3 : Below W.heap.size W w3 := ((Below.refl _ W).alloc (Nat.le_refl _) (.cells #[] 36)).grown hgr3 (by simp) (fun k hk => by cases hk; exact Nat.le_refl _)
                 have hsz3 := hbw3.size
                 have E03 : w3.cell? ⟨w.heap.size, 0, none⟩ = some (.int .i64 y1) := (hbw3.cell (p := ⟨w.heap.size, 0, none⟩) hbxW).trans E0
                 have E13 : w3.cell? ⟨w.heap.size, 1, none⟩ = some (.int .i64 t2) := (hbw3.cell (p := ⟨w.heap.size, 1, none⟩) hbxW).trans E1
                 have HOW3 := hid' hown3
                 clear hgrow3 hnil3 hgr3)
              | (at_builtin; refine wpList_append_own _ rfl (.tmp 40) (.tmp 42) 47 rfl W.heap.size 36 i23 (.agg #[.int .i64 0, .int .i64 0]) 2 16 Try.underlying47 hi23 hy0 hy1 hy2 rfl (by decide) _ _ _ rfl (HOW3.out.alloc _) ⟨w3.heap.size, 0, none⟩ 1 1 [.int .i64 y1, .int .i64 t2] rfl rfl (cell_two_new _ _ _ _) (by intro u hu; simp at hu; rcases hu with rfl | rfl <;> rfl) (by unfold maxLen; omega) (by omega) (by simp; omega) ?_; intro v2 w4 hown4 hgrow4 hnil4
                 have hgr4 : (w3.alloc (.cells #[.int .i64 y1, .int .i64 t2] 36)).grownBy w4 v1.ownBlock := hgrow4
                 have hbw4 : Below W.heap.size W w4 := (hbw3.alloc hsz3 _).grown hgr4 (by simp; omega) (fun k hk => (HOW3.out.lt k hk).1)
                 have hsz4 := hbw4.size
                 have HS4 : Hid (∀ i u, (flat (l.drop j))[i]? = some u → w4.cell? ((⟨b, off + j * 2, none⟩ : Addr).add i) = some u) := by
                   have h0 := ((HTS.out.gr hgW).keep hbw4).part j (n - j)
                   rw [List.take_of_length_le (by rw [List.length_drop, HN.out]; omega)] at h0
                   exact h0.src
                 have HL4 : Hid ((flat (l.drop j)).length = (n - j) * 2) := by unfold Hid; rw [length_flat, List.length_drop, HN.out]
                 have HO4 := hid' (flat_ones (l.drop j))
                 have HOW4 := hid' hown4
                 clear hgrow4 hnil4 hgr4 hown3 E03 E13)
              | (at_builtin; refine wpList_append_own _ rfl (.tmp 44) (.tmp 47) 47 rfl W.heap.size 36 i23 (.agg #[.int .i64 0, .int .i64 0]) 2 16 Try.underlying47 hi23 hy0 hy1 hy2 rfl (by decide) _ _ _ rfl HOW4.out ⟨b, off + j * 2, none⟩ (n - j) (cap - j) (flat (l.drop j)) rfl HL4.out HS4.out HO4.out (by unfold maxLen; omega) (by omega) hsz4 ?_; intro v3 w5 hown5 hgrow5 hnil5
                 have hgr5 : w4.grownBy w5 v2.ownBlock := hgrow5
                 have hbw5 : Below W.heap.size W w5 := hbw4.grown hgr5 hsz4 (fun k hk => (HOW4.out.lt k hk).1)
                 have HOW5 := hid' hown5
                 clear hgrow5 hnil5 hgr5 hown5 hown4))
            go_ret
            have hlen5 : 0 + j + 1 + (n - j) = (addT l (y1, t2)).length := by
              rw [HAP.out, List.length_append, List.length_append, List.length_take, List.length_drop, HN.out]; simp; omega
            have hfl : [] ++ flat (l.take j) ++ [Value.int .i64 y1, Value.int .i64 t2] ++ flat (l.drop j) = flat (addT l (y1, t2)) := by
              rw [HAP.out, flat_append, flat_append, flat_one]; simp
            have hown6 := HOW5.out
            rw [hlen5, hfl] at hown6
            obtain ⟨a6, c6, rfl, hc6, hts6⟩ := Ts.of_owns hown6 (fun x hx => by
              rcases (mem_addT l _ x).1 hx with rfl | hx
              · exact ht
              · exact HTS.out.range x hx)
            exact ⟨a6, c6, rfl, hc6, Sl.of_owns hown6, hts6, hgW.below.trans (hbw5.mono hwW)⟩
        · have hcj : ¬ cap = j := by omega
          have hcj2 : ¬ j = cap := by omega
          have HAP : Hid (addT l (t1, t2) = l.take j ++ [(t1, t2)] ++ l.drop j) := by unfold Hid; rw [HAD.out, if_neg (fun h => by simp at h; omega)]
          go_wp2_with fail
          go_quiet (fail)
          obtain ⟨W, hW⟩ : ∃ W, w2.drewN nq = W := ⟨_, rfl⟩
          have HGW : Hid (Gr w W) := by unfold Hid; rw [← hW]; exact hg2.drewN _
          have HE0 : Hid (W.cell? ⟨w.heap.size, 0, none⟩ = some (.int .i64 t1)) := by unfold Hid; rw [← hW]; exact E0
          have HE1 : Hid (W.cell? ⟨w.heap.size, 1, none⟩ = some (.int .i64 t2)) := by unfold Hid; rw [← hW]; exact E1
          have HLT2 : Hid (w.heap.size < W.heap.size) := by unfold Hid; rw [← hW]; exact HW2.out
          rw [hW]
          clear hW E0 E1 D1 D2 hg2
          have hgW : Gr w W := HGW.out
          have hwW := hgW.below.size
          have E0 : W.cell? ⟨w.heap.size, 0, none⟩ = some (.int .i64 t1) := HE0.out
          have E1 : W.cell? ⟨w.heap.size, 1, none⟩ = some (.int .i64 t2) := HE1.out
          have hbxW : w.heap.size < W.heap.size := HLT2.out
          have hTs1 : Ts W.heap.size W (some ⟨b, off, none⟩) (l.take j) := by
            have := (HTS.out.gr hgW).part 0 j
            simpa using this
          have hlj : (l.take j).length = j := by rw [List.length_take, HN.out]; omega
          have hS1 : ∀ i u, (flat (l.take j))[i]? = some u → (W.alloc (.cells #[] 36)).cell? ((⟨b, off, none⟩ : Addr).add i) = some u := (hTs1.gr ((Gr.refl W).alloc (.cells #[] 36))).src
          have hL1 : (flat (l.take j)).length = j * 2 := by rw [length_flat, hlj]
          have HS1 := hid' hS1
          have HL1 := hid' hL1
          have HO1 := hid' (flat_ones (l.take j))
          have HEM := hid' (owns_empty23 W W.heap.size (Nat.le_refl _))
          clear hS1 hL1 hTs1 hlj
          go_wp2_with (first
            | (at_builtin; refine wpList_append_own _ rfl (.tmp 35) (.tmp 38) 47 rfl W.heap.size 36 i23 (.agg #[.int .i64 0, .int .i64 0]) 2 16 Try.underlying47 hi23 hy0 hy1 hy2 rfl (by decide) _ _ _ rfl HEM.out ⟨b, off, none⟩ j cap (flat (l.take j)) rfl HL1.out HS1.out HO1.out (by unfold maxLen; omega) (by omega) (by simp) ?_; intro v1 w3 hown3 hgrow3 hnil3
               have hgr3 : (W.alloc (.cells #[] 36)).grownBy w3 (some W.heap.size) := hgrow3
               have hbw3 : Below W.heap.size W w3 := ((Below.refl _ W).alloc (Nat.le_refl _) (.cells #[] 36)).grown hgr3 (by simp) (fun k hk => by cases hk; exact Nat.le_refl _)
               have hsz3 := hbw3.size
               have E03 : w3.cell? ⟨w.heap.size, 0, none⟩ = some (.int .i64 t1) := (hbw3.cell (p := ⟨w.heap.size, 0, none⟩) hbxW).trans E0
               have E13 : w3.cell? ⟨w.heap.size, 1, none⟩ = some (.int .i64 t2) := (hbw3.cell (p := ⟨w.heap.size, 1, none⟩) hbxW).trans E1
               have HOW3 := hid' hown3
               clear hgrow3 hnil3 hgr3)
            | (at_builtin; refine wpList_append_own _ rfl (.tmp 40) (.tmp 42) 47 rfl W.heap.size 36 i23 (.agg #[.int .i64 0, .int .i64 0]) 2 16 Try.underlying47 hi23 hy0 hy1 hy2 rfl (by decide) _ _ _ rfl (HOW3.out.alloc _) ⟨w3.heap.size, 0, none⟩ 1 1 [.int .i64 t1, .int .i64 t2] rfl rfl (cell_two_new _ _ _ _) (by intro u hu; simp at hu; rcases hu with rfl | rfl <;> rfl) (by unfold maxLen; omega) (by omega) (by simp; omega) ?_; intro v2 w4 hown4 hgrow4 hnil4
               have hgr4 : (w3.alloc (.cells #[.int .i64 t1, .int .i64 t2] 36)).grownBy w4 v1.ownBlock := hgrow4
               have hbw4 : Below W.heap.size W w4 := (hbw3.alloc hsz3 _).grown hgr4 (by simp; omega) (fun k hk => (HOW3.out.lt k hk).1)
               have hsz4 := hbw4.size
               have HS4 : Hid (∀ i u, (flat (l.drop j))[i]? = some u → w4.cell? ((⟨b, off + j * 2, none⟩ : Addr).add i) = some u) := by
                 have h0 := ((HTS.out.gr hgW).keep hbw4).part j (n - j)
                 rw [List.take_of_length_le (by rw [List.length_drop, HN.out]; omega)] at h0
                 exact h0.src
               have HL4 : Hid ((flat (l.drop j)).length = (n - j) * 2) := by unfold Hid; rw [length_flat, List.length_drop, HN.out]
               have HO4 := hid' (flat_ones (l.drop j))
               have HOW4 := hid' hown4
               clear hgrow4 hnil4 hgr4 hown3 E03 E13)
            | (at_builtin; refine wpList_append_own _ rfl (.tmp 44) (.tmp 47) 47 rfl W.heap.size 36 i23 (.agg #[.int .i64 0, .int .i64 0]) 2 16 Try.underlying47 hi23 hy0 hy1 hy2 rfl (by decide) _ _ _ rfl HOW4.out ⟨b, off + j * 2, none⟩ (n - j) (cap - j) (flat (l.drop j)) rfl HL4.out HS4.out HO4.out (by unfold maxLen; omega) (by omega) hsz4 ?_; intro v3 w5 hown5 hgrow5 hnil5
               have hgr5 : w4.grownBy w5 v2.ownBlock := hgrow5
               have hbw5 : Below W.heap.size W w5 := hbw4.grown hgr5 hsz4 (fun k hk => (HOW4.out.lt k hk).1)
               have HOW5 := hid' hown5
               clear hgrow5 hnil5 hgr5 hown5 hown4))
          go_ret
          have hlen5 : 0 + j + 1 + (n - j) = (addT l (t1, t2)).length := by
            rw [HAP.out, List.length_append, List.length_append, List.length_take, List.length_drop, HN.out]; simp; omega
          have hfl : [] ++ flat (l.take j) ++ [Value.int .i64 t1, Value.int .i64 t2] ++ flat (l.drop j) = flat (addT l (t1, t2)) := by
            rw [HAP.out, flat_append, flat_append, flat_one]; simp
          have hown6 := HOW5.out
          rw [hlen5, hfl] at hown6
          obtain ⟨a6, c6, rfl, hc6, hts6⟩ := Ts.of_owns hown6 (fun x hx => by
            rcases (mem_addT l _ x).1 hx with rfl | hx
            · exact ht
            · exact HTS.out.range x hx)
          exact ⟨a6, c6, rfl, hc6, Sl.of_owns hown6, hts6, hgW.below.trans (hbw5.mono hwW)⟩
      · obtain rfl : j = n := by omega
        rcases hsl with ⟨rfl, rfl⟩ | ⟨b, off, rfl⟩
        · obtain rfl : j = 0 := by omega
          go_wp2_with fail
          go_quiet (fail)
          have hg2 : Gr w (wr.drewN nq) := hgw.drewN _
          have E0 : (wr.drewN nq).cell? ⟨w.heap.size, 0, none⟩ = some (.int .i64 t1) := b0
          have E1 : (wr.drewN nq).cell? ⟨w.heap.size, 1, none⟩ = some (.int .i64 t2) := b1
          have HW2 : Hid (w.heap.size < (wr.drewN nq).heap.size) := hwl
          generalize wr.drewN nq = w2 at hg2 E0 E1 HW2 ⊢
          clear B0 B1 b0 b1
          have HAP : Hid (addT l (t1, t2) = l.take 0 ++ [(t1, t2)] ++ l.drop 0) := by unfold Hid; rw [HAD.out, if_neg (fun h => by simp at h)]
          go_wp2_with fail
          go_quiet (fail)
          obtain ⟨W, hW⟩ : ∃ W, w2.drewN nq = W := ⟨_, rfl⟩
          have HGW : Hid (Gr w W) := by unfold Hid; rw [← hW]; exact hg2.drewN _
          have HE0 : Hid (W.cell? ⟨w.heap.size, 0, none⟩ = some (.int .i64 t1)) := by unfold Hid; rw [← hW]; exact E0
          have HE1 : Hid (W.cell? ⟨w.heap.size, 1, none⟩ = some (.int .i64 t2)) := by unfold Hid; rw [← hW]; exact E1
          have HLT2 : Hid (w.heap.size < W.heap.size) := by unfold Hid; rw [← hW]; exact HW2.out
          rw [hW]
          clear hW E0 E1 hg2
          have hgW : Gr w W := HGW.out
          have hwW := hgW.below.size
          have E0 : W.cell? ⟨w.heap.size, 0, none⟩ = some (.int .i64 t1) := HE0.out
          have E1 : W.cell? ⟨w.heap.size, 1, none⟩ = some (.int .i64 t2) := HE1.out
          have hbxW : w.heap.size < W.heap.size := HLT2.out
          have HEM := hid' (owns_empty23 W W.heap.size (Nat.le_refl _))
          have hl0 : l = [] := List.length_eq_zero_iff.1 HN.out
          have E03 : (W.alloc (.cells #[] 36)).cell? ⟨w.heap.size, 0, none⟩ = some (.int .i64 t1) := (((Below.refl _ W).alloc (Nat.le_refl _) _).cell (p := ⟨w.heap.size, 0, none⟩) hbxW).trans E0
          have E13 : (W.alloc (.cells #[] 36)).cell? ⟨w.heap.size, 1, none⟩ = some (.int .i64 t2) := (((Below.refl _ W).alloc (Nat.le_refl _) _).cell (p := ⟨w.heap.size, 1, none⟩) hbxW).trans E1
          have hb3 : Below W.heap.size W (W.alloc (.cells #[] 36)) := (Below.refl _ W).alloc (Nat.le_refl _) _
          obtain ⟨w3, hw3⟩ : ∃ w3, W.alloc (.cells #[] 36) = w3 := ⟨_, rfl⟩
          have HW3 := hid' hw3
          rw [hw3] at HEM E03 E13 hb3
          have HL0 := hid' hl0
          have hsz3 := hb3.size
          clear hw3 hl0 E0 E1
          go_wp2_with (first
            | (at_builtin; refine wpList_append_own_none rfl (.tmp 35) (.tmp 38) 47 rfl W.heap.size 36 i23 2 Try.underlying47 hi23 _ 0 [] rfl (by rw [HW3.out]; exact HEM.out) rfl ?_; rw [HW3.out])
            | (at_builtin; refine wpList_append_own _ rfl (.tmp 40) (.tmp 42) 47 rfl W.heap.size 36 i23 (.agg #[.int .i64 0, .int .i64 0]) 2 16 Try.underlying47 hi23 hy0 hy1 hy2 rfl (by decide) _ _ _ rfl (HEM.out.alloc _) ⟨w3.heap.size, 0, none⟩ 1 1 [.int .i64 t1, .int .i64 t2] rfl rfl (cell_two_new _ _ _ _) (by intro u hu; simp at hu; rcases hu with rfl | rfl <;> rfl) (by unfold maxLen; omega) (by omega) (by simp; omega) ?_; intro v2 w4 hown4 hgrow4 hnil4
               have hgr4 : (w3.alloc (.cells #[.int .i64 t1, .int .i64 t2] 36)).grownBy w4 (some W.heap.size) := hgrow4
               have hbw4 : Below W.heap.size W w4 := (hb3.alloc hsz3 _).grown hgr4 (by simp; omega) (fun k hk => by cases hk; exact Nat.le_refl _)
               have HOW4 := hid' hown4
               clear hgrow4 hnil4 hgr4 E03 E13)
            | (at_builtin; refine wpList_append_own_none rfl (.tmp 44) (.tmp 47) 47 rfl W.heap.size 36 i23 2 Try.underlying47 hi23 _ _ _ rfl HOW4.out rfl ?_; clear hown4))
          go_ret
          have hown6 : w4.ownsRow W.heap.size 36 2 v2 (addT l (t1, t2)).length (flat (addT l (t1, t2))) := by
            rw [HL0.out]
            exact HOW4.out
          obtain ⟨a6, c6, rfl, hc6, hts6⟩ := Ts.of_owns hown6 (fun x hx => by
            rcases (mem_addT l _ x).1 hx with rfl | hx
            · exact ht
            · exact HTS.out.range x hx)
          exact ⟨a6, c6, rfl, hc6, Sl.of_owns hown6, hts6, hgW.below.trans (hbw4.mono hwW)⟩
        · go_wp2_with fail
          go_quiet (fail)
          have hg2 : Gr w (wr.drewN nq) := hgw.drewN _
          have E0 : (wr.drewN nq).cell? ⟨w.heap.size, 0, none⟩ = some (.int .i64 t1) := b0
          have E1 : (wr.drewN nq).cell? ⟨w.heap.size, 1, none⟩ = some (.int .i64 t2) := b1
          have HW2 : Hid (w.heap.size < (wr.drewN nq).heap.size) := hwl
          generalize wr.drewN nq = w2 at hg2 E0 E1 HW2 ⊢
          clear B0 B1 b0 b1
          have HAP : Hid (addT l (t1, t2) = l.take j ++ [(t1, t2)] ++ l.drop j) := by unfold Hid; rw [HAD.out, if_neg (fun h => by simp at h)]
          go_wp2_with fail
          go_quiet (fail)
          obtain ⟨W, hW⟩ : ∃ W, w2.drewN nq = W := ⟨_, rfl⟩
          have HGW : Hid (Gr w W) := by unfold Hid; rw [← hW]; exact hg2.drewN _
          have HE0 : Hid (W.cell? ⟨w.heap.size, 0, none⟩ = some (.int .i64 t1)) := by unfold Hid; rw [← hW]; exact E0
          have HE1 : Hid (W.cell? ⟨w.heap.size, 1, none⟩ = some (.int .i64 t2)) := by unfold Hid; rw [← hW]; exact E1
          have HLT2 : Hid (w.heap.size < W.heap.size) := by unfold Hid; rw [← hW]; exact HW2.out
          rw [hW]
          clear hW E0 E1 hg2
          by_cases hcj : cap = j
          · subst hcj
            have hgW : Gr w W := HGW.out
            have hwW := hgW.below.size
            have E0 : W.cell? ⟨w.heap.size, 0, none⟩ = some (.int .i64 t1) := HE0.out
            have E1 : W.cell? ⟨w.heap.size, 1, none⟩ = some (.int .i64 t2) := HE1.out
            have hbxW : w.heap.size < W.heap.size := HLT2.out
            have hTs1 : Ts W.heap.size W (some ⟨b, off, none⟩) (l.take cap) := by
              have := (HTS.out.gr hgW).part 0 cap
              simpa using this
            have hlj : (l.take cap).length = cap := by rw [List.length_take, HN.out]; omega
            have hS1 : ∀ i u, (flat (l.take cap))[i]? = some u → (W.alloc (.cells #[] 36)).cell? ((⟨b, off, none⟩ : Addr).add i) = some u := (hTs1.gr ((Gr.refl W).alloc (.cells #[] 36))).src
            have hL1 : (flat (l.take cap)).length = cap * 2 := by rw [length_flat, hlj]
            have HS1 := hid' hS1
            have HL1 := hid' hL1
            have HO1 := hid' (flat_ones (l.take cap))
            have HEM := hid' (owns_empty23 W W.heap.size (Nat.le_refl _))
            clear hS1 hL1 hTs1 hlj
            go_wp2_with (first
              | (at_builtin; refine wpList_append_own _ rfl (.tmp 35) (.tmp 38) 47 rfl W.heap.size 36 i23 (.agg #[.int .i64 0, .int .i64 0]) 2 16 Try.underlying47 hi23 hy0 hy1 hy2 rfl (by decide) _ _ _ rfl HEM.out ⟨b, off, none⟩ cap cap (flat (l.take cap)) rfl HL1.out HS1.out HO1.out (by unfold maxLen; omega) (by omega) (by simp) ?_; intro v1 w3 hown3 hgrow3 hnil3
                 have hgr3 : (W.alloc (.cells #[] 36)).grownBy w3 (some W.heap.size) := hgrow3
                 have hbw3 : Below W.heap.size W w3 := ((Below.refl _ W).alloc (Nat.le_refl _) (.cells #[] 36)).grown hgr3 (by simp) (fun k hk => by cases hk; exact Nat.le_refl _)
                 have hsz3 := hbw3.size
                 have E03 : w3.cell? ⟨w.heap.size, 0, none⟩ = some (.int .i64 t1) := (hbw3.cell (p := ⟨w.heap.size, 0, none⟩) hbxW).trans E0
                 have E13 : w3.cell? ⟨w.heap.size, 1, none⟩ = some (.int .i64 t2) := (hbw3.cell (p := ⟨w.heap.size, 1, none⟩) hbxW).trans E1
                 have HOW3 := hid' hown3
                 clear hgrow3 hnil3 hgr3)
              | (at_builtin; refine wpList_append_own _ rfl (.tmp 40) (.tmp 42) 47 rfl W.heap.size 36 i23 (.agg #[.int .i64 0, .int .i64 0]) 2 16 Try.underlying47 hi23 hy0 hy1 hy2 rfl (by decide) _ _ _ rfl (HOW3.out.alloc _) ⟨w3.heap.size, 0, none⟩ 1 1 [.int .i64 t1, .int .i64 t2] rfl rfl (cell_two_new _ _ _ _) (by intro u hu; simp at hu; rcases hu with rfl | rfl <;> rfl) (by unfold maxLen; omega) (by omega) (by simp; omega) ?_; intro v2 w4 hown4 hgrow4 hnil4
                 have hgr4 : (w3.alloc (.cells #[.int .i64 t1, .int .i64 t2] 36)).grownBy w4 v1.ownBlock := hgrow4
                 have hbw4 : Below W.heap.size W w4 := (hbw3.alloc hsz3 _).grown hgr4 (by simp; omega) (fun k hk => (HOW3.out.lt k hk).1)
                 have hsz4 := hbw4.size
                 have HS4 : Hid (∀ i u, (flat (l.drop cap))[i]? = some u → w4.cell? ((⟨b, off, none⟩ : Addr).add i) = some u) := by
                   intro i u hu
                   rw [List.drop_eq_nil_of_le (by rw [HN.out]; omega)] at hu
                   simp [flat] at hu
                 have HL4 : Hid ((flat (l.drop cap)).length = 0 * 2) := by unfold Hid; rw [length_flat, List.length_drop, HN.out]; omega
                 have HO4 := hid' (flat_ones (l.drop cap))
                 have HOW4 := hid' hown4
                 clear hgrow4 hnil4 hgr4 hown3 E03 E13)
              | (at_builtin; refine wpList_append_own _ rfl (.tmp 44) (.tmp 47) 47 rfl W.heap.size 36 i23 (.agg #[.int .i64 0, .int .i64 0]) 2 16 Try.underlying47 hi23 hy0 hy1 hy2 rfl (by decide) _ _ _ rfl HOW4.out ⟨b, off, none⟩ 0 0 (flat (l.drop cap)) rfl HL4.out HS4.out HO4.out (by unfold maxLen; omega) (by omega) hsz4 ?_; intro v3 w5 hown5 hgrow5 hnil5
                 have hgr5 : w4.grownBy w5 v2.ownBlock := hgrow5
                 have hbw5 : Below W.heap.size W w5 := hbw4.grown hgr5 hsz4 (fun k hk => (HOW4.out.lt k hk).1)
                 have HOW5 := hid' hown5
                 clear hgrow5 hnil5 hgr5 hown5 hown4))
            go_ret
            have hlen5 : 0 + cap + 1 + 0 = (addT l (t1, t2)).length := by
              rw [HAP.out, List.length_append, List.length_append, List.length_take, List.length_drop, HN.out]; simp <;> omega
            have hfl : [] ++ flat (l.take cap) ++ [Value.int .i64 t1, Value.int .i64 t2] ++ flat (l.drop cap) = flat (addT l (t1, t2)) := by
              rw [HAP.out, flat_append, flat_append, flat_one]; simp
            have hown6 := HOW5.out
            rw [hlen5, hfl] at hown6
            obtain ⟨a6, c6, rfl, hc6, hts6⟩ := Ts.of_owns hown6 (fun x hx => by
              rcases (mem_addT l _ x).1 hx with rfl | hx
              · exact ht
              · exact HTS.out.range x hx)
            exact ⟨a6, c6, rfl, hc6, Sl.of_owns hown6, hts6, hgW.below.trans (hbw5.mono hwW)⟩
          · have hcj2 : ¬ j = cap := by omega
            have hgW : Gr w W := HGW.out
            have hwW := hgW.below.size
            have E0 : W.cell? ⟨w.heap.size, 0, none⟩ = some (.int .i64 t1) := HE0.out
            have E1 : W.cell? ⟨w.heap.size, 1, none⟩ = some (.int .i64 t2) := HE1.out
            have hbxW : w.heap.size < W.heap.size := HLT2.out
            have hTs1 : Ts W.heap.size W (some ⟨b, off, none⟩) (l.take j) := by
              have := (HTS.out.gr hgW).part 0 j
              simpa using this
            have hlj : (l.take j).length = j := by rw [List.length_take, HN.out]; omega
            have hS1 : ∀ i u, (flat (l.take j))[i]? = some u → (W.alloc (.cells #[] 36)).cell? ((⟨b, off, none⟩ : Addr).add i) = some u := (hTs1.gr ((Gr.refl W).alloc (.cells #[] 36))).src
            have hL1 : (flat (l.take j)).length = j * 2 := by rw [length_flat, hlj]
            have HS1 := hid' hS1
            have HL1 := hid' hL1
            have HO1 := hid' (flat_ones (l.take j))
            have HEM := hid' (owns_empty23 W W.heap.size (Nat.le_refl _))
            clear hS1 hL1 hTs1 hlj
            go_wp2_with (first
              | (at_builtin; refine wpList_append_own _ rfl (.tmp 35) (.tmp 38) 47 rfl W.heap.size 36 i23 (.agg #[.int .i64 0, .int .i64 0]) 2 16 Try.underlying47 hi23 hy0 hy1 hy2 rfl (by decide) _ _ _ rfl HEM.out ⟨b, off, none⟩ j cap (flat (l.take j)) rfl HL1.out HS1.out HO1.out (by unfold maxLen; omega) (by omega) (by simp) ?_; intro v1 w3 hown3 hgrow3 hnil3
                 have hgr3 : (W.alloc (.cells #[] 36)).grownBy w3 (some W.heap.size) := hgrow3
                 have hbw3 : Below W.heap.size W w3 := ((Below.refl _ W).alloc (Nat.le_refl _) (.cells #[] 36)).grown hgr3 (by simp) (fun k hk => by cases hk; exact Nat.le_refl _)
                 have hsz3 := hbw3.size
                 have E03 : w3.cell? ⟨w.heap.size, 0, none⟩ = some (.int .i64 t1) := (hbw3.cell (p := ⟨w.heap.size, 0, none⟩) hbxW).trans E0
                 have E13 : w3.cell? ⟨w.heap.size, 1, none⟩ = some (.int .i64 t2) := (hbw3.cell (p := ⟨w.heap.size, 1, none⟩) hbxW).trans E1
                 have HOW3 := hid' hown3
                 clear hgrow3 hnil3 hgr3)
              | (at_builtin; refine wpList_append_own _ rfl (.tmp 40) (.tmp 42) 47 rfl W.heap.size 36 i23 (.agg #[.int .i64 0, .int .i64 0]) 2 16 Try.underlying47 hi23 hy0 hy1 hy2 rfl (by decide) _ _ _ rfl (HOW3.out.alloc _) ⟨w3.heap.size, 0, none⟩ 1 1 [.int .i64 t1, .int .i64 t2] rfl rfl (cell_two_new _ _ _ _) (by intro u hu; simp at hu; rcases hu with rfl | rfl <;> rfl) (by unfold maxLen; omega) (by omega) (by simp; omega) ?_; intro v2 w4 hown4 hgrow4 hnil4
                 have hgr4 : (w3.alloc (.cells #[.int .i64 t1, .int .i64 t2] 36)).grownBy w4 v1.ownBlock := hgrow4
                 have hbw4 : Below W.heap.size W w4 := (hbw3.alloc hsz3 _).grown hgr4 (by simp; omega) (fun k hk => (HOW3.out.lt k hk).1)
                 have hsz4 := hbw4.size
                 have HS4 : Hid (∀ i u, (flat (l.drop j))[i]? = some u → w4.cell? ((⟨b, off + j * 2, none⟩ : Addr).add i) = some u) := by
                   intro i u hu
                   rw [List.drop_eq_nil_of_le (by rw [HN.out]; omega)] at hu
                   simp [flat] at hu
                 have HL4 : Hid ((flat (l.drop j)).length = 0 * 2) := by unfold Hid; rw [length_flat, List.length_drop, HN.out]; omega
                 have HO4 := hid' (flat_ones (l.drop j))
                 have HOW4 := hid' hown4
                 clear hgrow4 hnil4 hgr4 hown3 E03 E13)
              | (at_builtin; refine wpList_append_own _ rfl (.tmp 44) (.tmp 47) 47 rfl W.heap.size 36 i23 (.agg #[.int .i64 0, .int .i64 0]) 2 16 Try.underlying47 hi23 hy0 hy1 hy2 rfl (by decide) _ _ _ rfl HOW4.out ⟨b, off + j * 2, none⟩ 0 (cap - j) (flat (l.drop j)) rfl HL4.out HS4.out HO4.out (by unfold maxLen; omega) (by omega) hsz4 ?_; intro v3 w5 hown5 hgrow5 hnil5
                 have hgr5 : w4.grownBy w5 v2.ownBlock := hgrow5
                 have hbw5 : Below W.heap.size W w5 := hbw4.grown hgr5 hsz4 (fun k hk => (HOW4.out.lt k hk).1)
                 have HOW5 := hid' hown5
                 clear hgrow5 hnil5 hgr5 hown5 hown4))
            go_ret
            have hlen5 : 0 + j + 1 + 0 = (addT l (t1, t2)).length := by
              rw [HAP.out, List.length_append, List.length_append, List.length_take, List.length_drop, HN.out]; simp <;> omega
            have hfl : [] ++ flat (l.take j) ++ [Value.int .i64 t1, Value.int .i64 t2] ++ flat (l.drop j) = flat (addT l (t1, t2)) := by
              rw [HAP.out, flat_append, flat_append, flat_one]; simp
            have hown6 := HOW5.out
            rw [hlen5, hfl] at hown6
            obtain ⟨a6, c6, rfl, hc6, hts6⟩ := Ts.of_owns hown6 (fun x hx => by
              rcases (mem_addT l _ x).1 hx with rfl | hx
              · exact ht
              · exact HTS.out.range x hx)
            exact ⟨a6, c6, rfl, hc6, Sl.of_owns hown6, hts6, hgW.below.trans (hbw5.mono hwW)⟩
    | succ k =>
      have hjn : j < n := by omega
      obtain ⟨b, off, rfl, hB, hc⟩ := HTS.out.cells (by intro e; rw [e] at HN; have := HN.out; simp at this; omega)
      have hc1 := (hgw.below.cell (p := ⟨b, off + j * 2, none⟩) hB).trans (hc j (by rw [HN.out]; exact hjn)).1
      have hc2 := (hgw.below.cell (p := ⟨b, off + j * 2 + 1, none⟩) hB).trans (hc j (by rw [HN.out]; exact hjn)).2
      have HLT : Hid (cfT (l.getD j (0, 0)) (t1, t2) < 0) := (cf_lt _ _).2 (HP.out j (by omega))
      generalize l.getD j (0, 0) = y at hc1 hc2 HLT
      obtain ⟨y1, y2⟩ := y
      have C1 := fun n os => cell_grown (a := ⟨b, off + j * 2, none⟩) (show b < wr.heap.size by omega) hc1 n os
      have C2 := fun n os => cell_grown (a := ⟨b, off + j * 2 + 1, none⟩) (show b < wr.heap.size by omega) hc2 n os
      have HO := hid' (order_grown (y1, y2) (t1, t2) wr)
      generalize cfT (y1, y2) (t1, t2) = r at HLT HO
      have hr := HLT.out
      simp only at HO
      clear hc hc1 hc2 b0 b1
      go_wp2_with fail
      go_quiet_grown (first | (go_at_call 29; exact Calls.grown_of (HO.out _ _)))
      go_wp2
      go_roundg k
      case measure => omega
      case rel => exact ⟨j + 1, by omega, by simp, hg.trans (Gr.of_grow _ _ _)⟩

end Go.Proofs.Ytboeodcjcbgeaaa
