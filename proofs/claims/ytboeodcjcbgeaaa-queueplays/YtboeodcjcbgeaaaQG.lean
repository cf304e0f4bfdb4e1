/-
  What is proved here: Lower.
-/
import Derived.Test.YtboeodcjcbgeaaaQF
import Derived.Test.YtboeodcjcbgeaaaRNew
namespace Go.Proofs.Ytboeodcjcbgeaaa
open Go.RowKit Go.Proofs
set_option linter.unusedVariables false
set_option linter.unusedSimpArgs false

theorem Try.infoTime : (Try.prog.info? 36).map (fun i => (i.zero, i.size, i.bytes)) = some (some (.agg #[.int .i64 0, .int .i64 0]), 2, 16) := by kernel_rfl

section
variable {a : Act} {t u c : Nat} {dst : Option Tmp} {ty : TypeId} {pos : String} {aft : Array Edge} {guard : Option (Nat × Bool)}

theorem run_fieldU1 {b o : Nat} (w : World) (h : PB.slot a t = .pointer (some ⟨b, o, none⟩)) :
    (execOp a.eval { dst := dst, op := .fieldAddr 38 (.tmp t) 1, type := ty, pos := pos, after := aft, guard := guard }).run Try.prog w = .ok (.value (.pointer (some ⟨b, o + 1, none⟩))) w := by
  have h1 : a.tmps[t]?.getD undef = .pointer (some ⟨b, o, none⟩) := by rw [← Array.getD_eq_getD_getElem?]; exact h
  go_simp
end

theorem length_flatT (l : List T) : (flat l).length = l.length * 2 := by
  induction l with
  | nil => rfl
  | cons x l ih => simp only [flat, List.flatMap_cons, List.length_append] at ih ⊢; rw [ih]; simp; omega

theorem flat_setT (l : List T) (x : T) : ∀ k, k < l.length → ((flat l).set (k * 2) (.int .i64 x.1)).set (k * 2 + 1) (.int .i64 x.2) = flat (l.set k x) := by
  induction l with
  | nil => intro k h; simp at h
  | cons s l ih =>
    intro k hk
    cases k with
    | zero => simp [flat]
    | succ k =>
      have := ih k (by simpa using hk)
      rw [List.set_cons_succ]
      simp only [flat, List.flatMap_cons] at this ⊢
      rw [show (k + 1) * 2 = k * 2 + 1 + 1 by omega, ← this]
      simp

theorem madeCells_T (n : Nat) : (madeCells (Value.agg #[.int .i64 0, .int .i64 0]).cells (n * 2)).toList = flat (List.replicate n (0, 0)) := by
  apply List.ext_getElem?
  intro j
  have hz : (Value.agg #[.int .i64 0, .int .i64 0]).cells = #[.int .i64 0, .int .i64 0] := rfl
  by_cases hj : j < n * 2
  · have hq : j / 2 < (List.replicate n ((0, 0) : T)).length := by simp; omega
    have hf := flat_get (List.replicate n (0, 0)) (j / 2) hq
    have hg : (List.replicate n ((0, 0) : T)).getD (j / 2) (0, 0) = (0, 0) := by
      rw [List.length_replicate] at hq
      simp [List.getD, List.getElem?_replicate, hq]
    rw [hg] at hf
    have hl : (madeCells (Value.agg #[.int .i64 0, .int .i64 0]).cells (n * 2)).toList[j]? = some ((Value.agg #[.int .i64 0, .int .i64 0]).cells[j % 2]!) := by
      simp [madeCells, hj, hz]
    rw [hl]
    have h3 : j % 2 = 0 ∨ j % 2 = 1 := by omega
    rcases h3 with h | h <;> rw [h]
    · rw [show j / 2 * 2 = j by omega] at hf; rw [hf.1]; rfl
    · rw [show j / 2 * 2 + 1 = j by omega] at hf; rw [hf.2]; rfl
  · rw [List.getElem?_eq_none (by simp [size_madeCells]; omega), List.getElem?_eq_none (by rw [length_flatT]; simp; omega)]

/-- A slice of times in a block of its own, written as far as j. -/
def Tb (w : World) (g : Nat) (l : List T) : Prop := w.heap[g]? = some (.cells (flat l).toArray 36 (0, 0))

theorem made_T {base n : Nat} {w' : World} {g : Nat} (h : w'.ownsRow base 36 2 (.slice (some ⟨g, 0, none⟩) n n) n (madeCells (Value.agg #[.int .i64 0, .int .i64 0]).cells (n * 2)).toList) : Tb w' g (List.replicate n (0, 0)) := by
  rw [madeCells_T] at h
  obtain ⟨h1, ⟨h2, _⟩ | ⟨g', cap, cur, e, hg, hcur, hle, hm, hs, ht⟩⟩ := h
  · cases h2
  · simp at e
    obtain ⟨rfl, rfl⟩ := e
    unfold Tb
    rw [hcur]
    have : cur.toList = flat (List.replicate n (0, 0)) := by
      rw [← ht]
      exact (List.take_of_length_le (by simp [hs])).symm
    rw [← this]

theorem Tb.isL {w : World} {g : Nat} {l : List T} (h : Tb w g l) (hr : ∀ x ∈ l, RT x) : IsL l (.slice (some ⟨g, 0, none⟩) l.length l.length) w := by
  refine ⟨_, _, rfl, Nat.le_refl _, .inr ⟨_, rfl⟩, ⟨hr, fun _ => ⟨g, 0, rfl, (Array.getElem?_eq_some_iff.1 h).1, fun i hi => ?_⟩⟩⟩
  have := flat_get l i hi
  rw [Nat.zero_add, cell_of_row _ _ _ _ _ _ h, cell_of_row _ _ _ _ _ _ h, List.getElem?_toArray, List.getElem?_toArray]
  exact this

/-- The times as far as j, then nothing. -/
def upT (L : List U) (j : Nat) : List T := (L.take j).map U.time ++ List.replicate (L.length - j) (0, 0)

theorem upT_len (L : List U) (j : Nat) (h : j ≤ L.length) : (upT L j).length = L.length := by simp [upT]; omega

theorem upT_step (L : List U) (j : Nat) (h : j < L.length) : (upT L j).set j (L.getD j u0).time = upT L (j + 1) := by
  unfold upT
  have e : L.length - j = (L.length - (j + 1)) + 1 := by omega
  have hl : ((L.take j).map U.time).length = j := by rw [List.length_map, List.length_take]; omega
  have hn : L.take (j + 1) = L.take j ++ [L.getD j u0] := by rw [List.take_add_one, List.getD, List.getElem?_eq_getElem h]; rfl
  rw [e, List.replicate_succ, List.set_append_right _ _ (by omega), hl, Nat.sub_self, List.set_cons_zero, hn, List.map_append, List.append_assoc]
  rfl

theorem Tb.set {w : World} {g j : Nat} {l : List T} (h : Tb w g l) (hj : j < l.length) (x : T) : Tb ((w.setCell ⟨g, j * 2, none⟩ (.int .i64 x.1)).setCell ⟨g, j * 2 + 1, none⟩ (.int .i64 x.2)) g (l.set j x) := by
  unfold Tb at *
  rw [← flat_setT l x j hj]
  simp [World.setCell, Array.getElem?_modify, h]

/-- How the times stand behind j rounds. -/
def Lj (w : World) (g : Nat) (L : List U) (j : Nat) (wr : World) : Prop := Tb wr g (upT L j) ∧ Below w.heap.size w wr

set_option maxRecDepth 20000 in
set_option maxHeartbeats 2000000 in
/-- Lower of a nil queue: no time. -/
theorem lower_nil (w : World) : Calls Try.prog 17 #[.pointer none] w fun e w' => ∃ a c, e = .returned (.slice a 0 c) ∧ Below w.heap.size w w' := by
  obtain ⟨iT, hiT, hT0, hT1, hT2⟩ := info_parts Try.infoTime
  have HL := hid' (len_nil w)
  go_enter Try.func17, Try.ntmps17
  go_wp2_with fail
  refine HL.out.mono ?_
  rintro e w' ⟨rfl, rfl⟩
  clear HL
  go_wp2_with (refine wpList_make_full _ rfl _ _ 47 rfl w'.heap.size 36 iT _ 2 Try.underlying47 hiT hT0 hT1 .i64 .i64 _ _ 0 rfl rfl rfl rfl (by omega) (by unfold maxLen; omega) (Nat.le_refl _) ?_; intro w1 hmade hgrow)
  have hb1 : Below w'.heap.size w' w1 := (Below.refl _ w').grown hgrow (Nat.le_refl _) (fun k hk => by cases hk)
  have HI : Hid (IsL [] (.slice (some ⟨w'.heap.size, 0, none⟩) 0 0) w1) := (made_T hmade).isL (fun x hx => by simp at hx)
  have HB1 := hid' hb1
  clear hmade hgrow hb1
  go_loopg [10] 0 (fun k i wr => i = .int .i64 0 ∧ wr = w1)
  case atStart => exact ⟨rfl, rfl⟩
  case round =>
    obtain ⟨rfl, rfl⟩ := hrel
    have HNW := hid' (new_L wr [] _ HI.out (by simp))
    go_wp2_with fail
    refine HNW.out.mono ?_
    rintro e w2 ⟨u, f, rfl, hst, hlen, hu, hb2⟩
    obtain rfl : f = [] := List.length_eq_zero_iff.1 (by simpa using hlen)
    obtain ⟨a, c, rfl, _⟩ := hu
    have HB2 := hid' (HB1.out.trans (hb2.mono HB1.out.size))
    clear HNW hst hlen hb2
    go_wp2
    go_ret
    exact ⟨a, c, rfl, HB2.out⟩

set_option maxRecDepth 20000 in
set_option maxHeartbeats 2000000 in
theorem lower_any (w : World) (G R : Nat) (room : Int) (L : List U) (p : Nat) (h : Q w G R room L p) : Calls Try.prog 17 #[.pointer (some ⟨G, 0, none⟩)] w fun e w' => ∃ u f, e = .returned u ∧ StepsOf (L.map U.time) f ∧ f.length ≤ L.length ∧ IsL f u w' ∧ Below w.heap.size w w' := by
  have mixed : Try.prog.follows .mixedOrders = true := by kernel_rfl
  obtain ⟨iT, hiT, hT0, hT1, hT2⟩ := info_parts Try.infoTime
  obtain ⟨S, f, ra, hq⟩ := h
  have HL := hid' (len_at G (L.length : Int) w hq.cells.2.2.2.1)
  have hmost := hq.most
  have hfits := hq.fits
  have HQ := hid' hq
  clear hq
  obtain ⟨n, hn⟩ : ∃ n, n = L.length := ⟨_, rfl⟩
  rw [← hn] at HL hfits
  have HN := hid' hn
  clear hn
  go_enter Try.func17, Try.ntmps17
  go_wp2_with fail
  refine HL.out.mono ?_
  rintro e w' ⟨rfl, rfl⟩
  clear HL
  go_wp2_with (refine wpList_make_full _ rfl _ _ 47 rfl w'.heap.size 36 iT _ 2 Try.underlying47 hiT hT0 hT1 .i64 .i64 _ _ n rfl rfl rfl rfl (by rw [hT2]; omega) (by unfold maxLen; omega) (Nat.le_refl _) ?_; intro w1 hmade hgrow)
  have hb1 : Below w'.heap.size w' w1 := (Below.refl _ w').grown hgrow (Nat.le_refl _) (fun k hk => by cases hk)
  have HI : Hid (Lj w' w'.heap.size L 0 w1) := ⟨by have := made_T hmade; rw [HN.out] at this; simpa [upT] using this, hb1⟩
  clear hmade hgrow hb1
  go_loopg [10] n (fun k i wr => ∃ j : Nat, j + k = n ∧ i = .int .i64 (j : Int) ∧ Hid (Lj w' w'.heap.size L j wr))
  case atStart => exact ⟨0, by omega, rfl, HI⟩
  case round =>
    obtain ⟨j, hj, rfl, hI⟩ := hrel
    cases gk with
    | zero =>
      obtain rfl : j = n := by omega
      have HNW : Hid (Calls Try.prog 25 #[.slice (some ⟨w'.heap.size, 0, none⟩) j j] wr fun e w' => ∃ u f, e = .returned u ∧ StepsOf (L.map U.time) f ∧ f.length ≤ L.length ∧ IsL f u w' ∧ Below wr.heap.size wr w') := by
        have e : upT L j = L.map U.time := by unfold upT; rw [HN.out]; simp
        have hil := hI.out.1.isL (fun x hx => by rw [e] at hx; obtain ⟨y, hy, rfl⟩ := List.mem_map.1 hx; exact (HQ.out.good y hy).time)
        rw [e, List.length_map, ← HN.out] at hil
        have hnl := new_L wr (L.map U.time) (.slice (some ⟨w'.heap.size, 0, none⟩) j j) hil (by simp; rw [← HN.out]; omega)
        refine hnl.mono ?_
        rintro e w' ⟨u, f, h1, h2, h3, h4, h5⟩
        exact ⟨u, f, h1, h2, by simpa using h3, h4, h5⟩
      go_wp2_with fail
      refine HNW.out.mono ?_
      rintro e w2 ⟨u, f, rfl, hst, hlen, hu, hb2⟩
      have HB2 := hid' (hI.out.2.trans (hb2.mono hI.out.2.size))
      have HS := hid' (And.intro hst (And.intro hlen hu))
      clear HNW hst hlen hb2 hu
      go_wp2
      go_ret
      exact ⟨u, f, rfl, HS.out.1, HS.out.2.1, HS.out.2.2, HB2.out⟩
    | succ k =>
      have hjL : j < L.length := by rw [← HN.out]; omega
      have hq := HQ.out.on hI.out.2
      obtain ⟨hS, hpl, hc4, hrd, hfu⟩ := hq.at hjL
      obtain ⟨h1, rfl, h3, h4, h5⟩ := hq.ne hS
      have ht : (S.getD ((f + j) % S.length) s0).t = (L.getD j u0).time := hrd.t
      have HGQ : Hid (∀ W, Below wr.heap.size wr W → W.cell? ⟨G, 1, none⟩ = some (.slice (some ⟨R, 0, none⟩) S.length S.length) ∧ W.cell? ⟨G, 2, none⟩ = some (.int .i64 (f : Int)) ∧ W.cell? ⟨R, 0 + (f + j) % S.length * 4 + 1, none⟩ = some (.int .i64 (L.getD j u0).time.1) ∧ W.cell? ⟨R, 0 + (f + j) % S.length * 4 + 1 + 1, none⟩ = some (.int .i64 (L.getD j u0).time.2)) := by
        intro W hB
        obtain ⟨c0, c1, c2, c3, c4⟩ := (hq.on hB).cells
        have hc := ((hq.on hB).at hjL).2.2.1
        rw [Nat.zero_add, ← ht]
        exact ⟨c1, c2, hc.k1, hc.k2⟩
      have hgl : w'.heap.size < wr.heap.size := (Array.getElem?_eq_some_iff.1 hI.out.1).1
      have HST : Hid (∀ W, Below wr.heap.size wr W → Lj w' w'.heap.size L (j + 1) ((W.setCell ⟨w'.heap.size, 0 + j * 2, none⟩ (.int .i64 (L.getD j u0).time.1)).setCell ⟨w'.heap.size, 0 + j * 2 + 1, none⟩ (.int .i64 (L.getD j u0).time.2)) ∧ (∃ x, W.cell? ⟨w'.heap.size, 0 + j * 2, none⟩ = some x) ∧ (∃ x, W.cell? ⟨w'.heap.size, 0 + j * 2 + 1, none⟩ = some x) ∧ W.frozen? ⟨w'.heap.size, 0 + j * 2, none⟩ = false ∧ W.frozen? ⟨w'.heap.size, 0 + j * 2 + 1, none⟩ = false) := by
        intro W hB
        have hT : Tb W w'.heap.size (upT L j) := (hB.block _ hgl).trans hI.out.1
        have hl := upT_len L j (by omega)
        rw [Nat.zero_add]
        refine ⟨⟨?_, ((hI.out.2.trans (hB.mono hI.out.2.size)).setCell (Nat.le_refl _) _).setCell (Nat.le_refl _) _⟩, ?_, ?_, frozen_of hT _, frozen_of hT _⟩
        · rw [← upT_step L j hjL]
          exact hT.set (by omega) _
        · have := (flat_get (upT L j) j (by omega)).1
          exact ⟨_, by rw [cell_of_row _ _ _ _ _ _ hT, List.getElem?_toArray]; exact this⟩
        · have := (flat_get (upT L j) j (by omega)).2
          exact ⟨_, by rw [cell_of_row _ _ _ _ _ _ hT, List.getElem?_toArray]; exact this⟩
      generalize (L.getD j u0).time = x at HGQ HST
      obtain ⟨x1, x2⟩ := x
      simp only at HGQ HST
      clear hq hc4 hrd hfu ht hI h3 hjL
      go_wp2_with fail
      refine PT.wp_region_tail 13 (PB.phi [PB.E (.slice (some ⟨w'.heap.size, 0, none⟩) n n), PB.E (.int .i64 (j : Int)), PB.E (.pointer (some ⟨G, 0, none⟩)), PB.E (.pointer (some ⟨G, 0, none⟩)), PB.E (.pointer (some ⟨G, 1, none⟩)), PB.E (.slice (some ⟨R, 0, none⟩) S.length S.length), PB.E (.pointer (some ⟨G, 0, none⟩)), PB.E (.int .i64 (j : Int)), PB.E (.int .i64 (((f + j) % S.length : Nat) : Int)), PB.E (.pointer (some ⟨R, 0 + (f + j) % S.length * 4, none⟩)), PB.E (.pointer (some ⟨R, 0 + (f + j) % S.length * 4 + 1, none⟩)), PB.E (.agg #[.int .i64 x1, .int .i64 x2]), PB.E (.pointer (some ⟨w'.heap.size, 0 + j * 2, none⟩))]) mixed (by kernel_rfl)
        (PB.phi_lasts _ ⟨PB.E_lasts _, PB.E_lasts _, PB.E_lasts _, PB.E_lasts _, PB.E_lasts _, PB.E_lasts _, PB.E_lasts _, PB.E_lasts _, PB.E_lasts _, PB.E_lasts _, PB.E_lasts _, PB.E_lasts _, PB.E_lasts _, trivial⟩) ?_ ?_
      · refine ⟨?_, ?_, ?_, ?_, ?_, ?_, ?_, ?_, ?_, ?_, ?_, ?_, ?_, trivial⟩ <;> intro A W hB hS hA hF
        · exact Or.inl (PB.does_move (PB.wanted_free rfl) rfl (hS.slots 3 rfl))
        · exact Or.inl (PB.does_move (PB.wanted_free rfl) rfl (hS.slots 4 rfl))
        · exact Or.inl (PB.does_move (PB.wanted_free rfl) rfl (hS.slots 0 rfl))
        · exact Or.inl (PB.does_run (PB.wanted_free rfl) (run_nilQ W (hA 2 rfl)) rfl)
        · exact Or.inl (PB.does_run (PB.wanted_free rfl) (run_fieldQ1 W (hA 3 rfl)) rfl)
        · exact Or.inl (PB.does_run (PB.wanted_free rfl) (run_loadQ W (hA 4 rfl) (HGQ.out W hB).1) rfl)
        · exact Or.inl (PB.does_move (PB.wanted_free rfl) rfl (hS.slots 0 rfl))
        · exact Or.inl (PB.does_move (PB.wanted_free rfl) rfl (hS.slots 4 rfl))
        · exact Or.inl (PB.does_call #[.pointer (some ⟨G, 0, none⟩), .int .i64 (j : Int)] (PB.wanted_free rfl) rfl Try.func21 rfl rfl (by show [PB.slot A 19, PB.slot A 20] = _; rw [show PB.slot A 19 = .pointer (some ⟨G, 0, none⟩) from (hA 6 rfl), show PB.slot A 20 = .int .i64 (j : Int) from (hA 7 rfl)]) (place_newB G f j S.length _ W (by omega) (by omega) (by omega) (by omega) (HGQ.out W hB).1 (HGQ.out W hB).2.1))
        · exact Or.inl (PB.does_run (PB.wanted_free rfl) (run_indexU W (hA 5 rfl) (hA 8 rfl) hpl (by omega)) rfl)
        · exact Or.inl (PB.does_run (PB.wanted_free rfl) (run_fieldU1 W (hA 9 rfl)) rfl)
        · exact Or.inl (PB.does_run (PB.wanted_free rfl) (run_load W (hA 10 rfl) (HGQ.out W hB).2.2.1 (HGQ.out W hB).2.2.2) rfl)
        · exact Or.inl (PB.does_run (PB.wanted_free rfl) (run_index W (hA 0 rfl) (hA 1 rfl) (by omega) (by omega)) rfl)
      · intro A W hB hS hL
        have h_13 : PB.slot A 13 = .slice (some ⟨w'.heap.size, 0, none⟩) n n := hL 0 (by decide)
        have h_14 : PB.slot A 14 = .int .i64 (j : Int) := hL 1 (by decide)
        have h_15 : PB.slot A 15 = .pointer (some ⟨G, 0, none⟩) := hL 2 (by decide)
        have h_16 : PB.slot A 16 = .pointer (some ⟨G, 0, none⟩) := hL 3 (by decide)
        have h_17 : PB.slot A 17 = .pointer (some ⟨G, 1, none⟩) := hL 4 (by decide)
        have h_18 : PB.slot A 18 = .slice (some ⟨R, 0, none⟩) S.length S.length := hL 5 (by decide)
        have h_19 : PB.slot A 19 = .pointer (some ⟨G, 0, none⟩) := hL 6 (by decide)
        have h_20 : PB.slot A 20 = .int .i64 (j : Int) := hL 7 (by decide)
        have h_21 : PB.slot A 21 = .int .i64 (((f + j) % S.length : Nat) : Int) := hL 8 (by decide)
        have h_22 : PB.slot A 22 = .pointer (some ⟨R, 0 + (f + j) % S.length * 4, none⟩) := hL 9 (by decide)
        have h_23 : PB.slot A 23 = .pointer (some ⟨R, 0 + (f + j) % S.length * 4 + 1, none⟩) := hL 10 (by decide)
        have h_24 : PB.slot A 24 = .agg #[.int .i64 x1, .int .i64 x2] := hL 11 (by decide)
        have h_25 : PB.slot A 25 = .pointer (some ⟨w'.heap.size, 0 + j * 2, none⟩) := hL 12 (by decide)
        have q_0 := hS.slots 0 rfl
        have q_1 := hS.slots 1 rfl
        have q_2 := hS.slots 2 rfl
        have q_3 := hS.slots 3 rfl
        have q_4 := hS.slots 4 rfl
        have q_5 := hS.slots 5 rfl
        have q_6 := hS.slots 6 rfl
        have q_7 := hS.slots 7 rfl
        have q_8 := hS.slots 8 rfl
        have q_9 := hS.slots 9 rfl
        have q_10 := hS.slots 10 rfl
        have q_11 := hS.slots 11 rfl
        have q_12 := hS.slots 12 rfl
        have q_26 := hS.slots 26 rfl
        have q_27 := hS.slots 27 rfl
        have q_28 := hS.slots 28 rfl
        simp only [PB.slot, Array.getD_eq_getD_getElem?, List.getElem?_toArray, List.getElem?_cons_succ, List.getElem?_cons_zero, Option.getD_some] at q_0 q_1 q_2 q_3 q_4 q_5 q_6 q_7 q_8 q_9 q_10 q_11 q_12 q_26 q_27 q_28
        have q_0 := (PT.slot_get A 0).trans q_0
        have q_1 := (PT.slot_get A 1).trans q_1
        have q_2 := (PT.slot_get A 2).trans q_2
        have q_3 := (PT.slot_get A 3).trans q_3
        have q_4 := (PT.slot_get A 4).trans q_4
        have q_5 := (PT.slot_get A 5).trans q_5
        have q_6 := (PT.slot_get A 6).trans q_6
        have q_7 := (PT.slot_get A 7).trans q_7
        have q_8 := (PT.slot_get A 8).trans q_8
        have q_9 := (PT.slot_get A 9).trans q_9
        have q_10 := (PT.slot_get A 10).trans q_10
        have q_11 := (PT.slot_get A 11).trans q_11
        have q_12 := (PT.slot_get A 12).trans q_12
        have q_26 := (PT.slot_get A 26).trans q_26
        have q_27 := (PT.slot_get A 27).trans q_27
        have q_28 := (PT.slot_get A 28).trans q_28
        have hA := PT.frame_of (A := A) (n := 29) hS.size
        have hd : A.defers = [] := hS.defers
        rw [hd] at hA
        obtain ⟨fr, hf⟩ : ∃ f, PB.slot A = f := ⟨_, rfl⟩
        rw [hf] at hA h_13 h_14 h_15 h_16 h_17 h_18 h_19 h_20 h_21 h_22 h_23 h_24 h_25 q_0 q_1 q_2 q_3 q_4 q_5 q_6 q_7 q_8 q_9 q_10 q_11 q_12 q_26 q_27 q_28
        rw [hA]
        clear hA hf hd hL hS
        simp only [List.range, List.range.loop, List.map_cons, List.map_nil, List.drop_succ_cons, List.drop_zero, h_13, h_14, h_15, h_16, h_17, h_18, h_19, h_20, h_21, h_22, h_23, h_24, h_25, q_0, q_1, q_2, q_3, q_4, q_5, q_6, q_7, q_8, q_9, q_10, q_11, q_12, q_26, q_27, q_28]
        clear h_13 h_14 h_15 h_16 h_17 h_18 h_19 h_20 h_21 h_22 h_23 h_24 h_25 q_0 q_1 q_2 q_3 q_4 q_5 q_6 q_7 q_8 q_9 q_10 q_11 q_12 q_26 q_27 q_28
        obtain ⟨hL2, ⟨z0, c0⟩, ⟨z1, c1⟩, f0, f1⟩ := HST.out W hB
        have HRE := hid' hL2
        clear hB hL2 HGQ HST
        rw [Nat.zero_add] at *
        go_wp2
        go_roundg k
        case measure => omega
        case rel => exact ⟨j + 1, by omega, by simp, HRE⟩

end Go.Proofs.Ytboeodcjcbgeaaa
