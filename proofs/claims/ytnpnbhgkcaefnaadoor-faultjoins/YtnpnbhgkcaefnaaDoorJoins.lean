/-
  What is proved here: errors.Join of wrapped numbers and nils: nil of nils alone, else what joins those that are not nil, in their order.
-/
import Derived.Test.YtnpnbhgkcaefnaaDoorJoin
namespace Go.Proofs.YtnpnbhgkcaefnaaDoor
open Go.RowKit Go.Extern.Stop Go.Stop Go.Extern
set_option linter.unusedVariables false

theorem Tryd.info25 : (Tryd.prog.info? 25).map (fun i => (i.zero, i.size, i.bytes)) = some (some .nilIface, 1, 16) := by kernel_rfl

/-- A number in the op x; nil of OK. -/
def xV (z : Int) : Value := if z = 0 then .nilIface else elV z

/-- Those that are not OK. -/
def nz (l : List Int) : List Int := l.filter (fun z => z != 0)

theorem nz_le (l : List Int) : (nz l).length ≤ l.length := List.length_filter_le _ _

theorem nz_succ (l : List Int) (j : Nat) (hj : j < l.length) : nz (l.take (j + 1)) = nz (l.take j) ++ (if l.getD j 0 = 0 then [] else [l.getD j 0]) := by
  unfold nz
  rw [List.take_add_one, List.filter_append]
  congr 1
  simp [List.getD, List.getElem?_eq_getElem hj]
  by_cases h : l[j] = 0 <;> simp [h]

theorem nz_take_le (l : List Int) (j : Nat) : (nz (l.take j)).length ≤ (nz l).length := by
  unfold nz
  exact (List.Sublist.filter _ (List.take_sublist j l)).length_le

/-- A slice of errors at a reads as the numbers l in the op x. -/
def Ers (w : World) (a : Option Addr) (l : List Int) : Prop :=
  l ≠ [] → ∃ b off, a = some ⟨b, off, none⟩ ∧ ∀ i, i < l.length → w.cell? ⟨b, off + i, none⟩ = some (xV (l.getD i 0))

theorem Ers.keep {w w' : World} {a : Option Addr} {l : List Int} (h : Ers w a l) (hb : Below w.heap.size w w') : Ers w' a l := by
  intro hl
  obtain ⟨b, off, e, hc⟩ := h hl
  exact ⟨b, off, e, fun i hi => (hb.cell (lt_of_cell (hc i hi))).trans (hc i hi)⟩

theorem owns_setOther {w : World} {base : Nat} {e : TypeId} {size : Nat} {g n cap : Nat} {xs : List Value} (h : w.ownsRow base e size (.slice (some ⟨g, 0, none⟩) n cap) n xs) {a : Addr} (ha : g ≠ a.block) (u : Value) :
    (w.setCell a u).ownsRow base e size (.slice (some ⟨g, 0, none⟩) n cap) n xs := by
  obtain ⟨h1, ⟨h2, _⟩ | ⟨g', cap', cur, hv, hg, hh, hrest⟩⟩ := h
  · cases h2
  · cases hv
    exact ⟨h1, .inr ⟨g, cap, cur, rfl, hg, (Below.heap_setCell _ _ _ _ ha).trans hh, hrest⟩⟩

theorem one_el (z : Int) : ∀ u ∈ [elV z], u.oneCell' = true := by
  intro u hu
  simp at hu
  subst hu
  rfl

/-- Where errors.Join's second loop stands. -/
def JAt (w : World) (l : List Int) (g p : Nat) (j : Nat) (wr : World) : Prop :=
  wr.cell? ⟨p, 0, none⟩ = some (.slice (some ⟨g, 0, none⟩) (nz (l.take j)).length (nz l).length) ∧ wr.frozen? ⟨p, 0, none⟩ = false ∧
  wr.ownsRow w.heap.size 25 1 (.slice (some ⟨g, 0, none⟩) (nz (l.take j)).length (nz l).length) (nz (l.take j)).length ((nz (l.take j)).map elV) ∧ Below w.heap.size w wr ∧ g ≠ p ∧ w.heap.size ≤ p

theorem jAt_start (w w2 : World) (l : List Int) (n : Nat) (hn : n = (nz l).length) (hown : w2.ownsRow w.heap.size 25 1 (.slice (some ⟨w.heap.size, 0, none⟩) 0 n) 0 []) (hgrow : w.grownBy w2 none) :
    JAt w l w.heap.size w2.heap.size 0 (w2.alloc (.cells #[.slice (some ⟨w.heap.size, 0, none⟩) 0 n] 62)) := by
  have hlt := (hown.lt w.heap.size rfl).2
  have hb : Below w.heap.size w w2 := (Below.refl _ _).grown hgrow (Nat.le_refl _) (fun k hk => by cases hk)
  subst hn
  refine ⟨by simp [nz], by simp, by simpa [nz] using hown.alloc _, hb.alloc (by omega) _, by omega, by omega⟩

theorem JAt.block3 {w wr w3 : World} {l : List Int} {g p j : Nat} (h : JAt w l g p j wr) {o : Obj} (hgrow : (wr.alloc o).grownBy w3 (some g)) : w3.heap[p]? = wr.heap[p]? := by
  obtain ⟨h1, h2, h3, h4, h5, h6⟩ := h
  have hp : p < wr.heap.size := lt_of_cell h1
  exact (hgrow.block p (by simp; exact Nat.lt_succ_of_lt hp) (fun e => h5 (Option.some.inj e).symm)).trans (Below.heap_alloc _ _ _ hp)

theorem JAt.cell3 {w wr w3 : World} {l : List Int} {g p j : Nat} (h : JAt w l g p j wr) {o : Obj} (hgrow : (wr.alloc o).grownBy w3 (some g)) : w3.cell? ⟨p, 0, none⟩ = some (.slice (some ⟨g, 0, none⟩) (nz (l.take j)).length (nz l).length) :=
  (World.cell?_of_block (w := wr) (h.block3 hgrow)).trans h.1

theorem JAt.frozen3 {w wr w3 : World} {l : List Int} {g p j : Nat} (h : JAt w l g p j wr) {o : Obj} (hgrow : (wr.alloc o).grownBy w3 (some g)) : w3.frozen? ⟨p, 0, none⟩ = false :=
  (World.frozen?_of_block (w := wr) (h.block3 hgrow)).trans h.2.1

theorem JAt.nil {w wr : World} {l : List Int} {g p j : Nat} (hj : j < l.length) (hz : l.getD j 0 = 0) (h : JAt w l g p j wr) : JAt w l g p (j + 1) wr := by
  unfold JAt at h ⊢
  rw [nz_succ l j hj, if_pos hz, List.append_nil]
  exact h

theorem JAt.add {w wr w3 : World} {l : List Int} {g p j : Nat} (hj : j < l.length) (hz : ¬ l.getD j 0 = 0) (h : JAt w l g p j wr) {o : Obj}
    (hown : w3.ownsRow w.heap.size 25 1 (.slice (some ⟨g, 0, none⟩) ((nz (l.take j)).length + 1) (nz l).length) ((nz (l.take j)).length + 1) ((nz (l.take j)).map elV ++ [elV (l.getD j 0)])) (hgrow : (wr.alloc o).grownBy w3 (some g)) :
    JAt w l g p (j + 1) (w3.setCell ⟨p, 0, none⟩ (.slice (some ⟨g, 0, none⟩) ((nz (l.take j)).length + 1) (nz l).length)) := by
  have c3 := h.cell3 hgrow
  have f3 := h.frozen3 hgrow
  obtain ⟨h1, h2, h3, h4, h5, h6⟩ := h
  have e : nz (l.take (j + 1)) = nz (l.take j) ++ [l.getD j 0] := by rw [nz_succ l j hj, if_neg hz]
  have hs := h4.size
  unfold JAt
  rw [e, List.length_append, List.map_append]
  refine ⟨World.cell?_setCell_same _ _ _ c3, ?_, owns_setOther hown h5 _, ?_, h5, h6⟩
  · rw [World.frozen?_setCell]; exact f3
  · refine (Below.grown (h4.alloc (by omega) o) hgrow (by simp; omega) ?_).setCell h6 _
    intro k hk
    exact (h3.lt k hk).1

theorem JAt.fin {w wr : World} {l : List Int} {g p : Nat} (h : JAt w l g p l.length wr) : JoinAt p (nz l) wr := by
  obtain ⟨h1, h2, h3, h4, h5, h6⟩ := h
  rw [List.take_length] at h1 h3
  refine ⟨g, _, h1, Nat.le_refl _, fun i hi => ?_⟩
  rw [h3.cellAt i (by omega)]
  simp [List.getElem?_eq_getElem hi, List.getD]

set_option maxRecDepth 10000 in
set_option maxHeartbeats 4000000 in
theorem join_any (w : World) (a : Option Addr) (cap : Nat) (l : List Int) (hs : Ers w a l) (hc : l.length ≤ cap) (hl : l.length ≤ 200) :
    Calls Tryd.prog 24 #[.slice a l.length cap] w fun e w' => ((nz l = [] ∧ e = .returned .nilIface) ∨ ∃ p, nz l ≠ [] ∧ e = .returned (.iface 60 (.pointer (some ⟨p, 0, none⟩))) ∧ JoinAt p (nz l) w') ∧ Below w.heap.size w w' := by
  obtain ⟨i0, hi, hz0, hz1, hz2⟩ := info_parts Tryd.info25
  have HS := hid' hs
  clear hs
  go_enter Tryd.func24, Tryd.ntmps24
  go_wp2
  go_loopg [3, 11] l.length (fun k n i wr => ∃ j : Nat, j + k = l.length ∧ i = .int .i64 (j : Int) ∧ n = .int .i64 ((nz (l.take j)).length : Int) ∧ w = wr)
  case atStart => exact ⟨0, by omega, rfl, rfl, rfl⟩
  case round =>
    obtain ⟨j, hj, rfl, rfl, rfl⟩ := hrel
    have hn1 := nz_le (l.take j)
    have hn2 : (l.take j).length ≤ j := by rw [List.length_take]; omega
    have hnj : (nz (l.take j)).length ≤ j := by omega
    clear hn1 hn2
    cases gk with
    | zero =>
      have e : j = l.length := by omega
      subst e
      rw [List.take_length] at hnj ⊢
      obtain ⟨n, hn⟩ : ∃ n, n = (nz l).length := ⟨_, rfl⟩
      rw [← hn] at hnj ⊢
      have HN := hid' hn
      clear hn hj
      by_cases hn0 : 0 < n
      · have hne : ¬ n = 0 := by omega
        go_wp2_with (at_make; refine wpList_make_own _ rfl _ _ 36 rfl w.heap.size 25 i0 .nilIface 1 Tryd.underlying36 hi hz0 hz1 .i64 .i64 (n : Int) n rfl rfl rfl (by rw [hz2]; omega) (by unfold maxLen; omega) (Nat.le_refl _) ?_; intro w2 hown2 hgrow2)
        have HJ0 := hid' (jAt_start w w2 l n HN.out hown2 hgrow2)
        clear hown2 hgrow2
        go_wp2
        go_loopg [28] l.length (fun k i wr => ∃ j : Nat, j + k = l.length ∧ i = .int .i64 (j : Int) ∧ JAt w l w.heap.size w2.heap.size j wr)
        case atStart => exact ⟨0, by omega, rfl, HJ0.out⟩
        case round =>
          obtain ⟨j, hj, rfl, hat⟩ := hrel
          have HA := hid' hat
          cases gk with
          | zero =>
            have e : j = l.length := by omega
            subst e
            clear hj hat
            go_wp2
            go_ret
            exact ⟨.inr ⟨_, fun e => by have := HN.out; rw [e] at this; simp at this; omega, rfl, HA.out.fin⟩, HA.out.2.2.2.1⟩
          | succ k =>
            have hjl : j < l.length := by omega
            have hjc : j < cap := by omega
            have HS2 := HS.out.keep hat.2.2.2.1
            obtain ⟨b, off, rfl, hcell⟩ := HS2 (by intro e; rw [e] at hjl; simp at hjl)
            have hcx := hcell j hjl
            have HSU := hid' (nz_succ l j hjl)
            have HJ := hid' hj
            have hle := nz_take_le l (j + 1)
            clear hcell hj HS2
            by_cases hz : l.getD j 0 = 0
            · rw [show xV (l.getD j 0) = .nilIface by unfold xV; rw [if_pos hz]] at hcx
              have HZ := hid' hz
              clear hz hat hle
              go_wp2
              go_roundg k
              case measure => omega
              case rel => exact ⟨j + 1, by have := HJ.out; omega, by go_num, HA.out.nil hjl HZ.out⟩
            · rw [show xV (l.getD j 0) = elV (l.getD j 0) by unfold xV; rw [if_neg hz]] at hcx
              have HZ := hid' hz
              rw [nz_succ l j hjl, if_neg hz, List.length_append, List.length_singleton] at hle
              obtain ⟨q1, q2, q3, q4, q5, q6⟩ := hat
              have Q3 := hid' q3
              have hsw := q4.size
              clear hz q3 q4 q5 q6
              generalize hzz : l.getD j 0 = z at hcx
              have HZZ := hid' hzz
              clear hzz
              have hcx' : wr.cell? ⟨b, off + j, none⟩ = some (.iface 53 (.agg #[.string ⟨#[120]⟩, .iface 27 (.int .i64 z)])) := hcx
              clear hcx
              go_wp2_with (at_builtin; refine wpList_append_fits _ rfl (.tmp 38) (.tmp 40) 36 rfl w.heap.size 25 i0 1 Tryd.underlying36 hi hz1 w.heap.size (nz (l.take j)).length (nz l).length _ rfl (Q3.out.alloc _) ⟨wr.heap.size, 0, none⟩ 1 1 [elV z] rfl rfl (one_cell _ _ _) (one_el _) hle ?_; intro w3 hown3 hgrow3; have hc3 := HA.out.cell3 hgrow3; have hf3 := HA.out.frozen3 hgrow3)
              have HA3 := hid' (HA.out.add hjl HZ.out (by rw [HZZ.out]; exact hown3) hgrow3)
              go_roundg k
              case measure => omega
              case rel => exact ⟨j + 1, by have := HJ.out; omega, by go_num, HA3.out⟩
      · have hn00 : n < 1 := by omega
        have hnz : n = 0 := by omega
        subst hnz
        go_wp2
        go_ret
        exact ⟨.inl ⟨List.length_eq_zero_iff.1 HN.out.symm, rfl⟩, Below.refl _ _⟩
    | succ k =>
      have hjl : j < l.length := by omega
      have hjc : j < cap := by omega
      obtain ⟨b, off, rfl, hcell⟩ := HS.out (by intro e; rw [e] at hjl; simp at hjl)
      have hcx := hcell j hjl
      have HSU := hid' (nz_succ l j hjl)
      have HJ := hid' hj
      clear hcell hj
      by_cases hz : l.getD j 0 = 0
      · rw [show xV (l.getD j 0) = .nilIface by unfold xV; rw [if_pos hz]] at hcx
        rw [if_pos hz, List.append_nil] at HSU
        clear hz
        go_wp2
        go_roundg k
        case measure => omega
        case rel => exact ⟨j + 1, by have := HJ.out; omega, by go_num, by rw [HSU.out], rfl⟩
      · rw [show xV (l.getD j 0) = elV (l.getD j 0) by unfold xV; rw [if_neg hz]] at hcx
        rw [if_neg hz] at HSU
        unfold elV at hcx
        clear hz
        go_wp2
        go_roundg k
        case measure => omega
        case rel => exact ⟨j + 1, by have := HJ.out; omega, by go_num, by rw [HSU.out, List.length_append]; go_num, rfl⟩
end Go.Proofs.YtnpnbhgkcaefnaaDoor
