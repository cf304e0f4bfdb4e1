/-
  What is proved here: Assign of the program.
-/
import Derived.Test.YtioldkilfeemfaaCat
import Derived.Test.YtioldkilfeemfaaLive
namespace Go.Proofs.Ytioldkilfeemfaa
open Go.RowKit Go.Proofs
set_option linter.unusedVariables false
set_option linter.unusedSimpArgs false

/-- A row with a window as a further value. -/
def rowOf (l : List V) (b : Int) : List V := l ++ [(0, b, ⟨#[]⟩)]

/-- What Assign answers. -/
def asT (l : List V) (col size s : Int) : List (List V) × Int :=
  if 0 ≤ col ∧ col < (l.length : Int) then
    (if 16 ≤ l.length then ([], 3) else
      if (l.getD col.toNat d0).1 = 0 then
        (if (bkT (l.getD col.toNat d0).2.1 size s).2 = 0 then ((bkT (l.getD col.toNat d0).2.1 size s).1.map (rowOf l), 0) else ([], (bkT (l.getD col.toNat d0).2.1 size s).2))
      else ([], 80))
  else ([], 9)

theorem kind_of {w : World} {B : Nat} {e : TypeId} {size : Nat} {v : Value} {n : Nat} {xs : List Value} (h : w.ownsRow B e size v n xs) : ∀ g, v.ownBlock = some g → ∃ c fz, w.heap[g]? = some (.cells c e fz) := by
  intro g hg
  rcases h.2 with ⟨rfl, _⟩ | ⟨g', cap, cur, rfl, _, hgg, _⟩
  · simp [Value.ownBlock] at hg
  · simp [Value.ownBlock] at hg
    subst hg
    exact ⟨cur, (0, 0), hgg⟩

/-- Rows of different kinds are different blocks. -/
theorem apart_of {w : World} {B B' : Nat} {v v' : Value} {n n' : Nat} {xs xs' : List Value} (h : w.ownsRow B 48 3 v n xs) (h' : w.ownsRow B' 39 1 v' n' xs') : v.ownBlock = none ∨ v.ownBlock ≠ v'.ownBlock := by
  cases hv : v.ownBlock with
  | none => exact .inl rfl
  | some g =>
    right
    intro e
    obtain ⟨c, fz, h1⟩ := kind_of h g hv
    obtain ⟨c', fz', h2⟩ := kind_of h' g e.symm
    rw [h1] at h2
    simp at h2

theorem Rws.nil (B : Nat) (w : World) (x : Value) (f : Nat → Value) (h : w.ownsRow B 39 1 x 0 []) : Rws B w x [] f := ⟨h, fun i hi => by simp at hi⟩

theorem Rws.push {B : Nat} {w w' : World} {x x' v : Value} {L : List (List V)} {r : List V} {f : Nat → Value} (h : Rws B w x L f) (hv : w.ownsRow B 48 3 v r.length (flat r)) (hg : w.grownBy w' x.ownBlock)
    (ho : w'.ownsRow B 39 1 x' (L.length + 1) ((List.range L.length).map f ++ [v])) : Rws B w' x' (L ++ [r]) (fun i => if i < L.length then f i else v) := by
  refine ⟨?_, fun i hi => ?_⟩
  · rw [List.length_append, List.length_singleton, List.range_succ, List.map_append]
    have e : (List.range L.length).map (fun i => if i < L.length then f i else v) = (List.range L.length).map f := List.map_congr_left (fun i hi => by rw [if_pos (List.mem_range.1 hi)])
    rw [e]
    simpa using ho
  · rw [List.length_append, List.length_singleton] at hi
    by_cases hl : i < L.length
    · rw [if_pos hl, show (L ++ [r]).getD i [] = L.getD i [] by simp [List.getD, List.getElem?_append_left hl]]
      exact (h.inner i hl).kept hg (apart_of (h.inner i hl) h.outer)
    · obtain rfl : i = L.length := by omega
      rw [if_neg hl, show (L ++ [r]).getD L.length [] = r by simp [List.getD]]
      exact hv.kept hg (apart_of hv h.outer)

theorem Rws.mono {B B' : Nat} {w : World} {x : Value} {L : List (List V)} {f : Nat → Value} (h : Rws B w x L f) (hB : B' ≤ B) : Rws B' w x L f := by
  have m : ∀ {e : TypeId} {size : Nat} {v : Value} {n : Nat} {xs : List Value}, w.ownsRow B e size v n xs → w.ownsRow B' e size v n xs := fun h => ⟨h.1, by
    rcases h.2 with hn | ⟨g, cap, cur, h1, h2, h3⟩
    · exact .inl hn
    · exact .inr ⟨g, cap, cur, h1, Nat.le_trans hB h2, h3⟩⟩
  exact ⟨m h.outer, fun i hi => m (h.inner i hi)⟩

theorem map_take_step {l : List V} {bs : List Int} {j : Nat} (h : j < bs.length) : (bs.take (j + 1)).map (rowOf l) = (bs.take j).map (rowOf l) ++ [rowOf l (bs.getD j 0)] := by
  rw [List.take_add_one, List.map_append, List.getElem?_eq_getElem h]
  simp [List.getD, List.getElem?_eq_getElem h]

theorem two_new (w : World) (o : Obj) (x y : Value) (t : TypeId) : ((w.alloc o).alloc (.cells #[x, y] t)).cell? ⟨w.heap.size + 1, 0, none⟩ = some x ∧ ((w.alloc o).alloc (.cells #[x, y] t)).cell? ⟨w.heap.size + 1, 1, none⟩ = some y := by
  have h := alloc_new (w.alloc o) (.cells #[x, y] t)
  rw [World.size_alloc] at h
  exact ⟨by rw [cell_of_row _ _ _ _ _ _ h]; rfl, by rw [cell_of_row _ _ _ _ _ _ h]; rfl⟩

theorem vs_new (w : World) (k i : Int) (s : ByteArray) : Vs (w.alloc (.cells #[.int .i64 k, .int .i64 i, .string s] 48)).heap.size (w.alloc (.cells #[.int .i64 k, .int .i64 i, .string s] 48)) (some ⟨w.heap.size, 0, none⟩) [(k, i, s)] := by
  have h := alloc_new w (.cells #[.int .i64 k, .int .i64 i, .string s] 48)
  refine ⟨fun _ => ⟨w.heap.size, 0, rfl, by simp, fun j hj => ?_⟩⟩
  have : j = 0 := by simpa using hj
  subst this
  exact ⟨by rw [cell_of_row _ _ _ _ _ _ h]; rfl, by rw [cell_of_row _ _ _ _ _ _ h]; rfl, by rw [cell_of_row _ _ _ _ _ _ h]; rfl⟩

theorem rowOf_length (l : List V) (b : Int) : (rowOf l b).length = l.length + 1 := by simp [rowOf]

theorem one_of {w : World} {B e size : Nat} {v : Value} {n : Nat} {xs : List Value} (h : w.ownsRow B e size v n xs) : v.oneCell' = true := by
  rcases h.2 with ⟨rfl, _⟩ | ⟨g', cap, cur, rfl, _⟩ <;> rfl

theorem slice_of {w : World} {B e size : Nat} {v : Value} {n : Nat} {xs : List Value} (h : w.ownsRow B e size v n xs) : ∃ a m c, v = .slice a m c := by
  rcases h.2 with ⟨rfl, _⟩ | ⟨g', cap, cur, rfl, _⟩
  · exact ⟨_, _, _, rfl⟩
  · exact ⟨_, _, _, rfl⟩

set_option maxRecDepth 20000 in
set_option maxHeartbeats 4000000 in
theorem Assign_any (w : World) (a : Option Addr) (cap n : Nat) (l : List V) (col size s : Int) (hn : l.length = n) (hv : Vs w.heap.size w a l) (hl : n ≤ 30) :
    Calls Try.prog 16 #[.slice a n cap, .int .i64 col, .int .i64 size, .int .i64 s] w fun e w' => ∃ x f, e = .returned (.tuple #[x, .int .i64 (asT l col size s).2]) ∧ Rws w.heap.size w' x (asT l col size s).1 f ∧ Below w.heap.size w w' := by
  obtain ⟨iR, hiR, hR0, hR1, hR2⟩ := info_parts Try.infoRow
  have HB := hid' (between_any col 0 ((n : Int) - 1) w)
  by_cases hc : 0 ≤ col ∧ col < (n : Int)
  · obtain ⟨c, rfl⟩ : ∃ c : Nat, col = (c : Int) := ⟨col.toNat, by omega⟩
    have hcn : c < n := by omega
    rw [decide_eq_true (show 0 ≤ (c : Int) ∧ (c : Int) ≤ (n : Int) - 1 by omega)] at HB
    by_cases h16 : 16 ≤ n
    · have HR : Hid (asT l (c : Int) size s = ([], 3)) := by unfold Hid asT; rw [hn, if_pos hc, if_pos h16]
      generalize asT l (c : Int) size s = R at HR ⊢
      rw [HR.out]
      clear HR hv hn
      go_enter Try.func16, Try.ntmps16
      go_wp2_with fail
      refine HB.out.mono ?_
      rintro e w' ⟨rfl, rfl⟩
      go_wp2
      go_ret2
      exact ⟨_, fun _ => undef, rfl, Rws.nil _ _ _ _ (World.ownsRow_nil _ _ _ _), Below.refl _ _⟩
    · obtain ⟨b1, o1, rfl, hB1, hc1⟩ := hv.cells (by rintro rfl; simp at hn; omega)
      have p0 := (hc1 c (by omega)).1
      have p1 := (hc1 c (by omega)).2.1
      by_cases hk : (l.getD c d0).1 = 0
      · rw [hk] at p0
        obtain ⟨⟨bs, cc⟩, hbk⟩ : ∃ r, bkT (l.getD c d0).2.1 size s = r := ⟨_, rfl⟩
        have hbl := bkT_length (l.getD c d0).2.1 size s
        have H1 := hid' (fun w => Buckets_B (l.getD c d0).2.1 size s bs cc w hbk)
        have HR : Hid (asT l (c : Int) size s = if cc = 0 then (bs.map (rowOf l), 0) else ([], cc)) := by
          unfold Hid asT; rw [hn, if_pos hc, if_neg h16, Int.toNat_natCast, if_pos hk, hbk]
        rw [hbk] at hbl
        generalize asT l (c : Int) size s = R at HR ⊢
        rw [HR.out]
        clear HR hbk hk
        generalize (l.getD c d0).2.1 = z at p1 H1
        simp only at hbl
        by_cases hcc : cc = 0
        · subst hcc
          rw [if_pos rfl]
          generalize hm : bs.length = m at H1 hbl
          have HM := hid' hm
          have HV := hid' hv
          have HN := hid' hn
          clear hm hv hn hc1
          go_enter Try.func16, Try.ntmps16
          go_wp2_with fail
          refine HB.out.mono ?_
          rintro e w' ⟨rfl, rfl⟩
          go_wp2_with fail
          refine (H1.out _).mono ?_
          rintro e w2 ⟨a2, c2, rfl, n2, g2⟩
          clear H1 HB
          have HV := hid' (HV.out.on g2)
          have HG2 := hid' g2
          have N2 := hid' n2
          clear n2 g2 p0 p1
          go_wp2_with (refine wpList_make_own _ rfl _ _ 41 rfl w2.heap.size 39 iR (.slice none 0 0) 1 Try.underlying41 hiR hR0 hR1 .i64 .i64 _ m rfl rfl rfl (by rw [hR2]; omega) (by unfold maxLen; omega) (Nat.le_refl _) ?_; intro w3 hmade hgrow)
          have HM3 := hid' hmade
          have HB3 : Hid (Below w2.heap.size w2 w3) := (Below.refl _ w2).grown hgrow (Nat.le_refl _) (fun k hk => by cases hk)
          clear hmade hgrow
          go_loopg [12, 52] m (fun k x i wr => ∃ (j : Nat) (f : Nat → Value), j + k = m ∧ i = .int .i64 (j : Int) ∧ Hid (Rws w2.heap.size wr x ((bs.take j).map (rowOf l)) f) ∧ Hid (Below w2.heap.size w2 wr))
          case atStart => exact ⟨0, fun _ => undef, by omega, rfl, hid' (Rws.nil _ _ _ _ HM3.out), HB3⟩
          case round =>
            obtain ⟨j, f, hj, rfl, HRW, HBL⟩ := hrel
            cases gk with
            | zero =>
              obtain rfl : m = j := by omega
              go_wp2
              go_ret2
              refine ⟨_, f, rfl, ?_, HG2.out.trans (HBL.out.mono HG2.out.size)⟩
              have h := HRW.out
              rw [List.take_of_length_le (by rw [HM.out]; omega)] at h
              exact h.mono HG2.out.size
            | succ k =>
              have hjl : j < bs.length := by rw [HM.out]; omega
              obtain ⟨b2, o2, rfl, hB2, hc2⟩ := N2.out.cells (by rintro rfl; simp at hjl)
              have q1 := (HBL.out.cell (p := ⟨b2, o2 + j, none⟩) hB2).trans (hc2 j hjl)
              have HST := hid' (map_take_step (l := l) hjl)
              generalize bs.getD j 0 = y at q1 HST
              have hsz := HBL.out.size
              clear hc2 hjl
              have bA := (Below.refl wr.heap.size wr).alloc (Nat.le_refl _) (.cells #[.int .i64 0, .int .i64 y, .string ⟨#[]⟩] 48)
              have bW := bA.alloc (by simp) (.cells #[.slice (some ⟨b1, o1, none⟩) n cap, .slice (some ⟨wr.heap.size, 0, none⟩) 1 1] 39)
              have HJ := hid' (Join_any _ (wr.heap.size + 1) l [(0, y, ⟨#[]⟩)] b1 o1 wr.heap.size 0 cap 1 n 1 HN.out rfl (two_new wr (.cells #[.int .i64 0, .int .i64 y, .string ⟨#[]⟩] 48) (.slice (some ⟨b1, o1, none⟩) n cap) (.slice (some ⟨wr.heap.size, 0, none⟩) 1 1) 39).1 (two_new _ _ _ _ _).2 (by simp)
                (((HV.out.on HBL.out).keep bW).mono bW.size) ((vs_new wr 0 y ⟨#[]⟩).on ((Below.refl _ _).alloc (Nat.le_refl _) _)) (by omega) (by omega) (by omega))
              have HBW := hid' bW
              have hszW := bW.size
              clear bA bW
              generalize hW : ((wr.alloc (.cells #[.int .i64 0, .int .i64 y, .string ⟨#[]⟩] 48)).alloc (.cells #[.slice (some ⟨b1, o1, none⟩) n cap, .slice (some ⟨wr.heap.size, 0, none⟩) 1 1] 39)) = W at HJ HBW hszW
              go_wp2_with fail
              refine HJ.out.mono ?_
              rintro e w4 ⟨x, rfl, hx, hb4⟩
              obtain ⟨xa, xm, xc, rfl⟩ := slice_of hx
              have hsz4 := hb4.size
              have HX := hid' hx
              have HB4 := hid' hb4
              have HR4 := hid' ((HRW.out.keep HBW.out).keep hb4)
              have HLN : Hid (((bs.take j).map (rowOf l)).length = j) := by unfold Hid; rw [List.length_map, List.length_take, HM.out]; omega
              have HO4 : Hid (w4.ownsRow w2.heap.size 39 1 u12 j ((List.range j).map f)) := by
                have := HR4.out.outer
                rw [HLN.out] at this
                exact this
              clear hx hb4 HJ hW q1
              go_wp2_with (at_builtin; refine wpList_append_own _ rfl (.tmp 56) (.tmp 63) 41 rfl w2.heap.size 39 iR (.slice none 0 0) 1 24 Try.underlying41 hiR hR0 hR1 hR2 rfl (by decide) _ _ _ rfl (HO4.out.alloc _) ⟨w4.heap.size, 0, none⟩ 1 1 [.slice xa xm xc] rfl rfl (cell_one_new _ _ _) (by intro u hu; simp at hu; subst hu; exact one_of HX.out) (by unfold maxLen; omega) (by omega) (by simp; omega) ?_; intro v5 w5 hown5 hgrow5 hnil5)
              have hgr5 : (w4.alloc (.cells #[.slice xa xm xc] 39)).grownBy w5 u12.ownBlock := hgrow5
              have bel4 : Below w2.heap.size w2 w4 := (HBL.out.trans (HBW.out.mono hsz)).trans (HB4.out.mono (by omega))
              have hb5 : Hid (Below w2.heap.size w2 w5) := (bel4.alloc (by omega) _).grown hgr5 (by simp; omega) (fun q hq => (HO4.out.lt q hq).1)
              have al := (Below.refl w4.heap.size w4).alloc (Nat.le_refl _) (.cells #[.slice xa xm xc] 39)
              have HR5 : Hid (Rws w2.heap.size w5 v5 ((bs.take (j + 1)).map (rowOf l)) (fun i => if i < j then f i else .slice xa xm xc)) := by
                unfold Hid
                rw [HST.out]
                have hx5 : (w4.alloc (.cells #[.slice xa xm xc] 39)).ownsRow w2.heap.size 48 3 (.slice xa xm xc) (rowOf l y).length (flat (rowOf l y)) := by
                  have h := HX.out
                  refine ownsRow_on ⟨h.1, ?_⟩ al
                  rcases h.2 with hn | ⟨g, cp, cur, h1, h2, h3⟩
                  · exact .inl hn
                  · exact .inr ⟨g, cp, cur, h1, by omega, h3⟩
                have := (HR4.out.keep al).push hx5 hgr5 (by rw [HLN.out]; exact hown5)
                rw [HLN.out] at this
                exact this
              clear hgrow5 hnil5 hgr5 hown5
              go_roundg k
              case measure => omega
              case rel => exact ⟨j + 1, _, by omega, by simp, HR5, hb5⟩
        · rw [if_neg hcc]
          have hne : (cc == 0) = false := by simpa using hcc
          generalize bs.length = m at H1 hbl
          clear hv hn hc1
          go_enter Try.func16, Try.ntmps16
          go_wp2_with fail
          refine HB.out.mono ?_
          rintro e w' ⟨rfl, rfl⟩
          go_wp2_with fail
          refine (H1.out _).mono ?_
          rintro e w2 ⟨a2, c2, rfl, n2, g2⟩
          go_wp2
          go_ret2
          exact ⟨_, fun _ => undef, rfl, Rws.nil _ _ _ _ (World.ownsRow_nil _ _ _ _), g2⟩
      · have HR : Hid (asT l (c : Int) size s = ([], 80)) := by unfold Hid asT; rw [hn, if_pos hc, if_neg h16, Int.toNat_natCast, if_neg hk]
        generalize asT l (c : Int) size s = R at HR ⊢
        rw [HR.out]
        generalize (l.getD c d0).1 = kk at p0 hk
        have hne : (kk == 0) = false := by simpa using hk
        clear HR hv hn hc1
        go_enter Try.func16, Try.ntmps16
        go_wp2_with fail
        refine HB.out.mono ?_
        rintro e w' ⟨rfl, rfl⟩
        go_wp2
        go_ret2
        exact ⟨_, fun _ => undef, rfl, Rws.nil _ _ _ _ (World.ownsRow_nil _ _ _ _), Below.refl _ _⟩
  · have HR : Hid (asT l col size s = ([], 9)) := by unfold Hid asT; rw [hn, if_neg hc]
    rw [decide_eq_false (show ¬ (0 ≤ col ∧ col ≤ (n : Int) - 1) by omega)] at HB
    generalize asT l col size s = R at HR ⊢
    rw [HR.out]
    clear HR hv hn
    go_enter Try.func16, Try.ntmps16
    go_wp2_with fail
    refine HB.out.mono ?_
    rintro e w' ⟨rfl, rfl⟩
    go_wp2
    go_ret2
    exact ⟨_, fun _ => undef, rfl, Rws.nil _ _ _ _ (World.ownsRow_nil _ _ _ _), Below.refl _ _⟩

end Go.Proofs.Ytioldkilfeemfaa
