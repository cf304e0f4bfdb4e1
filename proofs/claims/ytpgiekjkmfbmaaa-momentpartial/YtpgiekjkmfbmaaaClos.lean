/-
  What is proved here: Closure: a new slice of all joins of two of the list's times, each once, in strict order; nothing old is written.
-/
import Derived.Test.YtpgiekjkmfbmaaaRnds
import Derived.Maps.AppendAt
namespace Go.Proofs.Ytpgiekjkmfbmaaa
open Go.RowKit Go.Proofs
set_option linter.unusedVariables false
set_option linter.unusedSimpArgs false

/-- What holds in memory between two epochs. -/
structure Mem (B : Nat) (u : List T) (v3 v4 : Value) (a5 : Option Addr) (c5 : Nat) (done left : List T) (R : List Int) (Jn : List T) (w : World) : Prop where
  ts : Ts B w a5 left
  cap : left.length ≤ c5
  inv : Inv done left R Jn
  all : done ++ left = u
  rounds : w.ownsRow B 3 1 v4 R.length (I64 R)
  joins : w.ownsRow B 23 2 v3 Jn.length (flat Jn)
  rlen : R.length ≤ done.length
  jlen : Jn.length ≤ done.length * u.length

/-- What holds within an epoch: the least time's own variable, the joins so far. -/
structure Mid (B bx : Nat) (v3 : Value) (Jn : List T) (x1 x2 : Int) (w1 w : World) : Prop where
  box : w.heap[bx]? = some (.cells #[.int .i64 x1, .int .i64 x2] 23 (0, 0))
  joins : w.ownsRow B 23 2 v3 Jn.length (flat Jn)
  far : v3.ownBlock ≠ some bx
  below : Below B w1 w

theorem owns_gr {w w' : World} {base e size n : Nat} {v : Value} {xs : List Value} (h : w.ownsRow base e size v n xs) (hg : Gr w w') : w'.ownsRow base e size v n xs := by
  refine ⟨h.1, ?_⟩
  rcases h.2 with h' | ⟨g, c, cur, h1, h2, h3, h4⟩
  · exact .inl h'
  · exact .inr ⟨g, c, cur, h1, h2, (hg.below.block g (Array.getElem?_eq_some_iff.1 h3).1).trans h3, h4⟩

/-- A row of numbers has grown: all else within the epoch stays. -/
theorem Mid.rounds {B bx : Nat} {v3 v4 : Value} {Jn : List T} {x1 x2 : Int} {w1 w w' : World} {n : Nat} {xs : List Value} (h : Mid B bx v3 Jn x1 x2 w1 w) (hr : w.ownsRow B 3 1 v4 n xs) (hB : B ≤ w.heap.size) (hg : w.grownBy w' v4.ownBlock) : Mid B bx v3 Jn x1 x2 w1 w' := by
  have hbx : bx < w.heap.size := (Array.getElem?_eq_some_iff.1 h.box).1
  refine ⟨?_, h.joins.kept hg (rows_apart h.joins hr (by decide)), h.far, h.below.grown hg hB (fun k hk => (hr.lt k hk).1)⟩
  refine (hg.block bx hbx ?_).trans h.box
  rcases ownsRow_ne_a hr h.box (fun cur e => by have := (Obj.cells.inj e).2.1; revert this; decide) with e | e
  · rw [e]; simp
  · exact fun e' => e e'.symm

theorem Mid.alloc {B bx : Nat} {v3 : Value} {Jn : List T} {x1 x2 : Int} {w1 w : World} (h : Mid B bx v3 Jn x1 x2 w1 w) (hB : B ≤ w.heap.size) (o : Obj) : Mid B bx v3 Jn x1 x2 w1 (w.alloc o) :=
  ⟨(Below.heap_alloc _ _ _ (Array.getElem?_eq_some_iff.1 h.box).1).trans h.box, h.joins.alloc _, h.far, h.below.alloc hB _⟩

theorem cell_one_new2 (w : World) (A : Obj) (x : Value) (t : TypeId) : ∀ j u, [x][j]? = some u → ((w.alloc A).alloc (.cells #[x] t)).cell? ((⟨w.heap.size + 1, 0, none⟩ : Addr).add j) = some u := by
  have h := cell_one_new (w.alloc A) x t
  rw [World.size_alloc] at h
  exact h

theorem Ts.blocks {B : Nat} {w w' : World} {a : Option Addr} {l : List T} (h : Ts B w a l) (hb : ∀ k, k < B → w'.heap[k]? = w.heap[k]?) : Ts B w' a l := by
  refine ⟨h.range, fun hl => ?_⟩
  obtain ⟨b, off, e, hlt, hc⟩ := h.cells hl
  exact ⟨b, off, e, hlt, fun i hi => ⟨(World.cell?_of_block (a := ⟨b, off + i * 2, none⟩) (hb b hlt)).trans (hc i hi).1, (World.cell?_of_block (a := ⟨b, off + i * 2 + 1, none⟩) (hb b hlt)).trans (hc i hi).2⟩⟩

theorem take_snoc {α : Type} (l : List α) (j : Nat) (d : α) (hj : j < l.length) : l.take (j + 1) = l.take j ++ [l.getD j d] := by
  rw [List.take_add_one]
  simp [List.getD, List.getElem?_eq_getElem hj]

set_option maxHeartbeats 400000 in
theorem closure_any (w : World) (a : Option Addr) (cap : Nat) (l : List T) (h : Ts w.heap.size w a l) (hl : l.length ≤ 1000000) :
    Calls Try.prog 21 #[.slice a l.length cap] w fun e w' => ∃ v c, e = .returned v ∧ c.length ≤ l.length * l.length ∧ SetOf c (Joins l) ∧ w'.ownsRow w.heap.size 23 2 v c.length (flat c) ∧ Below w.heap.size w w' := by
  have HU := hid' (unique_any w a cap l h (by omega))
  have HR := hid' h.range
  obtain ⟨i23, hi23, hy0, hy1, hy2⟩ := info_parts Try.info23
  obtain ⟨i3, hi3, hz0, hz1, hz2⟩ := info_parts Try.info3
  clear h
  go_enter Try.func21, Try.ntmps21
  go_wp2_with fail
  refine HU.out.mono ?_
  clear HU
  rintro e w1 ⟨v1, u, rfl, hul, hset, hrow1, hb1⟩
  have hru : ∀ x ∈ u, RT x := fun x hx => HR.out x ((hset.mem x).1 hx)
  obtain ⟨a1, c1, rfl, hc1, hts⟩ := Ts.of_owns hrow1 hru
  have HSET := hid' hset
  have HM : Hid (Mem w1.heap.size u (.slice none 0 0) (.slice none 0 0) a1 c1 [] u [] [] w1) := ⟨hts, hc1, Inv.start hset.sl, rfl, World.ownsRow_nil _ _ _ _, World.ownsRow_nil _ _ _ _, Nat.le_refl _, by simp⟩
  clear hset hts hrow1 hru
  go_wp2
  go_loopg [3, 4, 5] u.length (fun k v3 v4 v5 wr => ∃ done left R Jn a5 c5, left.length = k ∧ v5 = .slice a5 left.length c5 ∧ Mem w1.heap.size u v3 v4 a5 c5 done left R Jn wr ∧ Below w1.heap.size w1 wr)
  case atStart => exact ⟨[], u, [], [], a1, c1, rfl, rfl, HM.out, Below.refl _ _⟩
  case round =>
    obtain ⟨done, left, R, Jn, a5, c5, rfl, rfl, hm, hbel⟩ := hrel
    have HM' := hid' hm
    clear HM
    clear hm
    cases left with
    | nil =>
      simp only [List.length_nil]
      go_wp2
      go_ret
      refine ⟨_, Jn, rfl, ?_, ⟨HM'.out.inv.set.sl, fun x => ?_⟩, ?_, hb1.trans (hbel.mono hb1.size)⟩
      · have hd : done = u := by have := HM'.out.all; simpa using this
        have := HM'.out.jlen
        rw [hd] at this
        exact Nat.le_trans this (Nat.mul_le_mul hul hul)
      · have hd : done = u := by have := HM'.out.all; simpa using this
        rw [HM'.out.inv.set.mem, hd]
        unfold Joins
        simp only [HSET.out.mem]
      · have := HM'.out.joins
        refine ⟨this.1, ?_⟩
        rcases this.2 with h' | ⟨g, c, cur, h1, h2, h3⟩
        · exact .inl h'
        · exact .inr ⟨g, c, cur, h1, Nat.le_trans hb1.size h2, h3⟩
    | cons x ls =>
      have hwr := hbel.size
      have hlu : (x :: ls).length ≤ 1000000 := by
        have := congrArg List.length HM'.out.all
        rw [List.length_append] at this
        omega
      have HO := hid' (ofOneEpoch_any wr a5 c5 (x :: ls) (HM'.out.ts.mono hwr) (by simp) (by omega) HM'.out.cap)
      obtain ⟨b, off, rfl, hB, hcl⟩ := HM'.out.ts.cells (by simp)
      obtain ⟨ll, hll⟩ : ∃ ll, (x :: ls).length = ll := ⟨_, rfl⟩
      have hll1 : 0 < ll := by rw [← hll]; simp
      have hp1 := pre_pos x ls
      have hp2 := pre_le (x :: ls)
      rw [hll] at hlu HO hp2 ⊢
      have HLL := hid' hll
      have HCL := hid' hcl
      clear hll hcl
      obtain ⟨n, hn⟩ : ∃ n, pre (x :: ls) = n := ⟨_, rfl⟩
      rw [hn] at HO hp1 hp2
      have HPN := hid' hn
      clear hn
      go_wp2_with fail
      refine HO.out.mono ?_
      clear HO
      rintro e w2 ⟨rfl, hg2⟩
      have q1 : w2.cell? ⟨b, off, none⟩ = some (.int .i64 x.1) := by
        have := (hg2.below.cell (p := ⟨b, off + 0 * 2, none⟩) (by show b < _; omega)).trans (HCL.out 0 (by simp)).1
        simpa using this
      have q2 : w2.cell? ⟨b, off + 1, none⟩ = some (.int .i64 x.2) := by
        have := (hg2.below.cell (p := ⟨b, off + 0 * 2 + 1, none⟩) (by show b < _; omega)).trans (HCL.out 0 (by simp)).2
        simpa using this
      obtain ⟨x1, x2⟩ := x
      simp only at q1 q2
      have hbel2 : Below w1.heap.size w1 w2 := hbel.trans (hg2.below.mono hwr)
      have HC1 : Hid (∀ i, i < ll → w1.cell? ⟨b, off + i * 2, none⟩ = some (.int .i64 (((x1, x2) :: ls).getD i (0, 0)).1) ∧ w1.cell? ⟨b, off + i * 2 + 1, none⟩ = some (.int .i64 (((x1, x2) :: ls).getD i (0, 0)).2)) := fun i hi =>
        ⟨((hbel.cell (p := ⟨b, off + i * 2, none⟩) hB).symm.trans (HCL.out i (by rw [HLL.out]; exact hi)).1), ((hbel.cell (p := ⟨b, off + i * 2 + 1, none⟩) hB).symm.trans (HCL.out i (by rw [HLL.out]; exact hi)).2)⟩
      have hR4 := owns_gr HM'.out.rounds (hg2.alloc (.cells #[.int .i64 x1, .int .i64 x2] 23))
      have hJ4 := owns_gr HM'.out.joins (hg2.alloc (.cells #[.int .i64 x1, .int .i64 x2] 23))
      have hRl : R.length ≤ 1000000 := by
        have h1 := HM'.out.rlen
        have h2 := congrArg List.length HM'.out.all
        rw [List.length_append] at h2
        omega
      have HSE := hid' (searchI_any (w2.alloc (.cells #[.int .i64 x1, .int .i64 x2] 23)) w1.heap.size u4 R x2 hR4 HM'.out.inv.si (by omega))
      have hfar : u3.ownBlock ≠ some w2.heap.size := fun e => by
        have := (HM'.out.joins.lt _ e).2
        have := hg2.below.size
        omega
      have hbelX := hbel2.alloc (hbel2.size) (.cells #[.int .i64 x1, .int .i64 x2] 23)
      have HMid : Hid (∀ q, Mid w1.heap.size w2.heap.size u3 Jn x1 x2 w1 ((w2.alloc (.cells #[.int .i64 x1, .int .i64 x2] 23)).drewN q)) := fun q =>
        ⟨World.alloc_heap_new _ _, hJ4, hfar, below_drewN hbelX q⟩
      have HR4 : Hid (∀ q, ((w2.alloc (.cells #[.int .i64 x1, .int .i64 x2] 23)).drewN q).ownsRow w1.heap.size 3 1 u4 R.length (I64 R)) := fun q => hR4
      obtain ⟨fr, hfr⟩ : ∃ fr, R.countP (· < x2) = fr := ⟨_, rfl⟩
      have hfrl : fr ≤ R.length := by rw [← hfr]; exact List.countP_le_length
      rw [hfr] at HSE
      have HFR := hid' hfr
      clear hJ4 hR4 HCL hbelX hfar hfr
      go_wp2_with fail
      refine HSE.out.mono ?_
      clear HSE
      rintro e w3 ⟨fnd, rfl, q, rfl⟩
      obtain ⟨bx, hbx⟩ : ∃ bx, w2.heap.size = bx := ⟨_, rfl⟩
      have hM4 := hid' (HMid.out q)
      have hR4 := hid' (HR4.out q)
      obtain ⟨w4, hw4⟩ : ∃ w4, (w2.alloc (.cells #[.int .i64 x1, .int .i64 x2] 23)).drewN q = w4 := ⟨_, rfl⟩
      rw [hw4] at hM4 hR4 ⊢
      rw [hbx] at hM4 ⊢
      clear HMid HR4 hw4 hbx q1 q2 hbel2 hg2
      obtain ⟨S, hS⟩ : ∃ S, ((((x1, x2) :: ls).take n).map fun t => t.2) = S := ⟨_, rfl⟩
      have hSl : S.length = n := by rw [← hS, List.length_map, List.length_take, HLL.out]; omega
      have HSl := hid' hSl
      have HS := hid' hS
      clear hS hSl
      go_wp2
      go_loopg [4, 33] n (fun k v i wr => ∃ j : Nat, j + k = n ∧ i = .int .i64 (j : Int) ∧ wr.ownsRow w1.heap.size 3 1 v (R.length + j) (I64 (R ++ S.take j)) ∧ Mid w1.heap.size bx u3 Jn x1 x2 w1 wr)
      case atStart => exact ⟨0, by omega, rfl, by simpa using hR4.out, hM4.out⟩
      case round =>
        obtain ⟨j, hj, rfl, hown, hmid⟩ := hrel
        cases gk with
        | zero =>
          obtain rfl : j = n := by omega
          have hSS : S.take j = S := by rw [← HSl.out]; exact List.take_length
          rw [hSS] at hown
          clear hSS
          obtain ⟨g, c4, cur, rfl, hgB, hcur, hle4, hm4, hcs4, hct4⟩ := hown.2.resolve_left (fun h => by omega)
          have hrw : Rw wr g c4 (R ++ S) := ⟨cur, hcur, by omega, by rw [Nat.mul_one] at hct4; rw [List.length_append, HSl.out]; exact hct4⟩
          have hsplit : R ++ S = R.take fr ++ (R ++ S).drop fr := by
            rw [← List.take_append_of_le_length (l₂ := S) hfrl, List.take_append_drop]
          obtain ⟨Z, hZ⟩ : ∃ Z, (R ++ S).drop fr = Z := ⟨_, rfl⟩
          obtain ⟨A, hA⟩ : ∃ A, R.take fr = A := ⟨_, rfl⟩
          have hAl : A.length = fr := by rw [← hA, List.length_take]; omega
          have hZl : Z.length = R.length + j - fr := by rw [← hZ, List.length_drop, List.length_append, HSl.out]
          rw [hZ, hA] at hsplit
          rw [hsplit] at hrw
          obtain ⟨m, hm⟩ : ∃ m, R.length + j = m := ⟨_, rfl⟩
          have hfm : fr ≤ m := by omega
          have hm2 : m ≤ 2000000 := by omega
          rw [hm] at hZl hle4 hown ⊢
          have hcapZ : (A ++ Z).length ≤ c4 := by rw [List.length_append]; omega
          have HSO := hid' (sortI_any wr g c4 (c4 - fr) A Z hrw hcapZ (by omega))
          rw [hAl, hZl] at HSO
          have HMM := hid' hm
          have HAl := hid' hAl
          have HZl := hid' hZl
          have HZ := hid' hZ
          have HA := hid' hA
          have HMD := hid' hmid
          have HOW := hid' hown
          have hwz := hmid.below.size
          have hcf : ¬ c4 = fr := by omega
          have hcf2 : ¬ fr = c4 := by omega
          clear hown hct4 hcur hm hAl hZl hZ hA hmid hsplit hcs4
          go_wp2_with fail
          refine HSO.out.mono ?_
          clear HSO
          rintro e w5 ⟨rfl, hrw5, hgr5⟩
          have hM5 : Hid (Mid w1.heap.size bx u3 Jn x1 x2 w1 w5) := HMD.out.rounds HOW.out hwz hgr5
          have hw5 : w1.heap.size ≤ w5.heap.size := hM5.out.below.size
          have hsl : (srt Z).length = m - fr := by rw [srt_length, HZl.out]
          have HCO := hid' (compactI_any w5 g c4 (c4 - fr) A (srt Z) hrw5 (by rw [List.length_append, srt_length, ← List.length_append]; exact hcapZ) (by omega) (by omega))
          rw [HAl.out, hsl] at HCO
          obtain ⟨N, hN⟩ : ∃ N, Lib.compact (srt Z) = N := ⟨_, rfl⟩
          rw [hN] at HCO
          obtain ⟨nl, hnl⟩ : ∃ nl, N.length = nl := ⟨_, rfl⟩
          rw [hnl] at HCO
          have HN := hid' hN
          have HNL := hid' hnl
          have HO5 : Hid (w5.ownsRow w1.heap.size 3 1 (.slice (some ⟨g, 0, none⟩) m c4) m (I64 (A ++ srt Z))) := by
            obtain ⟨cur5, h51, h52, h53⟩ := hrw5.row
            have hlen : (A ++ srt Z).length = m := by rw [List.length_append, HAl.out, hsl]; omega
            exact ⟨by rw [I64, List.length_map, hlen, Nat.mul_one], .inr ⟨g, c4, cur5, rfl, hgB, h51, hle4, hm4, by omega, by rw [Nat.mul_one, ← hlen]; exact h53⟩⟩
          clear hN hnl hrw5 hsl hgr5 HOW HMD hrw
          go_wp2_with fail
          refine HCO.out.mono ?_
          clear HCO
          rintro e w6 ⟨rfl, hnlm, hrw6, hgr6⟩
          have hM6 : Hid (Mid w1.heap.size bx u3 Jn x1 x2 w1 w6) := hM5.out.rounds HO5.out hw5 hgr6
          have HR6 : Hid (w6.ownsRow w1.heap.size 3 1 (.slice (some ⟨g, 0, none⟩) (fr + nl) c4) (fr + nl) (I64 (A ++ N)) ∧ Rw w6 g c4 (A ++ N)) := by
            refine ⟨?_, hrw6⟩
            obtain ⟨cur6, h61, h62, h63⟩ := hrw6.row
            have hlen : (A ++ N).length = fr + nl := by rw [List.length_append, HAl.out, HNL.out]
            exact ⟨by simp [I64]; rw [HAl.out, HNL.out], .inr ⟨g, c4, cur6, rfl, hgB, h61, by omega, hm4, by omega, by rw [Nat.mul_one, ← hlen]; exact h63⟩⟩
          obtain ⟨t, ht⟩ : ∃ t, fr + nl = t := ⟨_, rfl⟩
          have ht1 : t ≤ 2000000 := by omega
          have ht2 : t ≤ c4 := by omega
          have ht3 : fr ≤ t := by omega
          have htc : (fr : Int) + (nl : Int) = (t : Int) := by omega
          have htf : t - fr = nl := by omega
          rw [ht] at HR6
          have HT := hid' ht
          have HJL : Hid (Jn.length + nl ≤ 1000000000000 ∧ Jn.length + nl ≤ (done.length + j) * u.length) := by
            have h1 := HM'.out.jlen
            have h2 := congrArg List.length HM'.out.all
            have h3 := HM'.out.rlen
            rw [List.length_append, HLL.out] at h2
            have h4 : nl ≤ u.length := by have := HMM.out; omega
            have h5 : (done.length + 1) * u.length ≤ (done.length + j) * u.length := Nat.mul_le_mul_right _ (by omega)
            rw [Nat.add_mul, Nat.one_mul] at h5
            have h6 : (done.length + j) * u.length ≤ 1000000 * 1000000 := Nat.mul_le_mul (by omega) (by omega)
            exact ⟨by omega, by omega⟩
          have hJl1 := HJL.out.1
          clear hM5 HO5 hgr6 hrw6 ht
          go_wp2
          go_loopg [3, 60] nl (fun k v i wr => ∃ r : Nat, r + k = nl ∧ i = .int .i64 (r : Int) ∧ Mid w1.heap.size bx v (Jn ++ (N.take r).map fun z => (x1, z)) x1 x2 w1 wr ∧ wr.ownsRow w1.heap.size 3 1 (.slice (some ⟨g, 0, none⟩) t c4) t (I64 (A ++ N)))
          case atStart => exact ⟨0, by omega, rfl, by simpa using hM6.out, HR6.out.1⟩
          case round =>
            obtain ⟨r, hr, rfl, hmid, hrds⟩ := hrel
            have hwz7 := hmid.below.size
            cases gk with
            | zero =>
              obtain rfl : r = nl := by omega
              have hNN : N.take r = N := by rw [← HNL.out]; exact List.take_length
              rw [hNN] at hmid
              have HMD := hid' hmid
              have HRD := hid' hrds
              have hcp : ll ≤ c5 := by rw [← HLL.out]; exact HM'.out.cap
              have HMEM : Hid (∀ a5 : Option Addr, (j < ll → a5 = some ⟨b, off + j * 2, none⟩) → Mem w1.heap.size u u3 (.slice (some ⟨g, 0, none⟩) t c4) a5 (c5 - j) (done ++ ((x1, x2) :: ls).take j) (((x1, x2) :: ls).drop j) (A ++ N) (Jn ++ N.map fun z => (x1, z)) wr) := by
                intro a5 ha5
                have hstep := HM'.out.inv.step (x := (x1, x2)) (l := ls) rfl
                rw [HPN.out] at hstep
                simp only at hstep
                rw [HFR.out] at hstep
                have hnew : newR R (((x1, x2) :: ls).take j) x2 = N := by
                  unfold newR
                  rw [HS.out, HFR.out, HZ.out, HN.out]
                rw [hnew, HA.out] at hstep
                have hdl : (((x1, x2) :: ls).drop j).length = ll - j := by rw [List.length_drop, HLL.out]
                refine ⟨?_, by rw [hdl]; omega, hstep, by rw [List.append_assoc, List.take_append_drop]; exact HM'.out.all, ?_, HMD.out.joins, ?_, ?_⟩
                · by_cases hjl : j < ll
                  · rw [ha5 hjl]
                    have h0 := (HM'.out.ts.blocks (fun k hk => (hmid.below.block k hk).trans (hbel.block k hk).symm)).part j (ll - j)
                    rw [List.take_of_length_le (by rw [hdl]; omega)] at h0
                    exact h0
                  · have : ((x1, x2) :: ls).drop j = [] := List.drop_eq_nil_of_le (by rw [HLL.out]; omega)
                    rw [this]
                    exact Ts.nil _ _ _
                · have := HRD.out
                  rw [List.length_append, HAl.out, HNL.out, HT.out]
                  exact this
                · have := HM'.out.rlen
                  have := HMM.out
                  rw [List.length_append, List.length_append, HAl.out, HNL.out, List.length_take, HLL.out]
                  omega
                · have := HJL.out.2
                  rw [List.length_append, List.length_append, List.length_map, HNL.out, List.length_take, HLL.out, Nat.min_eq_left (by omega)]
                  exact this
              have HB := hid' hmid.below
              have hjl : j ≤ ll := by omega
              clear hmid hrds hNN
              by_cases hc5 : c5 = j
              · subst hc5
                go_wp2
                go_roundg (ll - c5)
                case measure => have h := HLL.out; omega
                case rel =>
                  refine ⟨_, _, _, _, _, c5 - c5, ?_, ?_, HMEM.out (some ⟨b, off, none⟩) (fun h => by omega), HB.out⟩
                  · rw [List.length_drop, HLL.out]
                  · rw [List.length_drop, HLL.out]; simp; omega
              · have hc52 : ¬ j = c5 := by omega
                go_wp2
                go_roundg (ll - j)
                case measure => have h := HLL.out; omega
                case rel =>
                  refine ⟨_, _, _, _, _, c5 - j, ?_, ?_, HMEM.out (some ⟨b, off + j * 2, none⟩) (fun h => rfl), HB.out⟩
                  · rw [List.length_drop, HLL.out]
                  · rw [List.length_drop, HLL.out]
            | succ k =>
              have hrn : r < nl := by omega
              have hrw7 : Rw wr g c4 (A ++ N) := by
                rcases hrds.2 with ⟨h, _⟩ | ⟨g', c', cur', h1, h2, h3, h4, h5, h6, h7⟩
                · cases h
                · cases h1
                  exact ⟨cur', h3, by omega, by rw [List.length_append, HAl.out, HNL.out, HT.out]; rw [Nat.mul_one] at h7; exact h7⟩
              have p1 := (hrw7.cell (fr + r) (by rw [List.length_append, HAl.out, HNL.out]; omega)).1
              have hget : (A ++ N).getD (fr + r) 0 = N.getD r 0 := by
                rw [← HAl.out]
                simp [List.getD, List.getElem?_append, show ¬ A.length + r < A.length by omega]
              rw [hget] at p1
              have p2 : wr.cell? ⟨bx, 0, none⟩ = some (.int .i64 x1) := by rw [cell_of_row _ _ _ _ _ _ hmid.box]; rfl
              have HX : Hid (Jn ++ (N.take (r + 1)).map (fun z => (x1, z)) = (Jn ++ (N.take r).map fun z => (x1, z)) ++ [(x1, N.getD r 0)]) := by
                unfold Hid
                rw [take_snoc N r 0 (by rw [HNL.out]; exact hrn)]
                simp
              have HLN : Hid ((Jn ++ (N.take r).map fun z => ((x1, z) : T)).length ≤ Jn.length + nl) := by
                unfold Hid
                simp
                omega
              have hjo := hmid.joins
              have HMD := hid' hmid
              have HRD := hid' hrds
              generalize hJr : (Jn ++ (N.take r).map fun z => ((x1, z) : T)) = Jr at hjo HMD HX HLN
              generalize N.getD r 0 = z at p1 HX
              have hJrl := HLN.out
              have hjr : r ≤ Jr.length + 0 + r := by omega
              have hlt : Jr.length < Jn.length + nl := by
                rw [← hJr]; simp [HNL.out]; omega
              clear hmid hrds hrw7 hget hJr
              go_wp2_with (
                (at_builtin; refine wpList_append_own_at _ rfl _ _ 31 rfl w1.heap.size 23 i23 (.agg #[.int .i64 0, .int .i64 0]) 2 16 Try.underlying31 hi23 hy0 hy1 hy2 rfl (by decide) _ _ _ rfl (hjo.alloc _) ⟨wr.heap.size, 0, none⟩ 1 1 [.int .i64 x1, .int .i64 z] rfl rfl (cell_two_new _ _ _ _) (by intro u hu; simp at hu; rcases hu with rfl | rfl <;> rfl) (by unfold maxLen; omega) (by omega) (by simp; omega) ?_; intro v1 w8 hown8 hgrow8 hnil8 hat8))
              have hgrow9 : (wr.alloc (.cells #[.int .i64 x1, .int .i64 z] 23)).grownBy w8 u3.ownBlock := hgrow8
              have hat9 : v1.ownBlock = u3.ownBlock ∨ v1.ownBlock = some (wr.alloc (.cells #[.int .i64 x1, .int .i64 z] 23)).heap.size := hat8
              clear hnil8 hgrow8 hat8
              go_roundg k
              case measure => omega
              case rel =>
                have hbxl : bx < wr.heap.size := (Array.getElem?_eq_some_iff.1 HMD.out.box).1
                refine ⟨r + 1, by omega, by simp, ?_, (HRD.out.alloc _).kept hgrow9 (rows_apart HRD.out HMD.out.joins (by decide))⟩
                rw [HX.out]
                refine ⟨(hgrow9.block bx (by simp; omega) (fun e => HMD.out.far e.symm)).trans ((Below.heap_alloc _ _ _ hbxl).trans HMD.out.box), ?_, ?_, (HMD.out.below.alloc hwz7 _).grown hgrow9 (by simp; omega) (fun k hk => (HMD.out.joins.lt k hk).1)⟩
                · rw [flat_append, flat_one, List.length_append]
                  exact hown8
                · rcases hat9 with e | e
                  · rw [e]; exact HMD.out.far
                  · rw [e]; simp; omega
        | succ k =>
          have hjn : j < n := by omega
          have p1 := (hmid.below.cell (p := ⟨b, off + j * 2, none⟩) hB).trans (HC1.out j (by omega)).1
          have p2 := (hmid.below.cell (p := ⟨b, off + j * 2 + 1, none⟩) hB).trans (HC1.out j (by omega)).2
          have HX : Hid (S.take (j + 1) = S.take j ++ [(((x1, x2) :: ls).getD j (0, 0)).2]) := by
            have hjS : j < S.length := by rw [HSl.out]; exact hjn
            unfold Hid
            rw [take_snoc S j 0 hjS]
            congr 2
            rw [← HS.out]
            have hjl : j < ((x1, x2) :: ls).length := by rw [HLL.out]; omega
            simp only [List.getD, List.getElem?_map, List.getElem?_take_of_lt hjn, List.getElem?_eq_getElem hjl, Option.map_some, Option.getD_some]
          generalize ((x1, x2) :: ls).getD j (0, 0) = y at p1 p2 HX
          obtain ⟨y1, y2⟩ := y
          have HMD := hid' hmid
          have HOW := hid' hown
          have hwz := hmid.below.size
          clear hmid
          go_wp2_with (
            (at_builtin; refine wpList_append_own _ rfl _ _ 48 rfl w1.heap.size 3 i3 (.int .i64 0) 1 8 Try.underlying48 hi3 hz0 hz1 hz2 rfl (by decide) _ _ _ rfl ((hown.alloc _).alloc _) ⟨wr.heap.size + 1, 0, none⟩ 1 1 [.int .i64 y2] rfl rfl (cell_one_new2 _ _ _ _) (by intro u hu; simp at hu; subst hu; rfl) (by unfold maxLen; omega) (by omega) (by simp; omega) ?_; intro v1 w5 hown5 hgrow5 hnil5))
          have hgrow6 : ((wr.alloc (.cells #[.int .i64 y1, .int .i64 y2] 23)).alloc (.cells #[.int .i64 y2] 3)).grownBy w5 u4.ownBlock := hgrow5
          clear hnil5 hgrow5
          go_roundg k
          case measure => omega
          case rel =>
            refine ⟨j + 1, by omega, by simp, ?_, ((HMD.out.alloc hwz _).alloc (by simp; omega) _).rounds ((HOW.out.alloc _).alloc _) (by simp; omega) hgrow6⟩
            rw [HX.out, ← List.append_assoc]
            unfold I64 at hown5 ⊢
            rw [List.map_append]
            exact hown5

end Go.Proofs.Ytpgiekjkmfbmaaa
