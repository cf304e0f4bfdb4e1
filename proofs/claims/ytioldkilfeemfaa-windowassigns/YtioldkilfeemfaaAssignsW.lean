/-
  What is proved here: the law WindowAssigns answers true, whatever it is handed.
-/
import Derived.Test.YtioldkilfeemfaaRAssign
import Derived.Laws.AppendOwnNone
namespace Go.Proofs.Ytioldkilfeemfaa
open Go.RowKit Go.Proofs
set_option linter.unusedVariables false
set_option linter.unusedSimpArgs false

/-- A slice of slices, from block B on, in whose rows each second cell holds some number. -/
structure Lo (B b m : Nat) (f : Nat → Value) (w : World) : Prop where
  top : ∀ i, i < m → w.cell? ⟨b, i, none⟩ = some (f i)
  each : ∀ i, i < m → ∃ g n c, f i = .slice (some ⟨g, 0, none⟩) n c ∧ B ≤ g ∧ g ≠ b ∧ n ≤ 1000 ∧ ∀ k, k < n → (∃ z, w.cell? ⟨g, k * 3 + 1, none⟩ = some (.int .i64 z)) ∧ w.frozen? ⟨g, k * 3 + 1, none⟩ = false

theorem Lo.set {B b m : Nat} {f : Nat → Value} {w : World} (h : Lo B b m f w) {g o : Nat} (hg : g ≠ b) (u : Value) (hu : w.cell? ⟨g, o, none⟩ = some u) (z : Int) : Lo B b m f (w.setCell ⟨g, o, none⟩ (.int .i64 z)) := by
  refine ⟨fun i hi => ?_, fun i hi => ?_⟩
  · rw [World.cell?_setCell_other _ _ _ _ (by intro e; injection e with e1; exact hg e1)]
    exact h.top i hi
  · obtain ⟨g', n, c, e, h1, h2, h3, h4⟩ := h.each i hi
    refine ⟨g', n, c, e, h1, h2, h3, fun k hk => ⟨?_, by rw [World.frozen?_setCell]; exact (h4 k hk).2⟩⟩
    by_cases hs : (⟨g, o, none⟩ : Addr) = ⟨g', k * 3 + 1, none⟩
    · rw [← hs]
      exact ⟨z, World.cell?_setCell_same _ _ _ hu⟩
    · rw [World.cell?_setCell_other _ _ _ _ hs]
      exact (h4 k hk).1

theorem Rws.lo {B : Nat} {w : World} {x : Value} {L : List (List V)} {f : Nat → Value} (h : Rws B w x L f) (hl : 0 < L.length) (hr : ∀ i, i < L.length → 0 < (L.getD i []).length ∧ (L.getD i []).length ≤ 1000) :
    ∃ b cap, x = .slice (some ⟨b, 0, none⟩) L.length cap ∧ Lo B b L.length f w := by
  rcases h.outer.2 with ⟨_, h0⟩ | ⟨b, cap, cur, e, hB, hcur, _⟩
  · omega
  · refine ⟨b, cap, e, fun i hi => ?_, fun i hi => ?_⟩
    · obtain ⟨b', cap', e', _, hc⟩ := h.at hi
      rw [e] at e'
      injection e' with e1
      injection e1 with e2
      injection e2 with e3
      rw [e3]; exact hc
    · have hi1 := h.inner i hi
      have hh := hi1
      have hr1 := hr i hi
      rcases hi1.2 with ⟨_, h0⟩ | ⟨g, c, cu, e', hg, hcu, _⟩
      · omega
      · refine ⟨g, _, c, e', hg, ?_, hr1.2, fun k hk => ?_⟩
        · rintro rfl
          rw [hcur] at hcu
          simp at hcu
        · rw [e'] at hh
          have hf := flat_get (L.getD i []) k hk
          exact ⟨⟨_, by rw [hh.cellAt (k * 3 + 1) (by omega)]; exact hf.2.1⟩, hh.frozenAt _⟩

theorem asT_shape (l : List V) (col size s : Int) (hl : l.length ≤ 30) : (asT l col size s).1.length ≤ 64 ∧ ∀ i, i < (asT l col size s).1.length → 0 < ((asT l col size s).1.getD i []).length ∧ ((asT l col size s).1.getD i []).length ≤ 1000 := by
  have e : ∀ c : Int, (([] : List (List V)), c).1.length ≤ 64 ∧ ∀ i, i < (([] : List (List V)), c).1.length → 0 < ((([] : List (List V)), c).1.getD i []).length ∧ ((([] : List (List V)), c).1.getD i []).length ≤ 1000 := fun c => ⟨by simp, fun i hi => by simp at hi⟩
  unfold asT
  by_cases h1 : 0 ≤ col ∧ col < (l.length : Int)
  · rw [if_pos h1]
    by_cases h2 : 16 ≤ l.length
    · rw [if_pos h2]; exact e _
    · rw [if_neg h2]
      by_cases h3 : (l.getD col.toNat d0).1 = 0
      · rw [if_pos h3]
        by_cases h4 : (bkT (l.getD col.toNat d0).2.1 size s).2 = 0
        · rw [if_pos h4]
          have hb := bkT_length (l.getD col.toNat d0).2.1 size s
          generalize (bkT (l.getD col.toNat d0).2.1 size s).1 = bs at hb
          refine ⟨by simpa using hb, fun i hi => ?_⟩
          have hi' : i < bs.length := by simpa using hi
          have : (bs.map (rowOf l)).getD i [] = rowOf l (bs.getD i 0) := by simp [List.getD, List.getElem?_eq_getElem hi']
          simp only [this, rowOf_length]
          omega
        · rw [if_neg h4]; exact e _
      · rw [if_neg h3]; exact e _
  · rw [if_neg h1]; exact e _

/-- A row that was handed in. -/
def IsRow (l : List V) (a : Option Addr) (n cap : Nat) (w : World) : Prop := l.length = n ∧ ((a = none ∧ n = 0 ∧ cap = 0) ∨ ∃ ad, a = some ad) ∧ Vs w.heap.size w a l

theorem Vs.srcAt {B : Nat} {w : World} {ad : Addr} {l : List V} (h : Vs B w (some ad) l) : ∀ j u, (flat l)[j]? = some u → w.cell? (ad.add j) = some u := by
  intro j u hj
  by_cases hl : l = []
  · subst hl; simp [flat] at hj
  · obtain ⟨b, off, e, _⟩ := h.cells hl
    cases e
    exact h.src j u hj

/-- Append of a row that was handed in, nil or not. -/
theorem wpList_append_any {w : World} {ops : Array Oper} {rest : List Oper} {o : Oper} {a : Act} {Q : Exit → Act → World → Prop} (hgd : o.guard = none) (s x : Operand)
    (ho : o.op = .call { callee := .builtin .append, args := #[s, x], argTypes := #[39, 39] }) (base : Nat) (v : Value) (n : Nat) (xs : List Value) (hs : a.eval s = v) (hown : w.ownsRow base 48 3 v n xs)
    (ao : Option Addr) (m c : Nat) (l : List V) (hx : a.eval x = .slice ao m c) (hm : l.length = m) (hsh : (ao = none ∧ m = 0 ∧ c = 0) ∨ ∃ ad, ao = some ad)
    (hnews : ∀ ad, ao = some ad → ∀ j u, (flat l)[j]? = some u → w.cell? (ad.add j) = some u) (hsm : n + m ≤ 1000000) (hbase : base ≤ w.heap.size)
    (h : ∀ v' w', w'.ownsRow base 48 3 v' (n + m) (xs ++ flat l) → w.grownBy w' v.ownBlock → wpList Try.prog ops Q rest (a.put o.dst v') w') : wpList Try.prog ops Q (o :: rest) a w := by
  obtain ⟨iV, hiV, hV0, hV1, hV2⟩ := info_parts Try.infoVal
  rcases hsh with ⟨rfl, rfl, rfl⟩ | ⟨ad, rfl⟩
  · obtain rfl : l = [] := List.eq_nil_of_length_eq_zero hm
    refine wpList_append_own_none hgd s x 39 ho base 48 iV 3 Try.underlying39 hiV v n xs hs hown hx (h v w ?_ (World.grownBy.refl _ _))
    simpa [flat] using hown
  · exact wpList_append_own w hgd s x 39 ho base 48 iV zV 3 32 Try.underlying39 hiV hV0 hV1 hV2 rfl (by decide) v n xs hs hown ad m c (flat l) hx (by rw [length_flat, hm]) (hnews ad rfl) (flat_ones l) (by unfold maxLen; omega) (by omega) hbase (fun v' w' h1 h2 _ => h v' w' h1 h2)

set_option maxRecDepth 20000 in
set_option maxHeartbeats 4000000 in
theorem assigns_walk (w : World) (a : Option Addr) (n cap : Nat) (l : List V) (col size s : Int) (h : IsRow l a n cap w) :
    Calls Try.prog 4 #[.slice a n cap, .int .i64 col, .int .i64 size, .int .i64 s] w fun e w' => e = .returned (.bool true) ∧ Below w.heap.size w w' := by
  obtain ⟨hlen, hsh, hv⟩ := h
  obtain ⟨iV, hiV, hV0, hV1, hV2⟩ := info_parts Try.infoVal
  have HL := hid' live_any
  have HC := hid' code_any
  have H0 := hid' (Long_any w a cap n l hlen hv)
  have HN := hid' hlen
  have HV := hid' hv
  have HSH := hid' hsh
  clear hlen hv hsh
  go_enter Try.func4, Try.ntmps4
  go_wp2_with fail
  refine H0.out.mono ?_
  rintro e w' ⟨b, rfl, hb, rfl⟩
  clear H0
  cases b with
  | true =>
    go_wp2_with fail
    refine (HL.out _).mono ?_
    rintro e w3 ⟨rfl, g3⟩
    go_wp2
    go_ret
    exact ⟨rfl, g3⟩
  | false =>
    have h30 := hb rfl
    clear hb
    have HEM := hid' (World.ownsRow_made w' #[] 0 (e := 48) (size := 3) (Nat.le_refl w'.heap.size) (by unfold maxLen; omega) rfl)
    have al := (Below.refl w'.heap.size w').alloc (Nat.le_refl _) (.cells #[] 48)
    have HSRC : Hid (∀ ad, a = some ad → ∀ j u, (flat l)[j]? = some u → (w'.alloc (.cells #[] 48)).cell? (ad.add j) = some u) := fun ad e => by
      subst e; exact (HV.out.on al).srcAt
    go_wp2_with (at_builtin; refine wpList_append_any rfl (.tmp 19) (.tmp 20) rfl w'.heap.size _ 0 [] rfl HEM.out a n cap l rfl HN.out HSH.out HSRC.out (by omega) (by simp) ?_; intro v1 w1 hown1 hgrow1)
    have hgr1 : (w'.alloc (.cells #[] 48)).grownBy w1 (some w'.heap.size) := hgrow1
    have HB1 : Hid (Below w'.heap.size w' w1) := al.grown hgr1 (by simp) (fun k hk => by cases hk; exact Nat.le_refl _)
    rw [Nat.zero_add, List.nil_append, ← HN.out] at hown1
    obtain ⟨ca, cc, rfl, _, vc⟩ := Vs.of_owns hown1
    have HVC := hid' vc
    have HV1 := hid' (HV.out.on HB1.out)
    rw [HN.out]
    clear hgrow1 hgr1 hown1 vc al HSRC HEM HSH
    obtain ⟨hL64, hLr⟩ := asT_shape l col size s (by rw [HN.out]; exact h30)
    have H1 := hid' (Assign_any w1 ca cc n l col size s HN.out HVC.out h30)
    have H2 := hid' (fun W (hv : Vs W.heap.size W a l) => rAssign_any W a cap n l col size s HN.out hv h30)
    generalize (asT l col size s).1 = L at H1 H2 hL64 hLr
    generalize (asT l col size s).2 = c at H1 H2
    refine H1.out.mono ?_
    rintro e w2 ⟨x, f, rfl, hx, g2⟩
    clear H1
    have HX := hid' hx
    have HB2 := hid' g2
    clear hx g2
    go_wp2_with fail
    refine (H2.out w2 (HV1.out.on HB2.out)).mono ?_
    rintro e w3 ⟨y, f', rfl, hy, g3⟩
    clear H2
    have HY := hid' hy
    have HB3 := hid' (HB2.out.trans (g3.mono HB2.out.size))
    have HX3 := hid' (HX.out.keep g3)
    have HLR := hid' hLr
    clear hy g3 hLr HX HB2
    go_wp2_with fail
    refine (SameRows_same w3 x y _ _ L f f' HX3.out HY.out (by omega) (fun i hi => (HLR.out i hi).2)).mono ?_
    rintro e w4 ⟨rfl, g4⟩
    have HX4 := hid' (HX3.out.keep g4)
    have HB4 := hid' (HB3.out.trans (g4.mono HB3.out.size))
    clear g4 HX3 HB3 HY
    go_wp2_with fail
    refine (HC.out _ _).mono ?_
    rintro e w5 ⟨rfl, rfl⟩
    obtain ⟨xa, xcap, rfl⟩ := HX4.out.shape
    have HLO : Hid (0 < L.length → ∃ b, xa = some ⟨b, 0, none⟩ ∧ Lo w1.heap.size b L.length f w5) := fun hp => by
      obtain ⟨b, cp, e, lo⟩ := HX4.out.lo hp HLR.out
      injection e with e1
      exact ⟨b, e1, lo⟩
    generalize L.length = m at HLO hL64 HX4 ⊢
    clear HX4 HLR hiV hV0 hV1 hV2
    go_wp2
    go_loopg [14] m (fun k i wr => ∃ j : Nat, j + k = m ∧ i = .int .i64 (j : Int) ∧ Hid (Below w1.heap.size w1 wr) ∧ Hid (0 < m → ∃ b, xa = some ⟨b, 0, none⟩ ∧ Lo w1.heap.size b m f wr))
    case atStart => exact ⟨0, by omega, rfl, HB4, HLO⟩
    case round =>
      obtain ⟨j, hj, rfl, HBL, HLW⟩ := hrel
      cases gk with
      | zero =>
        obtain rfl : m = j := by omega
        have HS := hid' (rSame_same wr ca a cc cap n l HN.out (HVC.out.on HBL.out) (HV1.out.on HBL.out) (by omega))
        have HBF := hid' (HB1.out.trans (HBL.out.mono HB1.out.size))
        clear HLW HLO HB4
        go_wp2_with fail
        refine HS.out.mono ?_
        rintro e w6 ⟨rfl, g6⟩
        have HBF := on_B HBF g6
        clear g6 HS
        go_wp2_with fail
        refine (HL.out _).mono ?_
        rintro e w7 ⟨rfl, g7⟩
        have HBF := on_B HBF g7
        go_wp2
        go_ret
        exact ⟨rfl, HBF.out⟩
      | succ k =>
        obtain ⟨b, rfl, lo⟩ := HLW.out (by omega)
        have HLOW := hid' lo
        obtain ⟨g, nn, c3, hf, hg1, hg2, hg3, hgz⟩ := lo.each j (by omega)
        have HF := hid' hf
        have t1 := lo.top j (by omega)
        rw [hf] at t1
        obtain ⟨wO, hwO⟩ : ∃ x, x = wr := ⟨wr, rfl⟩
        subst hwO
        clear lo HLW hf t1 hgz HLO
        have hjm : j < m := by omega
        go_wp2
        go_loopg [15] nn (fun k' i' wr => ∃ q : Nat, q + k' = nn ∧ i' = .int .i64 (q : Int) ∧ Hid (Below w1.heap.size w1 wr) ∧ Hid (Lo w1.heap.size b m f wr))
        case atStart => exact ⟨0, by omega, rfl, HBL, HLOW⟩
        case round =>
          obtain ⟨q, hq, rfl, HBI, HLI⟩ := hrel
          have t1 := HLI.out.top j hjm
          rw [HF.out] at t1
          cases gk with
          | zero =>
            obtain rfl : nn = q := by omega
            go_wp2
            go_roundg k
            case measure => omega
            case rel => exact ⟨j + 1, by omega, by simp, HBI, fun _ => ⟨b, rfl, HLI.out⟩⟩
          | succ k' =>
            obtain ⟨g', n', c', e', _, _, _, hz⟩ := HLI.out.each j hjm
            rw [HF.out] at e'
            injection e' with e1 e2 e3
            injection e1 with e1
            injection e1 with e1
            subst e1 e2
            obtain ⟨⟨z, hz1⟩, hz2⟩ := hz q (by omega)
            have HZ := hid' hz1
            clear hz e3
            go_wp2
            go_roundg k'
            case measure => omega
            case rel => exact ⟨q + 1, by omega, by simp, hid' (HBI.out.setCell hg1 _), hid' (HLI.out.set hg2 _ HZ.out _)⟩

end Go.Proofs.Ytioldkilfeemfaa
