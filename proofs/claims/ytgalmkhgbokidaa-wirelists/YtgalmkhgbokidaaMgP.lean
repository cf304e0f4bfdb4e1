/-
  What is proved here: two commands that are alike; lists of commands in memory.
  What is proved here: the document's Same of commands that are alike.
  What is proved here: the law WireGets answers true at all bytes and every number and writes nothing that was there.
-/
import Derived.Test.YtgalmkhgbokidaaMgO

namespace Go.Proofs.Ytgalmkhgbokidaa
open Go.RowKit Go.Proofs
set_option maxRecDepth 20000
set_option linter.unusedVariables false
set_option linter.unusedSimpArgs false

/-- Two commands that are the same but for fields of values that play no part. -/
structure AlC (x y : Cm) : Prop where
  op : x.op = y.op
  node : x.node = y.node
  row : AlR x.row y.row
  time : x.time = y.time
  diff : x.diff = y.diff
  front : x.front = y.front
  fuel : x.fuel = y.fuel
  sheet : x.sheet = y.sheet

theorem AlC.refl (x : Cm) : AlC x x := ⟨rfl, rfl, AlR.refl _, rfl, rfl, rfl, rfl, rfl⟩
theorem AlC.ofNorm (c : Cm) : AlC (normC c) (plain c) := ⟨rfl, rfl, AlR.ofNorm _, rfl, rfl, rfl, rfl, rfl⟩

/-- No longer than is asked. -/
def Sm (c : Cm) : Prop := c.row.length ≤ 1000 ∧ c.front.length ≤ 1000000 ∧ c.sheet.length ≤ 1000000

theorem Sm.plain {c : Cm} (h : Sm c) : Sm (plain c) := by
  unfold Sm Go.Proofs.Ytgalmkhgbokidaa.plain at *
  refine ⟨?_, ?_, ?_⟩ <;> simp only <;> split <;> simp_all <;> omega

/-- A list of commands in memory. -/
structure Cms (P : Nat → Prop) (w : World) (a : Option Addr) (X : List (Cm × CmS)) : Prop where
  cells : SP 9 cCm (c0, s0) P w a X
  each : ∀ q ∈ X, CmR P w q.1 q.2

theorem Cms.on {P : Nat → Prop} {w w' : World} {a : Option Addr} {X : List (Cm × CmS)} (h : Cms P w a X) (hb : Below w.heap.size w w') : Cms P w' a X := ⟨SP.on h.cells hb, fun q hq => (h.each q hq).on hb⟩
theorem Cms.mono {P Q : Nat → Prop} {w : World} {a : Option Addr} {X : List (Cm × CmS)} (h : Cms P w a X) (hk : ∀ k, P k → Q k) : Cms Q w a X := ⟨SP.mono h.cells hk, fun q hq => (h.each q hq).mono hk⟩
theorem Cms.at {P : Nat → Prop} {w : World} {b off : Nat} {X : List (Cm × CmS)} (h : Cms P w (some ⟨b, off, none⟩) X) {i : Nat} (hi : i < X.length) : b < w.heap.size ∧ ∀ j, j < 9 → w.cell? ⟨b, off + i * 9 + j, none⟩ = (cmA (X.getD i (c0, s0)).1 (X.getD i (c0, s0)).2)[j]? := by
  obtain ⟨b', off', e, _, hb, hc⟩ := h.cells.cells (by rintro rfl; simp at hi)
  cases e
  refine ⟨hb, fun j hj => ?_⟩
  have := hc i j hi hj
  rw [← Nat.add_assoc] at this
  rw [this]
  unfold cCm
  rw [Array.getElem?_toList]

/-- A list of one command, in a block of its own. -/
theorem Cms.one {P : Nat → Prop} {w : World} {g : Nat} {c : Cm} {s : CmS} (hb : Bx w g (cmA c s) 31) (hp : P g) (hc : CmR P w c s) : Cms P w (some ⟨g, 0, none⟩) [(c, s)] :=
  ⟨⟨fun _ => ⟨g, 0, rfl, hp, hb.lt, fun i j hi hj => by
    have : i = 0 := by simpa using hi
    subst this
    rw [Nat.zero_add, Nat.zero_mul, Nat.zero_add, hb.cell j]
    show _ = (cCm (c, s))[j]?
    unfold cCm
    rw [Array.getElem?_toList]⟩⟩, fun q hq => by simp at hq; subst hq; exact hc⟩

theorem cm9_one (c : Cm) (s : CmS) : (cmA c s).all (·.oneCell') = true := by
  simp [cmA, Value.oneCell']

def vals6 (b1 o1 n ca b2 o2 cb j : Nat) (x y : Value) (i : Nat) : Option Value :=
  [some (.slice (some ⟨b1, o1, none⟩) n ca), some (.int .i64 (j : Int)), some (.pointer (some ⟨b1, o1 + j * 9, none⟩)), some x, some (.slice (some ⟨b2, o2, none⟩) n cb), some (.int .i64 (j : Int)), some (.pointer (some ⟨b2, o2 + j * 9, none⟩)), some y].getD i none

theorem vals6_lt {b1 o1 n ca b2 o2 cb j : Nat} {x y : Value} : ∀ k v, vals6 b1 o1 n ca b2 o2 cb j x y k = some v → k < 8 := by
  intro k v h
  rcases Nat.lt_or_ge k 8 with hk | hk
  · exact hk
  · unfold vals6 List.getD at h
    rw [List.getElem?_eq_none (by simpa using hk)] at h
    cases h

def plVal (x y : Value) (i : Nat) : Option Value := [some x, none, some y, none, none, none].getD i none

/-- What holds while x, y = Plain(x), Plain(y) goes on. -/
def plInv (wr : World) (g8 g9 : Nat) (x y : Cm) (sx sy : CmS) (vs : List Value) (W : World) : Prop :=
  Below wr.heap.size wr W ∧ wr.heap.size ≤ g8 ∧ wr.heap.size ≤ g9 ∧ g8 ≠ g9 ∧ match vs with
    | [] => Bx W g8 (cmA x sx) 31 ∧ Bx W g9 (cmA y sy) 31
    | [p] => Bx W g8 (cmA x sx) 31 ∧ Bx W g9 (cmA y sy) 31 ∧ p = cmV (plain x) (plainS x sx)
    | [p, q] => Bx W g8 (cmA x sx) 31 ∧ Bx W g9 (cmA y sy) 31 ∧ p = cmV (plain x) (plainS x sx) ∧ q = cmV (plain y) (plainS y sy)
    | [_, q, _] => Bx W g8 (cmA (plain x) (plainS x sx)) 31 ∧ Bx W g9 (cmA y sy) 31 ∧ q = cmV (plain y) (plainS y sy)
    | [_, _, _, _] => Bx W g8 (cmA (plain x) (plainS x sx)) 31 ∧ Bx W g9 (cmA (plain y) (plainS y sy)) 31
    | _ => False

end Go.Proofs.Ytgalmkhgbokidaa

namespace Go.Proofs.Ytgalmkhgbokidaa
open Go.RowKit Go.Proofs
set_option maxRecDepth 20000
set_option linter.unusedVariables false
set_option linter.unusedSimpArgs false

set_option maxHeartbeats 8000000 in
theorem rSame_false (P Q : Nat → Prop) (w : World) (a b : Option Addr) (ca cb : Nat) (X Y : List (Cm × CmS)) (hX : Cms P w a X) (hY : Cms Q w b Y) (hlen : X.length = Y.length) (hl : X.length ≤ 100000) (hal : ∀ i, i < X.length → AlC (X.getD i (c0, s0)).1 (Y.getD i (c0, s0)).1) (hsm : ∀ q ∈ X, Sm q.1) :
    Calls Try.prog 14 #[.slice a X.length ca, .slice b Y.length cb, .bool false] w fun e w' => e = .returned (.bool true) ∧ Below w.heap.size w w' := by
  have H1 := hid' hX
  have H2 := hid' hY
  have HAL := hid' hal
  have HSM := hid' hsm
  rw [← hlen]
  have HLEN := hid' hlen
  obtain ⟨n, hn⟩ : ∃ n, X.length = n := ⟨_, rfl⟩
  have HN := hid' hn
  rw [hn] at hl ⊢
  clear hX hY hn hal hsm hlen
  go_enter Try.func14, Try.ntmps14
  go_wp2
  go_loopg [7] n (fun k i wr => ∃ j : Nat, j + k = n ∧ i = .int .i64 (j : Int) ∧ Hid (Below w.heap.size w wr))
  case atStart => exact ⟨0, by omega, rfl, Below.refl _ _⟩
  case round =>
    obtain ⟨j, hj, rfl, HB⟩ := hrel
    cases gk with
    | zero =>
      obtain rfl : j = n := by omega
      go_wp2
      go_ret
      exact ⟨rfl, HB.out⟩
    | succ k =>
      have hjl : j < X.length := by rw [HN.out]; omega
      have hjr : j < Y.length := by rw [← HLEN.out]; exact hjl
      obtain ⟨b1, o1, rfl⟩ := SP.lt H1.out.cells (by rintro rfl; simp at hjl)
      obtain ⟨b2, o2, rfl⟩ := SP.lt H2.out.cells (by rintro rfl; simp at hjr)
      have HC1 := hid' (fun W (hW : Below w.heap.size w W) => (Cms.at (H1.out.on hW) hjl).2)
      have HC2 := hid' (fun W (hW : Below w.heap.size w W) => (Cms.at (H2.out.on hW) hjr).2)
      have HCR1 := hid' (fun W (hW : Below w.heap.size w W) => (H1.out.each _ (getD_mem (d := (c0, s0)) hjl)).on hW)
      have HCR2 := hid' (fun W (hW : Below w.heap.size w W) => (H2.out.each _ (getD_mem (d := (c0, s0)) hjr)).on hW)
      have HA := hid' (HAL.out j hjl)
      have HS := hid' (HSM.out _ (getD_mem (d := (c0, s0)) hjl))
      generalize X.getD j (c0, s0) = qx at *
      generalize Y.getD j (c0, s0) = qy at *
      obtain ⟨x, sx⟩ := qx
      obtain ⟨y, sy⟩ := qy
      simp only at HC1 HC2 HCR1 HCR2 HA HS
      have hjn : j < n := by omega
      clear hjl hjr
      go_wp2_with fail
      generalize hA0 : Act.mk _ _ = A0
      have e0 : PB.slot A0 0 = .slice (some ⟨b1, o1, none⟩) n ca := by rw [← hA0]; rfl
      have e1 : PB.slot A0 1 = .slice (some ⟨b2, o2, none⟩) n cb := by rw [← hA0]; rfl
      have e7 : PB.slot A0 7 = .int .i64 (j : Int) := by rw [← hA0]; rfl
      have esz : A0.tmps.size = 98 := by rw [← hA0]; rfl
      have ed : A0.defers = [] := by rw [← hA0]
      have hBW : ∀ W, Below wr.heap.size wr W → Below w.heap.size w W := fun W h => bel_trans' HB.out h
      refine PB.wp_region_invT (R6 (vals6 b1 o1 n ca b2 o2 cb j (cmV x sx) (cmV y sy)) (cmA x sx) (cmA y sy) A0 wr) mixed' (by kernel_rfl)
        ⟨rfl, rfl, fun _ _ _ _ => rfl, (Below.refl _ _).drew, fun k v _ h => (by cases h), fun h => (by cases h), fun h => (by cases h), fun h => (by cases h), fun h => (by cases h), fun h => (by cases h), fun h => (by cases h), fun h => (by cases h)⟩ ?_ ?_
      · refine ⟨?_, ?_, ?_, ?_, ?_, ?_, ?_, ?_, ?_, ?_, ?_, ?_, trivial⟩ <;> intro L A W hl hw hI
        · exact PB.inv_does (v := .slice (some ⟨b1, o1, none⟩) n ca) (PB.does_move (PB.wanted_free rfl) rfl ((hI.oth 0 (by omega) (by omega) (by omega)).trans e0)) (fun w' hb => hI.pure (by omega) (i := 0) (by omega) rfl hb)
        · exact PB.inv_does (v := .int .i64 (j : Int)) (PB.does_move (PB.wanted_free rfl) rfl ((hI.oth 7 (by omega) (by omega) (by omega)).trans e7)) (fun w' hb => hI.pure (by omega) (i := 1) (by omega) rfl hb)
        · exact PB.inv_does (v := .pointer (some ⟨b1, o1 + j * 9, none⟩)) (PB.does_run (PB.wanted_free rfl) (run_ixK W (hI.vals 0 _ rfl (hw 0 rfl)) (hI.vals 1 _ rfl (hw 1 rfl)) hjn (by omega)) rfl) (fun w' hb => hI.pure (by omega) (i := 2) (by omega) rfl hb)
        · exact PB.inv_does (v := cmV x sx) (PB.does_run (PB.wanted_free rfl) (run_loadC W (hI.vals 2 _ rfl (hw 2 rfl)) (HC1.out W (hBW W hI.below))) rfl) (fun w' hb => hI.pure (by omega) (i := 3) (by omega) rfl hb)
        · exact PB.inv_does (v := .slice (some ⟨b2, o2, none⟩) n cb) (PB.does_move (PB.wanted_free rfl) rfl ((hI.oth 1 (by omega) (by omega) (by omega)).trans e1)) (fun w' hb => hI.pure (by omega) (i := 4) (by omega) rfl hb)
        · exact PB.inv_does (v := .int .i64 (j : Int)) (PB.does_move (PB.wanted_free rfl) rfl ((hI.oth 7 (by omega) (by omega) (by omega)).trans e7)) (fun w' hb => hI.pure (by omega) (i := 5) (by omega) rfl hb)
        · exact PB.inv_does (v := .pointer (some ⟨b2, o2 + j * 9, none⟩)) (PB.does_run (PB.wanted_free rfl) (run_ixK W (hI.vals 4 _ rfl (hw 4 rfl)) (hI.vals 5 _ rfl (hw 5 rfl)) hjn (by omega)) rfl) (fun w' hb => hI.pure (by omega) (i := 6) (by omega) rfl hb)
        · exact PB.inv_does (v := cmV y sy) (PB.does_run (PB.wanted_free rfl) (run_loadC W (hI.vals 6 _ rfl (hw 6 rfl)) (HC2.out W (hBW W hI.below))) rfl) (fun w' hb => hI.pure (by omega) (i := 7) (by omega) rfl hb)
        · exact PB.inv_value (PB.wanted_free rfl) (run_allocNd W) (hI.new6 (by omega) vals6_lt hl)
        · exact PB.inv_value (PB.wanted_free rfl) (run_allocNd W) (hI.new7 (by omega) vals6_lt hl)
        · obtain ⟨g, c, e, hg, hb, h9⟩ := hI.p6 (hw 8 rfl)
          exact PB.inv_skip (PB.wanted_free rfl) rfl (run_storeNd W e (hI.vals 3 _ rfl (hw 3 rfl)) hb h9 rfl (cm9_one x sx)) (hI.store12 vals6_lt (hw 8 rfl) (hw 9 rfl) e hg hb rfl)
        · obtain ⟨g, c, e, hg, hb, h9⟩ := hI.p7 (hw 9 rfl)
          exact PB.inv_skip (PB.wanted_free rfl) rfl (run_storeNd W e (hI.vals 7 _ rfl (hw 7 rfl)) hb h9 rfl (cm9_one y sy)) (hI.store13 vals6_lt (hw 8 rfl) (hw 9 rfl) e hg hb rfl)
      · intro L A W hall hI
        obtain ⟨g6, z6, bx6⟩ := hI.b12 (hall 10 (by decide))
        obtain ⟨g7, z7, bx7⟩ := hI.b13 (hall 11 (by decide))
        have hge6 : wr.heap.size ≤ g6 := by
          obtain ⟨g', c', h1, h2, _⟩ := hI.p6 (hall 8 (by decide))
          rw [z6] at h1
          have := ptr_inj h1
          omega
        have hge7 : wr.heap.size ≤ g7 := by
          obtain ⟨g', c', h1, h2, _⟩ := hI.p7 (hall 9 (by decide))
          rw [z7] at h1
          have := ptr_inj h1
          omega
        have hne67 : g6 ≠ g7 := fun e => hI.apart (hall 8 (by decide)) (hall 9 (by decide)) (by rw [z6, z7, e])
        have hA := PQ.frame_puts hI.defers hI.size [8, 9, 21, 22, 23, 24, 25, 26, 27, 28] (fun t ht => hI.oth t (by rintro rfl; simp at ht) (by rintro rfl; simp at ht) (by
          rcases Nat.lt_or_ge t 21 with h | h
          · exact .inl h
          · rcases Nat.lt_or_ge t 29 with h' | h'
            · exact absurd (show t ∈ [8, 9, 21, 22, 23, 24, 25, 26, 27, 28] by
                rcases (show t = 21 ∨ t = 22 ∨ t = 23 ∨ t = 24 ∨ t = 25 ∨ t = 26 ∨ t = 27 ∨ t = 28 by omega) with h | h | h | h | h | h | h | h <;> subst h <;> simp) ht
            · exact .inr h'))
        have BW := hid' hI.below
        have BX6 := hid' bx6
        have BX7 := hid' bx7
        clear hI hall bx6 bx7
        rw [hA, ← hA0]
        simp only [PQ.puts, z6, z7]
        generalize PB.slot A 21 = f21
        generalize PB.slot A 22 = f22
        generalize PB.slot A 23 = f23
        generalize PB.slot A 24 = f24
        generalize PB.slot A 25 = f25
        generalize PB.slot A 26 = f26
        generalize PB.slot A 27 = f27
        generalize PB.slot A 28 = f28
        clear hA z6 z7 hA0 e0 e1 e7 esz ed
        simp only [Act.put, List.setIfInBounds_toArray, List.set_cons_succ, List.set_cons_zero, ptr]
        have HEQ := hid' (show x.front = y.front ∧ x.time = y.time ∧ x.diff = y.diff from ⟨HA.out.front, HA.out.time, HA.out.diff⟩)
        have HW := hid' (hBW _ BW.out)
        have CX := hid' (HCR1.out _ HW.out)
        have CY := hid' (HCR2.out _ HW.out)
        obtain ⟨m0, m1, m2, m3, m4, m5, m6, m7, m8⟩ := cm_cells BX6.out
        obtain ⟨l0, l1, l2, l3, l4, l5, l6, l7, l8⟩ := cm_cells BX7.out
        obtain ⟨a0, a1, a2, a3, a4, a5, a6, a7⟩ := HA.out
        have hcvx := (BP.bts CX.out.sheet CX.out.byt).conv x.sheet.length sx.sc rfl
        have hcvy := (BP.bts CY.out.sheet CY.out.byt).conv y.sheet.length sy.sc rfl
        rw [← a7] at hcvy l8
        rw [← a5] at l6
        rw [← a0] at l0
        rw [← a1] at l1
        rw [← a3] at l3 l4
        rw [← a4] at l5
        rw [← a6] at l7
        have HSO := hid' (oSame_alike P Q W sx.ra sy.ra sx.rc sy.rc x.row y.row CX.out.row CY.out.row a2 HS.out.1)
        have HSF := hid' (fun W' (h : Below (W).heap.size (W) W') => mSame_any P Q W' sx.fa sy.fa sx.fc sy.fc x.front (SP.on CX.out.front h) (by rw [a5]; exact SP.on CY.out.front h) HS.out.2.1)
        generalize strOfNums x.sheet = st at *
        clear a0 a1 a2 a3 a4 a5 a6 a7 HC1 HC2 HCR1 HCR2 HA
        go_wp2_with fail
        refine HSO.out.mono ?_
        rintro e w3 ⟨rfl, hb3⟩
        have HW3 := hid' (bel_trans' HW.out hb3)
        obtain ⟨m0, m1, m2, m3, m4, m5, m6, m7, m8⟩ := cm_cells (BX6.out.keep hb3)
        have yk := BX7.out.keep hb3
        have n3 : w3.cell? ⟨g7, 3, none⟩ = some (.int .i64 x.time.1) := by rw [HEQ.out.2.1]; exact yk.cell 3
        have n4 : w3.cell? ⟨g7, 4, none⟩ = some (.int .i64 x.time.2) := by rw [HEQ.out.2.1]; exact yk.cell 4
        have n5 : w3.cell? ⟨g7, 5, none⟩ = some (.int .i64 x.diff) := by rw [HEQ.out.2.2]; exact yk.cell 5
        have n6 := yk.cell 6
        have HS3 := hid' (HSF.out w3 hb3)
        have n6' : w3.cell? ⟨g7, 6, none⟩ = some (.slice sy.fa x.front.length sy.fc) := by rw [HEQ.out.1]; exact yk.cell 6
        have HEQF := hid' HEQ.out.1
        clear yk n6 HSF HSO hb3 l0 l1 l2 l3 l4 l5 l6 l7 l8 hcvx hcvy CX CY BX6 BX7
        go_wp2_with fail
        refine HS3.out.mono ?_
        rintro e w4 ⟨rfl, hb4⟩
        have HW4 := hid' (bel_trans' HW3.out hb4)
        clear HS3 hb4
        go_wp2
        go_roundg k
        case measure => omega
        case rel => exact ⟨j + 1, by omega, by simp, HW4⟩

end Go.Proofs.Ytgalmkhgbokidaa

namespace Go.Proofs.Ytgalmkhgbokidaa
open Go.RowKit Go.Proofs
set_option maxRecDepth 20000
set_option linter.unusedVariables false
set_option linter.unusedSimpArgs false

/-- Two that look from one place on tell the same. -/
theorem gcase_uniq {α : Type} {f : α → List Int} {D : α → Prop} {d : α} {l : List Int} {at' : Int} {x y : α} {nx er nx' er' : Int} (hpf : PF f D)
    (h3 : ((at' < 0 ∨ (l.length : Int) < at') ∧ x = d ∧ nx = 0 ∧ er = 9) ∨ (0 ≤ at' ∧ at' ≤ l.length ∧ er = 0 ∧ D x ∧ l.drop at'.toNat = f x ++ l.drop nx.toNat ∧ (nx.toNat : Int) = nx ∧ nx.toNat ≤ l.length) ∨ (0 ≤ at' ∧ at' ≤ l.length ∧ er = 6 ∧ x = d ∧ nx = 0 ∧ ∀ y r, D y → l.drop at'.toNat ≠ f y ++ r))
    (k3 : ((at' < 0 ∨ (l.length : Int) < at') ∧ y = d ∧ nx' = 0 ∧ er' = 9) ∨ (0 ≤ at' ∧ at' ≤ l.length ∧ er' = 0 ∧ D y ∧ l.drop at'.toNat = f y ++ l.drop nx'.toNat ∧ (nx'.toNat : Int) = nx' ∧ nx'.toNat ≤ l.length) ∨ (0 ≤ at' ∧ at' ≤ l.length ∧ er' = 6 ∧ y = d ∧ nx' = 0 ∧ ∀ y r, D y → l.drop at'.toNat ≠ f y ++ r)) :
    x = y ∧ nx = nx' ∧ er = er' ∧ (x = d ∨ D x) := by
  rcases h3 with ⟨h4, rfl, rfl, rfl⟩ | ⟨h4, h5, rfl, h6, h7, h8, h9⟩ | ⟨h4, h5, rfl, rfl, rfl, h6⟩
  · rcases k3 with ⟨k4, rfl, rfl, rfl⟩ | ⟨k4, k5, rfl, k6, k7, k8, k9⟩ | ⟨k4, k5, rfl, rfl, rfl, k6⟩
    · exact ⟨rfl, rfl, rfl, .inl rfl⟩
    · omega
    · omega
  · rcases k3 with ⟨k4, rfl, rfl, rfl⟩ | ⟨k4, k5, rfl, k6, k7, k8, k9⟩ | ⟨k4, k5, rfl, rfl, rfl, k6⟩
    · omega
    · obtain ⟨rfl, e2⟩ := hpf x y _ _ h6 k6 (h7.symm.trans k7)
      have : nx = nx' := by
        have := congrArg List.length e2
        rw [List.length_drop, List.length_drop] at this
        omega
      subst this
      exact ⟨rfl, rfl, rfl, .inr h6⟩
    · exact absurd h7 (k6 _ _ h6)
  · rcases k3 with ⟨k4, rfl, rfl, rfl⟩ | ⟨k4, k5, rfl, k6, k7, k8, k9⟩ | ⟨k4, k5, rfl, rfl, rfl, k6⟩
    · omega
    · exact absurd k7 (h6 _ _ k6)
    · exact ⟨rfl, rfl, rfl, .inl rfl⟩

theorem Nice.sm {c : Cm} (h : c = c0 ∨ Nice c) : Sm c := by
  rcases h with rfl | h
  · exact ⟨by decide, by decide, by decide⟩
  · have h1 := h.row.1
    have h2 := h.front.1
    have h3 := h.sheet.1
    exact ⟨by omega, by omega, by omega⟩

set_option maxHeartbeats 8000000 in
theorem gets_walk (w : World) (a : Option Addr) (cap : Nat) (l : List Int) (z : Int) (hb : Bts w.heap.size w a l) (hsh : Sh a l.length cap) :
    Calls Try.prog 4 #[.slice a l.length cap, .int .i64 z] w fun e w' => e = .returned (.bool true) ∧ Below w.heap.size w w' := by
  have HC := hid' hsh.2
  clear hsh
  by_cases hbig : 3000 < l.length
  · clear hb
    generalize l.length = ln at *
    have HL := hid' (live_any w)
    have h' : (3000 : Int) < (ln : Int) := by omega
    go_enter Try.func4, Try.ntmps4
    go_wp2_with fail
    refine HL.out.mono ?_
    rintro e w1 ⟨rfl, hb1⟩
    go_wp2
    go_ret
    exact ⟨rfl, hb1⟩
  · have h' : ¬ (3000 : Int) < (l.length : Int) := by omega
    have HBT := hid' hb
    have HG1 := hid' (wGet_any w a cap l z hb HC.out (by omega))
    have HG2 := hid' (fun W (hW : Below w.heap.size w W) => rGet_any W a cap l z ((HBT.out.keep hW).mono hW.size) HC.out (by omega))
    have HG3 := hid' (fun W (hW : Below w.heap.size w W) => getFront_any W a cap l z ((HBT.out.keep hW).mono hW.size) HC.out (by omega))
    have HG4 := hid' (fun W (hW : Below w.heap.size w W) => rGetFront_any W a cap l z ((HBT.out.keep hW).mono hW.size) HC.out (by omega))
    obtain ⟨ln, hln⟩ : ∃ n, l.length = n := ⟨_, rfl⟩
    rw [hln] at h' HG1 HG2 HG3 HG4 ⊢
    clear hb hbig hln
    go_enter Try.func4, Try.ntmps4
    go_wp2_with fail
    refine HG1.out.mono ?_
    rintro e1 w1 ⟨x1, v1, nx1, er1, rfl, ⟨s1, hv1, hc1⟩, hb1, hk1⟩
    subst hv1
    have HK1 := hid' hk1
    have BA1 := (Below.refl w1.heap.size w1).alloc (Nat.le_refl _) (.cells (cmA x1 s1) 31)
    have HX1 := hid' (Bx.new w1 (cmA x1 s1) 31)
    have HB1 := hid' (bel_trans' hb1 BA1)
    have HC1 := hid' (hc1.on BA1)
    have HC2 := hid' (HG2.out _ HB1.out)
    have hge1 : w.heap.size ≤ w1.heap.size := hb1.size
    obtain ⟨g1, hg1⟩ : ∃ n, w1.heap.size = n := ⟨_, rfl⟩
    have HG := hid' hg1
    clear hb1 HG1 hk1 hc1 BA1 HG2
    unfold cmV
    obtain ⟨W1, hW1⟩ : ∃ W, w1.alloc (.cells (cmA x1 s1) 31) = W := ⟨_, rfl⟩
    have HW1 := hid' hW1
    rw [hW1] at HC2 HC1 HB1 HX1
    rw [hg1] at HX1
    unfold cmA at HW1 ⊢
    clear hW1 hg1
    go_wp2_with fail
    rw [HW1.out, HG.out]
    refine HC2.out.mono ?_
    rintro e2 w2 ⟨x, v2, nx, er, rfl, ⟨s2, hv2, hc2⟩, hb2, hk2⟩
    subst hv2
    obtain ⟨hx, rfl, rfl, hd⟩ := gcase_uniq pf_cmd HK1.out hk2
    subst hx
    have HSM := hid' (Nice.sm hd)
    have BA2 := (Below.refl w2.heap.size w2).alloc (Nat.le_refl _) (.cells (cmA x1 s2) 31)
    have HX2 := hid' (Bx.new w2 (cmA x1 s2) 31)
    have HY1 := hid' ((HX1.out.keep hb2).keep BA2)
    have HB2 := hid' (bel_trans' (bel_trans' HB1.out hb2) BA2)
    have HD1 := hid' ((HC1.out.on hb2).on BA2)
    have HD2 := hid' (hc2.on BA2)
    have HC3 := hid' (HG3.out _ HB2.out)
    obtain ⟨g2, hg2⟩ : ∃ n, w2.heap.size = n := ⟨_, rfl⟩
    have HGG := hid' hg2
    obtain ⟨W2, hW2⟩ : ∃ W, w2.alloc (.cells (cmA x1 s2) 31) = W := ⟨_, rfl⟩
    have HW2 := hid' hW2
    rw [hW2] at HX2 HY1 HB2 HD1 HD2 HC3
    rw [hg2] at HX2
    clear HK1 hk2 hc2 hb2 hd BA2 HG3 HX1 HB1 HC1 HC2 hW2 hg2 HW1 HG
    unfold cmV
    unfold cmA at HW2 ⊢
    go_wp2_with fail
    rw [HW2.out, HGG.out]
    refine HC3.out.mono ?_
    rintro e3 w3 ⟨y, u1, ny, fr, rfl, ⟨fa1, fc1, hu1, ht1, _⟩, hb3, hk3⟩
    subst hu1
    have HB3 := hid' (bel_trans' HB2.out hb3)
    have HX3 := hid' (HX2.out.keep hb3)
    have HY3 := hid' (HY1.out.keep hb3)
    have HE1 := hid' (HD1.out.on hb3)
    have HE2 := hid' (HD2.out.on hb3)
    have HT1 := hid' ht1
    have HK3 := hid' hk3
    have HC4 := hid' (HG4.out _ HB3.out)
    clear hb3 ht1 hk3 HG4 HC3 HX2 HY1 HB2 HD1 HD2 HW2 HGG
    go_wp2_with fail
    refine HC4.out.mono ?_
    rintro e4 w4 ⟨y', u2, ny', fr', rfl, ⟨fa2, fc2, hu2, ht2, _⟩, hb4, hk4⟩
    subst hu2
    obtain ⟨hy, rfl, rfl, hd⟩ := gcase_uniq pf_front HK3.out hk4
    subst hy
    have hY : y.length ≤ 1000000 := by
      rcases hd with rfl | h
      · decide
      · have := h.1; omega
    have HB4 := hid' (bel_trans' HB3.out hb4)
    have hX4 := HX3.out.keep hb4
    have hY4 := HY3.out.keep hb4
    have HF1 := hid' (HE1.out.on hb4)
    have HF2 := hid' (HE2.out.on hb4)
    have HTA := hid' (SP.on HT1.out hb4)
    have HTB := hid' ht2
    obtain ⟨n0, n1, n2, n3, n4, n5, n6, n7, n8⟩ := cm_cells hY4
    -- the two lists of one command
    have BP1 := (Below.refl w4.heap.size w4).alloc (Nat.le_refl _) (.cells (cmA x1 s1) 31)
    have Z1 := Bx.new w4 (cmA x1 s1) 31
    obtain ⟨m0, m1, m2, m3, m4, m5, m6, m7, m8⟩ := cm_cells (hX4.keep BP1)
    unfold cmA at m0 m1 m2 m3 m4 m5 m6 m7 m8
    obtain ⟨W5, hW5⟩ : ∃ W, w4.alloc (.cells (cmA x1 s1) 31) = W := ⟨_, rfl⟩
    have HW5 := hid' hW5
    rw [hW5] at BP1 Z1
    have BP2 := (Below.refl W5.heap.size W5).alloc (Nat.le_refl _) (.cells (cmA x1 s2) 31)
    have Z2 := Bx.new W5 (cmA x1 s2) 31
    have BP := bel_trans' BP1 BP2
    have HSAME := hid' (rSame_false (fun _ => True) (fun _ => True) _ _ _ 1 1 [(x1, s1)] [(x1, s2)] (Cms.one (Z1.keep BP2) trivial ((HF1.out.on BP).mono (fun _ _ => trivial))) (Cms.one Z2 trivial ((HF2.out.on BP).mono (fun _ _ => trivial))) rfl (by simp) (fun i hi => by
      have : i = 0 := by simpa using hi
      subst this
      exact AlC.refl _) (fun q hq => by simp at hq; subst hq; exact HSM.out))
    have HMS := hid' (fun W (hW : Below (W5.alloc (.cells (cmA x1 s2) 31)).heap.size (W5.alloc (.cells (cmA x1 s2) 31)) W) => mSame_any _ _ W fa1 fa2 fc1 fc2 y (SP.on HTA.out (bel_trans' BP hW)) (SP.on HTB.out (bel_trans' BP hW)) hY)
    have HBE := hid' (bel_trans' HB4.out BP)
    obtain ⟨W6, hW6⟩ : ∃ W, W5.alloc (.cells (cmA x1 s2) 31) = W := ⟨_, rfl⟩
    have HW6 := hid' hW6
    rw [hW6] at HSAME HMS HBE
    obtain ⟨g5, hg5⟩ : ∃ n, W5.heap.size = n := ⟨_, rfl⟩
    have HG5 := hid' hg5
    rw [hg5] at HSAME
    have HG4 : Hid (g5 = w4.heap.size + 1) := by rw [← hg5, ← hW5]; exact World.size_alloc _ _
    unfold cmA at HW5 HW6
    have HLV := hid' live_any
    clear hX4 hY4 hb4 ht2 hk4 hd HK3 HX3 HY3 HE1 HE2 HT1 HC4 HB3 BP1 BP2 BP Z1 Z2 hW5 hW6 hg5 HF1 HF2 HTA HTB HSM
    simp only [List.length_cons, List.length_nil, Nat.zero_add] at HSAME
    go_wp2_with fail
    rw [HW5.out, HW6.out, ← HG4.out]
    refine HSAME.out.mono ?_
    rintro e w7 ⟨rfl, hb7⟩
    have HB7 := hid' (bel_trans' HBE.out hb7)
    have HM7 := hid' (HMS.out w7 hb7)
    clear hb7 HSAME HMS HBE HW5 HW6 HG5 HG4 m0 m1 m2 m3 m4 m5 m6 m7 m8 n0 n1 n2 n3 n4 n5 n6 n7 n8
    go_wp2_with fail
    refine (code_any er1 _).mono ?_
    rintro e w8 ⟨rfl, rfl⟩
    go_wp2_with fail
    refine HM7.out.mono ?_
    rintro e w9 ⟨rfl, hb9⟩
    have HB9 := hid' (bel_trans' HB7.out hb9)
    clear hb9 HM7
    go_wp2_with fail
    refine (code_any fr _).mono ?_
    rintro e w10 ⟨rfl, rfl⟩
    go_wp2_with fail
    refine (HLV.out _).mono ?_
    rintro e w11 ⟨rfl, hb11⟩
    go_wp2
    go_ret
    exact ⟨rfl, bel_trans' HB9.out hb11⟩

end Go.Proofs.Ytgalmkhgbokidaa
