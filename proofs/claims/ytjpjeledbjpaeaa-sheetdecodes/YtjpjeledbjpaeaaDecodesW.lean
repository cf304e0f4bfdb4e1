/-
  What is proved here: the law SheetDecodes answers true at all bytes in memory and writes nothing that was there; how bytes that are handed in read.
-/
import Derived.Test.YtjpjeledbjpaeaaSameW
import Derived.Test.YtjpjeledbjpaeaaRDec
namespace Go.Proofs.Ytjpjeledbjpaeaa
open Go.RowKit Go.Proofs
set_option maxRecDepth 20000
set_option linter.unusedVariables false
set_option linter.unusedSimpArgs false

theorem NdOK.rng {x : Nd} (h : NdOK x) : NdRng x := ⟨h.kind, h.ins, h.kinds, fun e he t ht => ⟨((h.exprs e he).2 t ht).op, ((h.exprs e he).2 t ht).int⟩, h.cols, h.key, h.n, h.size, h.slide⟩

theorem PlOK.rng {p : Pl} (h : PlOK p) : PlRng p := ⟨fun x hx => (h.nodes x hx).rng, h.outs, h.room⟩

theorem NdOK.chk {x : Nd} (h : NdOK x) : ndChk x = 0 := by
  have h1 : ndMany x = false := by
    unfold ndMany
    have e : x.exprs.any manyT = false := by
      rw [List.any_eq_false]
      intro y hy
      have := (h.exprs y hy).1
      unfold manyT
      simp
      omega
    rw [e, decide_eq_false (by have := h.n1; omega), decide_eq_false (by have := h.n2; omega), decide_eq_false (by have := h.n3; omega), decide_eq_false (by have := h.n4; omega)]
    rfl
  have h2 : ndLong x = false := by
    unfold ndLong
    rw [List.any_eq_false]
    intro y hy
    unfold longT
    rw [Bool.not_eq_true, List.any_eq_false]
    intro t ht
    have := ((h.exprs y hy).2 t ht).str
    unfold longS
    simp
    omega
  unfold ndChk
  rw [h1, h2]
  rfl

theorem nodesChk_ok : ∀ {l : List Nd}, (∀ x ∈ l, NdOK x) → nodesChk l = 0
  | [], _ => rfl
  | x :: l, h => by
    rw [nodesChk, if_pos (h x (by simp)).chk]
    exact nodesChk_ok fun y hy => h y (List.mem_cons_of_mem _ hy)

theorem PlOK.chk {p : Pl} (h : PlOK p) : plChk p = 0 := by
  unfold plChk
  rw [if_neg (by have := h.m1; have := h.m2; omega)]
  exact nodesChk_ok h.nodes

theorem PlOK.cntD {p : Pl} (h : PlOK p) : PlCnt p := by
  refine ⟨by have := h.m1; omega, by have := h.m2; omega, fun x hx => ?_⟩
  have hx := h.nodes x hx
  exact ⟨by have := hx.n1; omega, by have := hx.n2; omega, ⟨by have := hx.n3; omega, fun e he => by have := (hx.exprs e he).1; omega⟩, by have := hx.n4; omega⟩

theorem planB_neD (p : Pl) : planB p ≠ [] := by rw [planB_eq]; simp

theorem p0_ok : PlOK p0 := ⟨fun x hx => by simp [p0] at hx, by simp [p0], by simp [p0], fun z hz => by simp [p0] at hz, by unfold R64 p0; simp⟩

theorem p0_r (w : World) : PlR w.heap.size w p0 ps0 := ⟨Nds.nil _ _ _, Ns.nil _ _ _⟩

theorem own_emptyD (w : World) : (w.alloc (Obj.cells #[] 5)).ownsRow w.heap.size 5 1 (.slice (some ⟨w.heap.size, 0, none⟩) 0 0) 0 [] :=
  ⟨by simp, .inr ⟨w.heap.size, 0, #[], rfl, Nat.le_refl _, heap_alloc_new _ _, Nat.le_refl _, by unfold maxLen; omega, by simp, by simp⟩⟩

set_option maxHeartbeats 8000000 in
theorem decodes_walk (w : World) (a : Option Addr) (cap : Nat) (l : List Int) (hb : Bts w.heap.size w a l) (hc : l.length ≤ cap) (hn : a = none → l = [] ∧ cap = 0) :
    Calls Try.prog 4 #[.slice a l.length cap] w fun e w' => e = .returned (.bool true) ∧ Below w.heap.size w w' := by
  by_cases hl : 5000 < l.length
  · have hl' : (5000 : Int) < (l.length : Int) := by omega
    generalize l.length = n at *
    clear hb
    go_enter Try.func4, Try.ntmps4
    go_wp2_with fail
    refine (live_any w).mono ?_
    rintro e w3 ⟨rfl, hb3⟩
    go_wp2
    go_ret
    exact ⟨rfl, hb3⟩
  · have hl' : ¬ (5000 : Int) < (l.length : Int) := by omega
    by_cases hnil : l = []
    · subst hnil
      simp only [List.length_nil] at hl' hc ⊢
      have B1 : Hid (Below w.heap.size w (w.alloc (Obj.cells #[] 5))) := (Below.refl _ w).alloc (Nat.le_refl _) _
      have T1 := hid' (Bts.nil (w.alloc (Obj.cells #[] 5)).heap.size (w.alloc (Obj.cells #[] 5)) a)
      have C1 := hid' (Bts.nil (w.alloc (Obj.cells #[] 5)).heap.size (w.alloc (Obj.cells #[] 5)) (some ⟨w.heap.size, 0, none⟩))
      clear hb hn
      cases a with
      | none =>
        go_enter Try.func4, Try.ntmps4
        go_wp2_with fail
        generalize w.alloc (Obj.cells #[] 5) = w1 at *
        refine (Decode_any w1 (some ⟨w.heap.size, 0, none⟩) 0 [] C1.out (by simp) (by simp)).mono ?_
        rintro e w2 (⟨p, s, pok, hpe, rfl, hpr, hbel⟩ | ⟨hno, rfl, hbel⟩)
        · exact absurd hpe.symm (planB_neD p)
        · have BA : Below w2.heap.size w2 (w2.alloc (Obj.cells #[.slice none 0 0, .slice none 0 0, .int .i64 0] 25)) := (Below.refl _ _).alloc (Nat.le_refl _) _
          have BW := bel_trans' hbel BA
          have B3 := hid' (bel_trans' B1.out BW)
          have T3 := hid' ((T1.out.keep BW).mono BW.size)
          have C3 := hid' ((C1.out.keep BW).mono BW.size)
          have X3 : Hid (PlB (w2.alloc (Obj.cells #[.slice none 0 0, .slice none 0 0, .int .i64 0] 25)) w2.heap.size p0 ps0) := PlB.new w2 p0 ps0
          have HNO := hid' hno
          clear hno hbel BA BW B1 T1 C1
          unfold plV p0 ps0
          go_wp2_with fail
          generalize w2.alloc (Obj.cells #[.slice none 0 0, .slice none 0 0, .int .i64 0] 25) = w3 at *
          generalize w2.heap.size = g3 at *
          refine (rDecode_any w3 none cap [] T3.out (by omega) (by simp only [List.length_nil]; omega)).mono ?_
          rintro e w4 (⟨q, t, qok, hqe, rfl, _⟩ | ⟨_, rfl, hbel⟩)
          · exact absurd hqe (HNO.out q qok)
          · have BA : Below w4.heap.size w4 (w4.alloc (Obj.cells #[.slice none 0 0, .slice none 0 0, .int .i64 0] 25)) := (Below.refl _ _).alloc (Nat.le_refl _) _
            have BW := bel_trans' hbel BA
            have B5 := hid' (bel_trans' B3.out BW)
            have T5 := hid' ((T3.out.keep BW).mono BW.size)
            have C5 := hid' ((C3.out.keep BW).mono BW.size)
            have X5 := hid' (X3.out.below BW)
            have Y5 : Hid (PlB (w4.alloc (Obj.cells #[.slice none 0 0, .slice none 0 0, .int .i64 0] 25)) w4.heap.size p0 ps0) := PlB.new w4 p0 ps0
            clear hbel BA BW B3 T3 C3 X3 HNO
            unfold plV p0 ps0
            go_wp2_with fail
            generalize w4.alloc (Obj.cells #[.slice none 0 0, .slice none 0 0, .int .i64 0] 25) = w5 at *
            generalize w4.heap.size = g5 at *
            refine (code_any 6 w5).mono ?_
            rintro e w5' ⟨rfl, rfl⟩
            have k0 : w5'.cell? ⟨g3, 0, none⟩ = some (.slice none 0 0) := X5.out.k0
            have k1 : w5'.cell? ⟨g3, 1, none⟩ = some (.slice none 0 0) := X5.out.k1
            have k2 : w5'.cell? ⟨g3, 2, none⟩ = some (.int .i64 0) := X5.out.k2
            have j0 : w5'.cell? ⟨g5, 0, none⟩ = some (.slice none 0 0) := Y5.out.k0
            have j1 : w5'.cell? ⟨g5, 1, none⟩ = some (.slice none 0 0) := Y5.out.k1
            have j2 : w5'.cell? ⟨g5, 2, none⟩ = some (.int .i64 0) := Y5.out.k2
            have HS := hid' (rSame_any w5' p0 p0 ps0 ps0 (p0_r _) (p0_r _) p0_ok.cntD p0_ok.cntD (by simp [p0]))
            unfold plV p0 ps0 at HS
            go_wp2_with fail
            refine HS.out.mono ?_
            rintro e w6 ⟨rfl, hb6⟩
            have cvA : (convert 28 9 (.slice none 0 cap)).run Try.prog w6 = .ok (.string (strOfNums [])) w6 := ((T5.out.keep hb6).conv _ _ rfl)
            have cvC : (convert 28 9 (.slice (some ⟨w.heap.size, 0, none⟩) 0 0)).run Try.prog w6 = .ok (.string (strOfNums [])) w6 := ((C5.out.keep hb6).conv _ _ rfl)
            have B6 := hid' (bel_trans' B5.out hb6)
            generalize strOfNums [] = sl at *
            clear hb6 HS B5 T5 C5 X5 Y5 k0 k1 k2 j0 j1 j2
            go_wp2_with fail
            refine (live_any w6).mono ?_
            rintro e w7 ⟨rfl, hb7⟩
            go_wp2
            go_ret
            exact ⟨rfl, bel_trans' B6.out hb7⟩
      | some ad =>
        go_enter Try.func4, Try.ntmps4
        go_wp2_with fail
        generalize w.alloc (Obj.cells #[] 5) = w1 at *
        refine (Decode_any w1 (some ⟨w.heap.size, 0, none⟩) 0 [] C1.out (by simp) (by simp)).mono ?_
        rintro e w2 (⟨p, s, pok, hpe, rfl, hpr, hbel⟩ | ⟨hno, rfl, hbel⟩)
        · exact absurd hpe.symm (planB_neD p)
        · have BA : Below w2.heap.size w2 (w2.alloc (Obj.cells #[.slice none 0 0, .slice none 0 0, .int .i64 0] 25)) := (Below.refl _ _).alloc (Nat.le_refl _) _
          have BW := bel_trans' hbel BA
          have B3 := hid' (bel_trans' B1.out BW)
          have T3 := hid' ((T1.out.keep BW).mono BW.size)
          have C3 := hid' ((C1.out.keep BW).mono BW.size)
          have X3 : Hid (PlB (w2.alloc (Obj.cells #[.slice none 0 0, .slice none 0 0, .int .i64 0] 25)) w2.heap.size p0 ps0) := PlB.new w2 p0 ps0
          have HNO := hid' hno
          clear hno hbel BA BW B1 T1 C1
          unfold plV p0 ps0
          go_wp2_with fail
          generalize w2.alloc (Obj.cells #[.slice none 0 0, .slice none 0 0, .int .i64 0] 25) = w3 at *
          generalize w2.heap.size = g3 at *
          refine (rDecode_any w3 (some ad) cap [] T3.out (by omega) (by simp only [List.length_nil]; omega)).mono ?_
          rintro e w4 (⟨q, t, qok, hqe, rfl, _⟩ | ⟨_, rfl, hbel⟩)
          · exact absurd hqe (HNO.out q qok)
          · have BA : Below w4.heap.size w4 (w4.alloc (Obj.cells #[.slice none 0 0, .slice none 0 0, .int .i64 0] 25)) := (Below.refl _ _).alloc (Nat.le_refl _) _
            have BW := bel_trans' hbel BA
            have B5 := hid' (bel_trans' B3.out BW)
            have T5 := hid' ((T3.out.keep BW).mono BW.size)
            have C5 := hid' ((C3.out.keep BW).mono BW.size)
            have X5 := hid' (X3.out.below BW)
            have Y5 : Hid (PlB (w4.alloc (Obj.cells #[.slice none 0 0, .slice none 0 0, .int .i64 0] 25)) w4.heap.size p0 ps0) := PlB.new w4 p0 ps0
            clear hbel BA BW B3 T3 C3 X3 HNO
            unfold plV p0 ps0
            go_wp2_with fail
            generalize w4.alloc (Obj.cells #[.slice none 0 0, .slice none 0 0, .int .i64 0] 25) = w5 at *
            generalize w4.heap.size = g5 at *
            refine (code_any 6 w5).mono ?_
            rintro e w5' ⟨rfl, rfl⟩
            have k0 : w5'.cell? ⟨g3, 0, none⟩ = some (.slice none 0 0) := X5.out.k0
            have k1 : w5'.cell? ⟨g3, 1, none⟩ = some (.slice none 0 0) := X5.out.k1
            have k2 : w5'.cell? ⟨g3, 2, none⟩ = some (.int .i64 0) := X5.out.k2
            have j0 : w5'.cell? ⟨g5, 0, none⟩ = some (.slice none 0 0) := Y5.out.k0
            have j1 : w5'.cell? ⟨g5, 1, none⟩ = some (.slice none 0 0) := Y5.out.k1
            have j2 : w5'.cell? ⟨g5, 2, none⟩ = some (.int .i64 0) := Y5.out.k2
            have HS := hid' (rSame_any w5' p0 p0 ps0 ps0 (p0_r _) (p0_r _) p0_ok.cntD p0_ok.cntD (by simp [p0]))
            unfold plV p0 ps0 at HS
            go_wp2_with fail
            refine HS.out.mono ?_
            rintro e w6 ⟨rfl, hb6⟩
            have cvA : (convert 28 9 (.slice (some ad) 0 cap)).run Try.prog w6 = .ok (.string (strOfNums [])) w6 := ((T5.out.keep hb6).conv _ _ rfl)
            have cvC : (convert 28 9 (.slice (some ⟨w.heap.size, 0, none⟩) 0 0)).run Try.prog w6 = .ok (.string (strOfNums [])) w6 := ((C5.out.keep hb6).conv _ _ rfl)
            have B6 := hid' (bel_trans' B5.out hb6)
            generalize strOfNums [] = sl at *
            clear hb6 HS B5 T5 C5 X5 Y5 k0 k1 k2 j0 j1 j2
            go_wp2_with fail
            refine (live_any w6).mono ?_
            rintro e w7 ⟨rfl, hb7⟩
            go_wp2
            go_ret
            exact ⟨rfl, bel_trans' B6.out hb7⟩
    · obtain ⟨i0, hi, hz0, hz1, hz2⟩ := info_parts Try.info5
      obtain ⟨ad, rfl, hsrc⟩ := hb.src (by rw [length_B8]; exact List.length_pos_iff.2 hnil)
      have hBA : Below w.heap.size w (w.alloc (Obj.cells #[] 5)) := (Below.refl _ w).alloc (Nat.le_refl _) _
      have HS : Hid (∀ j v, (B8 l)[j]? = some v → (w.alloc (Obj.cells #[] 5)).cell? (ad.add j) = some v) := by
        obtain ⟨ad', he, h⟩ := (hb.keep hBA).src (by rw [length_B8]; exact List.length_pos_iff.2 hnil)
        cases he
        exact h
      have HO := hid' (own_emptyD w)
      have HBT := hid' hb
      have HBY : Hid (Byt l) := hb.range
      have HNIL := hid' hnil
      have HBA := hid' hBA
      clear hsrc hb hBA hn hnil
      go_enter Try.func4, Try.ntmps4
      go_wp2_with (first
        | (at_builtin; refine wpList_append_own _ rfl (.tmp 14) (.tmp 15) 28 rfl w.heap.size 5 i0 (.int .u8 0) 1 1 Try.underlying28 hi hz0 hz1 hz2 rfl (by decide) (.slice (some ⟨w.heap.size, 0, none⟩) 0 0) 0 [] rfl HO.out ad l.length cap (B8 l) rfl (by rw [length_B8]; omega) HS.out (B8_one _) (by unfold maxLen; omega) (by omega) (by simp) ?_; intro v1 w1 hown1 hgrow1 hnil1; have hO1 : Own w.heap.size w1 v1 l := (by unfold Own; simpa using hown1); obtain ⟨g1, c1, hv1, hc1, hbt1⟩ := hO1.bts HBY.out HNIL.out; subst hv1))
      have hb1 : Below w.heap.size w w1 := HBA.out.trans ((Kb.grown hgrow1 HO.out).below (by simp))
      have B1 := hid' hb1
      have T1 := hid' ((HBT.out.keep hb1).mono hb1.size)
      have C1 := hid' hbt1
      clear hown1 hgrow1 hnil1 hO1 hbt1 HO HS HBA HBT hb1 hi hz0 hz1 hz2
      refine (Decode_any w1 (some ⟨g1, 0, none⟩) c1 l C1.out hc1 (by omega)).mono ?_
      rintro e w2 (⟨p, s, pok, hpe, rfl, hpr, hbel⟩ | ⟨hno, rfl, hbel⟩)
      · have BA : Below w2.heap.size w2 (w2.alloc (plObj p s)) := (Below.refl _ _).alloc (Nat.le_refl _) _
        have BW := bel_trans' hbel BA
        have B3 := hid' (bel_trans' B1.out BW)
        have T3 := hid' ((T1.out.keep BW).mono BW.size)
        have C3 := hid' ((C1.out.keep BW).mono BW.size)
        have X3 := hid' (PlB.new w2 p s)
        have R3 := hid' ((hpr.keep BA).mono BA.size)
        have HPE := hid' hpe
        have POK := hid' pok
        unfold plObj at B3 T3 C3 X3 R3
        clear hpe hbel hpr pok BA BW B1 T1 C1
        unfold plV
        go_wp2_with fail
        generalize w2.alloc (Obj.cells #[.slice s.a1 p.nodes.length s.c1, .slice s.a2 p.outs.length s.c2, .int .i64 p.room] 25) = w3 at *
        generalize w2.heap.size = g3 at *
        refine (rDecode_any w3 (some ad) cap l T3.out hc (by omega)).mono ?_
        rintro e w4 (⟨q, t, qok, hqe, rfl, hqr, hbel⟩ | ⟨hno, _⟩)
        · obtain ⟨hpq, _⟩ := pf_plan p q [] [] POK.out qok (by rw [List.append_nil, List.append_nil, ← HPE.out, ← hqe])
          subst hpq
          have BA : Below w4.heap.size w4 (w4.alloc (plObj p t)) := (Below.refl _ _).alloc (Nat.le_refl _) _
          have BW := bel_trans' hbel BA
          have B5 := hid' (bel_trans' B3.out BW)
          have T5 := hid' ((T3.out.keep BW).mono BW.size)
          have C5 := hid' ((C3.out.keep BW).mono BW.size)
          have X5 := hid' (X3.out.below BW)
          have R5 := hid' ((R3.out.keep BW).mono BW.size)
          have Y5 := hid' (PlB.new w4 p t)
          have Q5 := hid' ((hqr.keep BA).mono BA.size)
          unfold plObj at B5 T5 C5 X5 R5 Y5 Q5
          clear hqe hbel hqr qok BA BW B3 T3 C3 X3 R3
          unfold plV
          go_wp2_with fail
          generalize w4.alloc (Obj.cells #[.slice t.a1 p.nodes.length t.c1, .slice t.a2 p.outs.length t.c2, .int .i64 p.room] 25) = w5 at *
          generalize w4.heap.size = g5 at *
          refine (code_any 0 w5).mono ?_
          rintro e w5' ⟨rfl, rfl⟩
          have k0 := X5.out.k0
          have k1 := X5.out.k1
          have k2 := X5.out.k2
          have j0 := Y5.out.k0
          have j1 := Y5.out.k1
          have j2 := Y5.out.k2
          have HS := hid' (rSame_any w5' p p s t R5.out Q5.out POK.out.cntD POK.out.cntD (by have := POK.out.m1; omega))
          rw [decide_eq_true rfl] at HS
          unfold plV at HS
          go_wp2_with fail
          refine HS.out.mono ?_
          rintro e w6 ⟨rfl, hb6⟩
          have B6 := hid' (bel_trans' B5.out hb6)
          have T6 := hid' ((T5.out.keep hb6).mono hb6.size)
          have X6 := hid' (X5.out.below hb6)
          have R6 := hid' ((R5.out.keep hb6).mono hb6.size)
          have cvA : (convert 28 9 (.slice (some ad) l.length cap)).run Try.prog w6 = .ok (.string (strOfNums l)) w6 := T6.out.conv _ _ rfl
          have cvC : (convert 28 9 (.slice (some ⟨g1, 0, none⟩) l.length c1)).run Try.prog w6 = .ok (.string (strOfNums l)) w6 := ((C5.out.keep hb6).conv _ _ rfl)
          clear hb6 HS B5 T5 C5 X5 Y5 R5 Q5 k0 k1 k2 j0 j1 j2
          have k0 := X6.out.k0
          have k1 := X6.out.k1
          have k2 := X6.out.k2
          have HE := hid' (Encode_any w6 p s R6.out POK.out.rng)
          unfold plV at HE
          go_wp2_with fail
          refine HE.out.mono ?_
          intro e w7 hans
          rcases hans with ⟨h, _⟩ | ⟨_, vb, rfl, hown, hbel⟩
          · exact absurd POK.out.chk h
          obtain ⟨gb, cb, hvb, hcb, hbt⟩ := hown.bts (byt_plan p) (planB_neD p)
          rw [← HPE.out] at hvb hbt
          subst hvb
          have B7 := hid' (bel_trans' B6.out hbel)
          have cvA7 : (convert 28 9 (.slice (some ad) l.length cap)).run Try.prog w7 = .ok (.string (strOfNums l)) w7 := ((T6.out.keep hbel).conv _ _ rfl)
          have cvB7 : (convert 28 9 (.slice (some ⟨gb, 0, none⟩) l.length cb)).run Try.prog w7 = .ok (.string (strOfNums l)) w7 := hbt.conv _ _ rfl
          clear hown hbel hbt HE B6 T6 X6 R6 k0 k1 k2 cvA cvC
          go_wp2_with fail
          refine (code_any 0 w7).mono ?_
          rintro e w7' ⟨rfl, rfl⟩
          go_wp2_with fail
          refine (live_any w7').mono ?_
          rintro e w8 ⟨rfl, hb8⟩
          go_wp2
          go_ret
          exact ⟨rfl, bel_trans' B7.out hb8⟩
        · exact absurd HPE.out (hno p POK.out)
      · have BA : Below w2.heap.size w2 (w2.alloc (Obj.cells #[.slice none 0 0, .slice none 0 0, .int .i64 0] 25)) := (Below.refl _ _).alloc (Nat.le_refl _) _
        have BW := bel_trans' hbel BA
        have B3 := hid' (bel_trans' B1.out BW)
        have T3 := hid' ((T1.out.keep BW).mono BW.size)
        have C3 := hid' ((C1.out.keep BW).mono BW.size)
        have X3 : Hid (PlB (w2.alloc (Obj.cells #[.slice none 0 0, .slice none 0 0, .int .i64 0] 25)) w2.heap.size p0 ps0) := PlB.new w2 p0 ps0
        have HNO := hid' hno
        clear hno hbel BA BW B1 T1 C1
        unfold plV p0 ps0
        go_wp2_with fail
        generalize w2.alloc (Obj.cells #[.slice none 0 0, .slice none 0 0, .int .i64 0] 25) = w3 at *
        generalize w2.heap.size = g3 at *
        refine (rDecode_any w3 (some ad) cap l T3.out (by omega) (by omega)).mono ?_
        rintro e w4 (⟨q, t, qok, hqe, rfl, _⟩ | ⟨_, rfl, hbel⟩)
        · exact absurd hqe (HNO.out q qok)
        · have BA : Below w4.heap.size w4 (w4.alloc (Obj.cells #[.slice none 0 0, .slice none 0 0, .int .i64 0] 25)) := (Below.refl _ _).alloc (Nat.le_refl _) _
          have BW := bel_trans' hbel BA
          have B5 := hid' (bel_trans' B3.out BW)
          have T5 := hid' ((T3.out.keep BW).mono BW.size)
          have C5 := hid' ((C3.out.keep BW).mono BW.size)
          have X5 := hid' (X3.out.below BW)
          have Y5 : Hid (PlB (w4.alloc (Obj.cells #[.slice none 0 0, .slice none 0 0, .int .i64 0] 25)) w4.heap.size p0 ps0) := PlB.new w4 p0 ps0
          clear hbel BA BW B3 T3 C3 X3 HNO
          unfold plV p0 ps0
          go_wp2_with fail
          generalize w4.alloc (Obj.cells #[.slice none 0 0, .slice none 0 0, .int .i64 0] 25) = w5 at *
          generalize w4.heap.size = g5 at *
          refine (code_any 6 w5).mono ?_
          rintro e w5' ⟨rfl, rfl⟩
          have k0 : w5'.cell? ⟨g3, 0, none⟩ = some (.slice none 0 0) := X5.out.k0
          have k1 : w5'.cell? ⟨g3, 1, none⟩ = some (.slice none 0 0) := X5.out.k1
          have k2 : w5'.cell? ⟨g3, 2, none⟩ = some (.int .i64 0) := X5.out.k2
          have j0 : w5'.cell? ⟨g5, 0, none⟩ = some (.slice none 0 0) := Y5.out.k0
          have j1 : w5'.cell? ⟨g5, 1, none⟩ = some (.slice none 0 0) := Y5.out.k1
          have j2 : w5'.cell? ⟨g5, 2, none⟩ = some (.int .i64 0) := Y5.out.k2
          have HS := hid' (rSame_any w5' p0 p0 ps0 ps0 (p0_r _) (p0_r _) p0_ok.cntD p0_ok.cntD (by simp [p0]))
          unfold plV p0 ps0 at HS
          go_wp2_with fail
          refine HS.out.mono ?_
          rintro e w6 ⟨rfl, hb6⟩
          have cvA : (convert 28 9 (.slice (some ad) l.length cap)).run Try.prog w6 = .ok (.string (strOfNums l)) w6 := ((T5.out.keep hb6).conv _ _ rfl)
          have cvC : (convert 28 9 (.slice (some ⟨g1, 0, none⟩) l.length c1)).run Try.prog w6 = .ok (.string (strOfNums l)) w6 := ((C5.out.keep hb6).conv _ _ rfl)
          have B6 := hid' (bel_trans' B5.out hb6)
          generalize strOfNums l = sl at *
          clear hb6 HS B5 T5 C5 X5 Y5 k0 k1 k2 j0 j1 j2
          go_wp2_with fail
          refine (live_any w6).mono ?_
          rintro e w7 ⟨rfl, hb7⟩
          go_wp2
          go_ret
          exact ⟨rfl, bel_trans' B6.out hb7⟩

end Go.Proofs.Ytjpjeledbjpaeaa
