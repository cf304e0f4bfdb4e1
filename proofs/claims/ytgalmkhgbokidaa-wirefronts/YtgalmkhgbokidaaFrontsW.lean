/-
  What is proved here: the law WireFronts answers true at all bytes and all times in memory and writes nothing that was there.
-/
import Derived.Test.YtgalmkhgbokidaaWL
namespace Go.Proofs.Ytgalmkhgbokidaa
open Go.RowKit Go.Proofs
set_option maxRecDepth 20000
set_option linter.unusedVariables false
set_option linter.unusedSimpArgs false

theorem newIs_lastsB (l : List Int) : PB.Lasts (NewIs l) := by
  rintro v w w' ⟨g, c, rfl, hb⟩ hbel
  exact ⟨g, c, rfl, (hb.keep hbel).mono hbel.size⟩

theorem newIs_convB {l : List Int} {v : Value} {w : World} (h : NewIs l v w) : (convert 22 9 v).run Try.prog w = .ok (.string (strOfNums l)) w := by
  obtain ⟨g, c, rfl, hb⟩ := h
  exact hb.conv _ _ rfl

theorem newIs_own {base : Nat} {w : World} {v : Value} {l : List Int} (h : Own base w v l) (hr : Byt l) (hne : l ≠ []) : NewIs l v w := by
  obtain ⟨a, c, rfl, _, hb, hg⟩ := h.bts hr
  obtain ⟨g, rfl⟩ := hg hne
  exact ⟨g, c, rfl, hb⟩

theorem run_addS (w : World) (A B : ByteArray) (x y : Operand) (h : A.size + B.size ≤ 9223372036854775807) : ((do eqGuard .add 9 x y (.string A) (.string B); binOp .add 9 (.string A) (.string B) : Sem Value)).run Try.prog w = .ok (.string (A ++ B)) w := by
  go_simp

theorem run_neqS (w : World) (A : ByteArray) (x y : Operand) : ((do eqGuard .neq 9 x y (.string A) (.string A); binOp .neq 9 (.string A) (.string A) : Sem Value)).run Try.prog w = .ok (.bool false) w := by
  go_simp

theorem run_eqlS (w : World) (A : ByteArray) (x y : Operand) : ((do eqGuard .eql 9 x y (.string A) (.string A); binOp .eql 9 (.string A) (.string A) : Sem Value)).run Try.prog w = .ok (.bool true) w := by
  go_simp

theorem frontB_ne (l : List T) : frontB l ≠ [] := by
  unfold frontB listB
  intro h
  have h1 := (List.append_eq_nil_iff.1 h).1
  have := sz_pos l.length
  rw [← length_bytesOf, h1] at this
  simp at this

/-- What GetFront tells of a frontier's bytes. -/
theorem front_back {l : List Int} {xs : List T} (hr : ∀ t ∈ xs, RT t) {w w' : World} {e : Ending} (h : GAns frontB (LD 16 RT) RepTs [] (l ++ frontB xs) (l.length : Int) w e w') :
    ∃ y v next er, e = .returned (.tuple #[v, .int .i64 next, .int .i64 er]) ∧ RepTs w.heap.size y v w' ∧ Below w.heap.size w w' ∧ ((xs.length ≤ 16 ∧ y = xs ∧ er = 0 ∧ next = ((l ++ frontB xs).length : Int)) ∨ (16 < xs.length ∧ y = [] ∧ er = 6 ∧ next = 0)) := by
  obtain ⟨y, v, next, er, rfl, h1, h2, h3⟩ := h
  refine ⟨y, v, next, er, rfl, h1, h2, ?_⟩
  have hd : (l ++ frontB xs).drop ((l.length : Int).toNat) = frontB xs := by simp
  rcases h3 with ⟨h4, _⟩ | ⟨_, _, rfl, h5, h6, h7, h8⟩ | ⟨_, _, rfl, rfl, rfl, h5⟩
  · rw [List.length_append] at h4; omega
  · rw [hd] at h6
    by_cases hx : xs.length ≤ 16
    · obtain ⟨e1, e2⟩ := pf_front xs y [] _ ⟨hx, hr⟩ h5 (by rw [List.append_nil]; exact h6)
      refine .inl ⟨hx, e1.symm, rfl, ?_⟩
      have := congrArg List.length e2
      rw [List.length_nil, List.length_drop] at this
      omega
    · exfalso
      have e1 : frontB xs ++ [] = frontB y ++ (l ++ frontB xs).drop next.toNat := by rw [List.append_nil]; exact h6
      unfold frontB listB at e1
      rw [List.append_assoc, List.append_assoc] at e1
      have := (bytes_pf e1).1
      have := h5.1
      omega
  · rw [hd] at h5
    by_cases hx : xs.length ≤ 16
    · exact absurd (by rw [List.append_nil]) (h5 xs [] ⟨hx, hr⟩)
    · exact .inr ⟨by omega, rfl, rfl, rfl⟩

set_option maxHeartbeats 8000000 in
theorem fronts_walk (P : Nat → Prop) (w : World) (a : Option Addr) (cap : Nat) (l : List Int) (fa : Option Addr) (fc : Nat) (xs : List T) (hb : Bts w.heap.size w a l) (hsh : Sh a l.length cap) (hx : TP P w fa xs) (hr : ∀ t ∈ xs, RT t) :
    Calls Try.prog 5 #[.slice a l.length cap, .slice fa xs.length fc] w fun e w' => e = .returned (.bool true) ∧ Below w.heap.size w w' := by
  clear hsh
  by_cases hbig : 1000 < l.length ∨ 100 < xs.length
  · clear hb hx hr
    generalize l.length = ln at *
    generalize xs.length = fn at *
    have HL := hid' (live_any w)
    rcases hbig with h | h
    · have h' : (1000 : Int) < (ln : Int) := by omega
      go_enter Try.func5, Try.ntmps5
      go_wp2_with fail
      refine HL.out.mono ?_
      rintro e w1 ⟨rfl, hb1⟩
      go_wp2
      go_ret
      exact ⟨rfl, hb1⟩
    · by_cases h1 : 1000 < ln
      · have h' : (1000 : Int) < (ln : Int) := by omega
        go_enter Try.func5, Try.ntmps5
        go_wp2_with fail
        refine HL.out.mono ?_
        rintro e w1 ⟨rfl, hb1⟩
        go_wp2
        go_ret
        exact ⟨rfl, hb1⟩
      · have h' : ¬ (1000 : Int) < (ln : Int) := by omega
        have h'' : (100 : Int) < (fn : Int) := by omega
        go_enter Try.func5, Try.ntmps5
        go_wp2_with fail
        refine HL.out.mono ?_
        rintro e w1 ⟨rfl, hb1⟩
        go_wp2
        go_ret
        exact ⟨rfl, hb1⟩
  · have hl1 : l.length ≤ 1000 := by omega
    have hx1 : xs.length ≤ 100 := by omega
    have hlf := len_front hx1 (by omega) hr
    have HPF := hid' (putFront_any P w a cap l fa fc xs hb hx hr (by rw [List.length_append]; omega) (by omega))
    have HBT := hid' hb
    have HTP := hid' hx
    have HR := hid' hr
    have HBY : Hid (Byt (l ++ frontB xs)) := (Byt.app hb.range (byt_front xs) : Byt _)
    have HNE : Hid (l ++ frontB xs ≠ []) := fun h => frontB_ne xs (List.append_eq_nil_iff.1 h).2
    have hbl : (l ++ frontB xs).length ≤ 10000 := by rw [List.length_append]; omega
    clear hb hx hr hbig
    obtain ⟨ln, hln⟩ : ∃ n, l.length = n := ⟨_, rfl⟩
    obtain ⟨fn, hfn⟩ : ∃ n, xs.length = n := ⟨_, rfl⟩
    have HLN := hid' hln
    have HFN := hid' hfn
    rw [hln] at hl1 HPF ⊢
    rw [hfn] at hx1 HPF ⊢
    clear hln hfn hlf
    have g1 : ¬ (1000 : Int) < (ln : Int) := by omega
    have g2 : ¬ (100 : Int) < (fn : Int) := by omega
    go_enter Try.func5, Try.ntmps5
    go_wp2_with fail
    refine HPF.out.mono ?_
    rintro e w1 ⟨xv, rfl, hown, hbel⟩
    obtain ⟨xa, xc, rfl, hxc, hxb, _⟩ := hown.bts HBY.out
    have HB1 := hid' hbel
    have HXB := hid' hxb
    have HGF := hid' (getFront_any w1 xa xc (l ++ frontB xs) (l.length : Int) hxb hxc (by omega))
    obtain ⟨xn, hxn⟩ : ∃ n, (l ++ frontB xs).length = n := ⟨_, rfl⟩
    have HXN := hid' hxn
    rw [hxn, HLN.out] at HGF
    rw [hxn] at hxc hbl ⊢
    clear HPF hown hbel hxb hxn
    go_wp2_with fail
    refine HGF.out.mono ?_
    intro e w2 hans
    rw [← HLN.out] at hans
    obtain ⟨y, gv, nx, er, rfl, hrep, hb2, hcase⟩ := front_back HR.out hans
    obtain ⟨ga, gc, rfl, hgt, hgs⟩ := hrep
    have HB2 := hid' (bel_trans' HB1.out hb2)
    have HGT := hid' hgt
    have HCX : Hid (∀ W : World, Below w2.heap.size w2 W → (convert 22 9 (.slice xa xn xc)).run Try.prog W = .ok (.string (strOfNums (l ++ frontB xs))) W) := fun W hW => ((HXB.out.keep (bel_trans' hb2 hW)).conv xn xc HXN.out)
    have HCB : Hid (∀ W : World, Below w2.heap.size w2 W → (convert 22 9 (.slice a ln cap)).run Try.prog W = .ok (.string (strOfNums l)) W) := fun W hW => ((HBT.out.keep (bel_trans' HB2.out hW)).conv ln cap HLN.out)
    have HFR : Hid (∀ W, Below w2.heap.size w2 W → Calls Try.prog 24 #[.slice fa fn fc] W fun e w' => ∃ v, e = .returned v ∧ Below W.heap.size W w' ∧ NewIs (frontB xs) v w') := fun W hW => by
      have h := rFront_any P W fa fc xs (SP.on HTP.out (bel_trans' HB2.out hW)) HR.out (by rw [HFN.out]; omega)
      rw [HFN.out] at h
      refine h.mono ?_
      rintro e w' ⟨v, rfl, ho, hb⟩
      exact ⟨v, rfl, hb, newIs_own ho (byt_front xs) (frontB_ne xs)⟩
    have HSM : Hid (y = xs → ∀ W, Below w2.heap.size w2 W → Calls Try.prog 22 #[.slice ga y.length gc, .slice fa fn fc] W fun e w' => e = .returned (.bool true) ∧ Below W.heap.size W w') := fun hy W hW => by
      subst hy
      rw [← HFN.out]
      exact mSame_any _ P W ga fa gc fc y (SP.on HGT.out hW) (SP.on HTP.out (bel_trans' HB2.out hW)) (by rw [HFN.out]; omega)
    have HCASE := hid' hcase
    have HSZ : Hid ((strOfNums l).size + (strOfNums (frontB xs)).size ≤ 9223372036854775807) := (by rw [strOfNums_size, strOfNums_size, ← List.length_append, HXN.out]; omega : _ ≤ _)
    obtain ⟨gn, hgn⟩ : ∃ n, y.length = n := ⟨_, rfl⟩
    have HGN := hid' hgn
    rw [hgn] at HSM ⊢
    clear hans hb2 hgt hgs hcase HGF hgn HXB HBT HTP HGT
    go_wp2_with fail
    refine PT.wp_region_tail 9 (PB.phi [PB.E (.slice xa xn xc), PB.E (.string (strOfNums (l ++ frontB xs))), PB.E (.slice a ln cap), PB.E (.string (strOfNums l)), PB.E (.slice fa fn fc), NewIs (frontB xs), PB.E (.string (strOfNums (frontB xs))), PB.E (.string (strOfNums l ++ strOfNums (frontB xs))), PB.E (.bool false)]) mixed' (by kernel_rfl)
      (PB.phi_lasts _ ⟨PB.E_lasts _, PB.E_lasts _, PB.E_lasts _, PB.E_lasts _, PB.E_lasts _, newIs_lastsB _, PB.E_lasts _, PB.E_lasts _, PB.E_lasts _, trivial⟩) ?_ ?_
    · refine ⟨?_, ?_, ?_, ?_, ?_, ?_, ?_, ?_, ?_, trivial⟩ <;> intro A W hB hS hA hF
      · exact Or.inl (PB.does_move (PB.wanted_free rfl) rfl (hS.slots 5 rfl))
      · exact Or.inl (PB.does_convertOf (PB.wanted_free rfl) rfl (hA 0 rfl) (HCX.out W hB) rfl)
      · exact Or.inl (PB.does_move (PB.wanted_free rfl) rfl (hS.slots 0 rfl))
      · exact Or.inl (PB.does_convertOf (PB.wanted_free rfl) rfl (hA 2 rfl) (HCB.out W hB) rfl)
      · exact Or.inl (PB.does_move (PB.wanted_free rfl) rfl (hS.slots 1 rfl))
      · exact Or.inl (PB.does_call #[.slice fa fn fc] (PB.wanted_free rfl) rfl Try.func24 rfl rfl (by show [PB.slot A 33] = _; rw [show PB.slot A 33 = .slice fa fn fc from (hA 4 rfl)]) (HFR.out W hB))
      · exact Or.inl (PB.does_convert (PB.wanted_free rfl) rfl (newIs_convB (hA 5 rfl)) rfl)
      · exact Or.inl (PB.does_bin (PB.wanted_free rfl) rfl (hA 3 rfl) (hA 6 rfl) (run_addS W _ _ _ _ HSZ.out) rfl)
      · exact Or.inl (PB.does_bin (PB.wanted_free rfl) rfl (hA 1 rfl) (show PB.slot A 36 = .string (strOfNums (l ++ frontB xs)) from (by rw [← str_add]; exact hA 7 rfl)) (run_neqS W _ _ _) rfl)
    · intro A W hB hS hL
      have h_29 : PB.slot A 29 = .slice xa xn xc := hL 0 (by decide)
      have h_30 : PB.slot A 30 = .string (strOfNums (l ++ frontB xs)) := hL 1 (by decide)
      have h_31 : PB.slot A 31 = .slice a ln cap := hL 2 (by decide)
      have h_32 : PB.slot A 32 = .string (strOfNums l) := hL 3 (by decide)
      have h_33 : PB.slot A 33 = .slice fa fn fc := hL 4 (by decide)
      have h_35 : PB.slot A 35 = .string (strOfNums (frontB xs)) := hL 6 (by decide)
      have h_36 : PB.slot A 36 = .string (strOfNums l ++ strOfNums (frontB xs)) := hL 7 (by decide)
      have h_37 : PB.slot A 37 = .bool false := hL 8 (by decide)
      have q_0 : PB.slot A 0 = .slice a ln cap := hS.slots 0 rfl
      have q_1 : PB.slot A 1 = .slice fa fn fc := hS.slots 1 rfl
      have q_5 : PB.slot A 5 = .slice xa xn xc := hS.slots 5 rfl
      have q_6 : PB.slot A 6 = .slice ga gn gc := hS.slots 6 rfl
      have q_7 : PB.slot A 7 = .int .i64 nx := hS.slots 7 rfl
      have q_8 : PB.slot A 8 = .int .i64 er := hS.slots 8 rfl
      have hA := PT.frame_of (A := A) (n := 73) hS.size
      have hd : A.defers = [] := hS.defers
      rw [hd] at hA
      obtain ⟨fr, hf⟩ : ∃ f, PB.slot A = f := ⟨_, rfl⟩
      rw [hf] at hA h_29 h_30 h_31 h_32 h_33 h_35 h_36 h_37 q_0 q_1 q_5 q_6 q_7 q_8
      rw [hA]
      clear hA hf hd hL hS
      simp only [List.range, List.range.loop, List.map_cons, List.map_nil, List.drop_succ_cons, List.drop_zero, h_29, h_30, h_31, h_32, h_33, h_35, h_36, h_37, q_0, q_1, q_5, q_6, q_7, q_8]
      clear h_29 h_30 h_31 h_32 h_33 h_35 h_36 h_37 q_0 q_1 q_5 q_6 q_7 q_8
      have HW := hid' (bel_trans' HB2.out hB)
      have HLV := hid' (live_any)
      rcases HCASE.out with ⟨h16, hy, rfl, rfl⟩ | ⟨h16, hy, rfl, rfl⟩
      · have h16' : ¬ (16 : Int) < (fn : Int) := by rw [HFN.out] at h16; omega
        have HS := hid' (HSM.out hy W hB)
        have hnx : ((l ++ frontB xs).length : Int) = (xn : Int) := by rw [HXN.out]
        rw [hnx]
        clear HSM HCASE HCX HCB HFR h16 hnx hy
        go_wp2_with fail
        refine HS.out.mono ?_
        rintro e w3 ⟨rfl, hb3⟩
        have HB3 := hid' (bel_trans' HW.out hb3)
        clear hb3 HS
        go_wp2_with fail
        refine (code_any 0 _).mono ?_
        rintro e w4 ⟨rfl, rfl⟩
        go_wp2_with fail
        refine (HLV.out _).mono ?_
        rintro e w5 ⟨rfl, hb5⟩
        go_wp2
        go_ret
        exact ⟨rfl, bel_trans' HB3.out hb5⟩
      · have h16' : (16 : Int) < (fn : Int) := by rw [HFN.out] at h16; omega
        have hgn0 : gn = 0 := by rw [← HGN.out, hy]; rfl
        subst hgn0
        clear HSM HCASE HCX HCB HFR h16 hy
        go_wp2_with fail
        refine (code_any 6 _).mono ?_
        rintro e w4 ⟨rfl, rfl⟩
        go_wp2_with fail
        refine (HLV.out _).mono ?_
        rintro e w5 ⟨rfl, hb5⟩
        go_wp2
        go_ret
        exact ⟨rfl, bel_trans' HW.out hb5⟩

end Go.Proofs.Ytgalmkhgbokidaa
