/-
  What is proved here: the law FaultJoins answers true for all numbers, every op and every other number, and writes nothing that was there.
-/
import Derived.Test.YtnpnbhgkcaefnaaDoorJAid
import Derived.Test.YtnpnbhgkcaefnaaDoorVals
namespace Go.Proofs.YtnpnbhgkcaefnaaDoor
open Go.RowKit Go.Extern.Stop Go.Stop Go.Extern
set_option linter.unusedVariables false

theorem live_new (w : World) (hg : Laid w) : Calls Tryd.prog 6 #[] w fun e w' => ∃ v, e = .returned v ∧ Below w.heap.size w w' ∧ E (.bool true) v w' := by
  refine (live_any w hg).mono ?_
  rintro e w' ⟨rfl, hb⟩
  exact ⟨_, rfl, hb, rfl⟩

theorem ops_new_nil (w : World) : Calls Tryd.prog 9 #[.nilIface] w fun e w' => ∃ v, e = .returned v ∧ Below w.heap.size w w' ∧ LenIs 0 v w' := by
  refine (ops_nil w).mono ?_
  rintro e w' ⟨rfl, rfl⟩
  exact ⟨_, rfl, Below.refl _ _, _, _, rfl⟩

theorem ops_new_join (op : ByteArray) (pb : Nat) (w : World) : Calls Tryd.prog 9 #[failJ op pb] w fun e w' => ∃ v, e = .returned v ∧ Below w.heap.size w w' ∧ LenIs 1 v w' := by
  refine (ops_join op pb w).mono ?_
  rintro e w' ⟨a, c, rfl, hb⟩
  exact ⟨_, rfl, hb, a, c, rfl⟩

set_option maxRecDepth 10000 in
set_option maxHeartbeats 4000000 in
theorem joins_walk (w : World) (a : Option Addr) (cap : Nat) (l : List Int) (op : ByteArray) (y : Int) (hs : Its w a l) (hc : l.length ≤ cap) (hm : cap ≤ 9223372036854775807) (hg : Laid w) :
    Calls Tryd.prog 4 #[.slice a l.length cap, .string op, .int .i64 y] w fun e w' => e = .returned (.bool true) ∧ Below w.heap.size w w' := by
  obtain ⟨i0, hi, hz0, hz1, hz2⟩ := info_parts Tryd.info25
  by_cases hlen : 200 < l.length
  · have HL := hid' (live_any w hg)
    clear hs
    go_enter Tryd.func4, Tryd.ntmps4
    go_wp2_with fail
    refine HL.out.mono ?_
    rintro e w8 ⟨rfl, hb8⟩
    have HB8 := hid' hb8
    clear hb8
    go_wp2
    go_ret
    exact ⟨rfl, HB8.out⟩
  · have HS := hid' hs
    clear hs
    go_enter Tryd.func4, Tryd.ntmps4
    go_wp2
    go_loopg [7, 8] l.length (fun k v i wr => ∃ j : Nat, j + k = l.length ∧ i = .int .i64 (j : Int) ∧ wr.ownsRow w.heap.size 25 1 v j ((l.take j).map xV) ∧ Below w.heap.size w wr)
    case atStart => exact ⟨0, by omega, rfl, World.ownsRow_nil _ _ _ _, Below.refl _ _⟩
    case round =>
      obtain ⟨j, hj, rfl, ho, hb⟩ := hrel
      have HO := hid' (And.intro ho hb)
      have HJ := hid' hj
      have hsz := hb.size
      cases gk with
      | zero =>
        have e : j = l.length := by omega
        subst e
        rw [List.take_length] at HO
        obtain ⟨a1, c1, rfl, hc1, he1⟩ := ers_of HO.out.1
        have HF := hid' (fjoin_any wr a1 c1 l he1 hc1 (by omega))
        clear ho hb hj he1
        go_wp2_with fail
        refine HF.out.mono ?_
        rintro e w2 ⟨hor, hb2⟩
        have HB2 := hid' (below_all HO.out.2 (Nat.le_refl _) hb2)
        clear hb2 HF
        rcases hor with ⟨hnz, rfl⟩ | ⟨p, hnz, rfl, hjn⟩
        · have hl200 : l.length ≤ 200 := by omega
          have HN := hid' hnz
          have HW := hid' (wrap_nil op w2)
          have H3 := hid' (some_any w2 a cap l (HS.out.keep HB2.out) hc hl200)
          rw [hnz] at H3
          clear hnz
          go_wp2_with fail
          refine HW.out.mono ?_
          rintro e w3 ⟨rfl, rfl⟩
          go_wp2_with fail
          refine H3.out.mono ?_
          rintro e w4 ⟨v4, rfl, ho4, hb4⟩
          obtain ⟨aW, cW, rfl, hcW, hiW⟩ := shape_of ho4
          have HB4 := hid' (below_all HB2.out (Nat.le_refl _) hb4)
          have HA := hid' (all_nil w4 (hg.keep HB4.out hg.pos))
          clear ho4 hb4 H3 HW hiW
          go_wp2_with fail
          refine HA.out.mono ?_
          rintro e w5 ⟨rfl, hb5⟩
          have HB5 := hid' (below_all HB4.out (Nat.le_refl _) hb5)
          have HK := hid' (code_nil w5 (hg.keep HB5.out hg.pos))
          clear hb5 HA
          go_wp2_with fail
          refine HK.out.mono ?_
          rintro e w6 ⟨rfl, hb6⟩
          have HB6 := hid' (below_all HB5.out (Nat.le_refl _) hb6)
          have HF1 := hid' (first_any w6 a cap l (HS.out.keep HB6.out) hc hl200)
          rw [HN.out] at HF1
          clear hb6 HK
          go_wp2_with fail
          refine HF1.out.mono ?_
          rintro e w7 ⟨rfl, rfl⟩
          have HI := hid' (is_of .nilIface (.inl rfl) y false (isNum_nil y) w7)
          clear HF1
          go_wp2_with fail
          refine HI.out.mono ?_
          rintro e w8 ⟨rfl, hb8⟩
          have HB8 := hid' (below_all HB6.out (Nat.le_refl _) hb8)
          have HH := hid' (has_any w8 a cap l y (HS.out.keep HB8.out) hc hl200)
          rw [HN.out] at HH
          clear hb8 HI
          go_wp2_with fail
          refine HH.out.mono ?_
          rintro e w9 ⟨rfl, rfl⟩
          clear HH
          go_wp2
          refine wp_loop_rounds 1 ?_
          rw [rounds_succ]
          go_wp2
          refine wp_region_plan (phi [E .nilIface, E (.bool true), E .nilIface, LenIs 0, E (.int .i64 0), E (.bool true), E (.bool true), E (.bool true), E (.bool true), E (.bool true), E (.bool true)]) (by kernel_rfl) (by kernel_rfl)
            (phi_lasts _ ⟨E_lasts _, E_lasts _, E_lasts _, lenIs_lasts _, E_lasts _, E_lasts _, E_lasts _, E_lasts _, E_lasts _, E_lasts _, E_lasts _, trivial⟩) ?_ ?_
          · refine ⟨?_, ?_, ?_, ?_, ?_, ?_, ?_, ?_, ?_, ?_, ?_, trivial⟩ <;> intro A W hB hS hA
            · exact does_move (wanted_free rfl) rfl (hS.slots 9 rfl)
            · exact does_bin2 (wanted_free rfl) rfl (hA 0 rfl) rfl (run_eq_nil W _) rfl
            · exact does_move (wanted_free rfl) rfl (hS.slots 9 rfl)
            · exact does_call #[.nilIface] (wanted_free rfl) rfl Tryd.func9 rfl rfl (congrArg (fun x => [x]) (hA 2 rfl)) (ops_new_nil W)
            · obtain ⟨a', c', hv⟩ := hA 3 rfl
              exact does_run (wanted_free rfl) (run_len22 W hv) rfl
            · exact does_bin2 (wanted_free rfl) rfl (hA 4 rfl) rfl (run_eq_int0 W 0 _ _) rfl
            · exact does_bin (wanted_free rfl) rfl (hA 1 rfl) (hA 5 rfl) (run_eq_bool W true _ _) rfl
            · exact does_move (wanted_free rfl) rfl (hA 6 rfl)
            · exact does_call #[] (wanted_by rfl rfl (hA 7 rfl)) rfl Tryd.func6 rfl rfl rfl (live_new W (hg.keep (HB8.out.trans (hB.mono HB8.out.size)) hg.pos))
            · exact does_pick (wanted_free rfl) rfl (hA 7 rfl) (hA 8 rfl)
            · exact does_assign (wanted_free rfl) rfl (hA 9 rfl)
          · intro A W hB hS hL
            have h29 : slot A 6 = .bool true := hL 10 (by decide)
            obtain ⟨tmps, defers⟩ := A
            have hd : defers = [] := hS.defers
            subst hd
            go_wp2
            go_ret
            exact ⟨congrArg Ending.returned h29, HB8.out.trans (hB.mono HB8.out.size)⟩
        · have hl200 : l.length ≤ 200 := by omega
          have hn200 : (nz l).length ≤ 200 := by have := nz_le l; omega
          have HJN := hid' hjn
          obtain ⟨z0, zr, hzr⟩ : ∃ z0 zr, nz l = z0 :: zr := by
            cases h : nz l with
            | nil => exact absurd h hnz
            | cons z0 zr => exact ⟨z0, zr, rfl⟩
          have HW := hid' (wrap_some op 60 (.pointer (some ⟨p, 0, none⟩)) w2)
          rw [show failV op (.iface 60 (.pointer (some ⟨p, 0, none⟩))) = failJ op p from rfl] at HW
          have H3 := hid' (some_any w2 a cap l (HS.out.keep HB2.out) hc hl200)
          have HF0 := hid' (fun W h => first_any W a cap l h hc hl200)
          have HH0 := hid' (fun W h => has_any W a cap l y h hc hl200)
          have hhd : (nz l).headD 0 = z0 := by rw [hzr]; rfl
          rw [hhd] at HF0
          have hpos : 0 < (nz l).length := by rw [hzr]; simp
          generalize nz l = zs at HJN HO H3 HF0 HH0 hzr hhd hpos hn200 hjn hnz
          have HK0 := hid' (fun W h1 h2 => code_join op p z0 zr W h1 h2)
          rw [← hzr] at HK0
          have HI0 := hid' (fun x W h => is_join op p zs (by omega) x W h)
          have HA0 := hid' (fun W h1 h2 => all_join op p zs hpos (by omega) W h1 h2)
          clear hhd hzr hjn hnz
          obtain ⟨n, hn⟩ : ∃ n, zs.length = n := ⟨_, rfl⟩
          have HNn := hid' hn
          have HPos := hid' hpos
          rw [hn] at hpos hn200
          have hn0 : ¬ n = 0 := by omega
          clear hn
          go_wp2_with fail
          refine HW.out.mono ?_
          rintro e w3 ⟨rfl, rfl⟩
          clear HW
          go_wp2_with fail
          refine H3.out.mono ?_
          rintro e w4 ⟨v4, rfl, ho4, hb4⟩
          obtain ⟨aW, cW, rfl, hcW, hiW⟩ := shape_of ho4
          rw [HNn.out] at hcW ⊢
          have HIW4 := hid' hiW
          have HB4 := hid' (below_all HB2.out (Nat.le_refl _) hb4)
          have HJN4 := hid' (joinAt_stays p zs _ _ HJN.out hb4)
          have HA := hid' (HA0.out w4 (hg.keep HB4.out hg.pos) HJN4.out)
          have HOP := hid' (fun W => ops_new_join op p W)
          obtain ⟨vJ, hvJ⟩ : ∃ v, failJ op p = .iface 53 v := ⟨_, rfl⟩
          rw [hvJ] at HK0 HI0 HA HOP ⊢
          clear ho4 hb4 H3 hiW HA0 HJN hvJ
          go_wp2_with fail
          refine HA.out.mono ?_
          rintro e w5 ⟨v5, rfl, ho5, hb5⟩
          obtain ⟨aA, cA, rfl, hcA, hiA⟩ := shape_of ho5
          rw [HNn.out] at hcA ⊢
          have HIA5 := hid' hiA
          have HIW5 := hid' (HIW4.out.keep hb5)
          have HB5 := hid' (below_all HB4.out (Nat.le_refl _) hb5)
          have HJN5 := hid' (joinAt_stays p zs _ _ HJN4.out hb5)
          have HK := hid' (HK0.out w5 (hg.keep HB5.out hg.pos) HJN5.out)
          clear hb5 HA HK0 HIW4 HJN4 ho5 hiA
          go_wp2_with fail
          refine HK.out.mono ?_
          rintro e w6 ⟨rfl, hb6⟩
          have HIA6 := hid' (HIA5.out.keep hb6)
          have HIW6 := hid' (HIW5.out.keep hb6)
          have HB6 := hid' (below_all HB5.out (Nat.le_refl _) hb6)
          have HJN6 := hid' (joinAt_stays p zs _ _ HJN5.out hb6)
          have HF1 := hid' (HF0.out w6 (HS.out.keep HB6.out))
          clear hb6 HK HF0 HIA5 HIW5 HJN5
          go_wp2_with fail
          refine HF1.out.mono ?_
          rintro e w7 ⟨rfl, rfl⟩
          have HI := hid' (HI0.out y w7 HJN6.out)
          clear HF1
          go_wp2_with fail
          refine HI.out.mono ?_
          rintro e w8 ⟨rfl, hb8⟩
          have HIA8 := hid' (HIA6.out.keep hb8)
          have HIW8 := hid' (HIW6.out.keep hb8)
          have HB8 := hid' (below_all HB6.out (Nat.le_refl _) hb8)
          have HJN8 := hid' (joinAt_stays p zs _ _ HJN6.out hb8)
          have HH := hid' (HH0.out w8 (HS.out.keep HB8.out))
          clear hb8 HI HH0 HIA6 HIW6 HJN6
          go_wp2_with fail
          refine HH.out.mono ?_
          rintro e w9 ⟨rfl, rfl⟩
          clear HH
          have hzne : zs ≠ [] := by intro e; have h := HPos.out; rw [e] at h; simp at h
          obtain ⟨bA, oA, rfl, hA9⟩ := HIA8.out hzne
          obtain ⟨bW, oW, rfl, hW9⟩ := HIW8.out hzne
          have HA9 := hid' hA9
          have HW9 := hid' hW9
          clear HIA8 HIW8 hzne hA9 hW9
          generalize zs.any (fun x => x == y) = bq
          go_wp2
          go_loopg [12] n (fun k i wr => ∃ j : Nat, j + k = n ∧ i = .int .i64 (j : Int) ∧ Below w9.heap.size w9 wr)
          case atStart => exact ⟨0, by omega, rfl, Below.refl _ _⟩
          case round =>
            obtain ⟨j, hj, rfl, hbr⟩ := hrel
            have HBR := hid' hbr
            have HJ2 := hid' hj
            cases gk with
            | zero =>
              have hjl : ¬ j < n := by omega
              have HB10 := hid' (HB8.out.trans (hbr.mono HB8.out.size))
              clear hbr hj
              go_wp2
              refine wp_region_plan (phi [E (.iface 53 vJ), E (.bool false), E (.iface 53 vJ), LenIs 1, E (.int .i64 1), E (.bool false), E (.bool true), E (.bool true), E (.bool true), E (.bool true), E (.bool true)]) (by kernel_rfl) (by kernel_rfl)
                (phi_lasts _ ⟨E_lasts _, E_lasts _, E_lasts _, lenIs_lasts _, E_lasts _, E_lasts _, E_lasts _, E_lasts _, E_lasts _, E_lasts _, E_lasts _, trivial⟩) ?_ ?_
              · refine ⟨?_, ?_, ?_, ?_, ?_, ?_, ?_, ?_, ?_, ?_, ?_, trivial⟩ <;> intro A W hB hS hA
                · exact does_move (wanted_free rfl) rfl (hS.slots 9 rfl)
                · exact does_bin2 (wanted_free rfl) rfl (hA 0 rfl) rfl (run_eq_fail W vJ _) rfl
                · exact does_move (wanted_free rfl) rfl (hS.slots 9 rfl)
                · exact does_call #[(.iface 53 vJ)] (wanted_free rfl) rfl Tryd.func9 rfl rfl (congrArg (fun x => [x]) (hA 2 rfl)) (HOP.out W)
                · obtain ⟨a', c', hv⟩ := hA 3 rfl
                  exact does_run (wanted_free rfl) (run_len22 W hv) rfl
                · exact does_bin2 (wanted_free rfl) rfl (hA 4 rfl) rfl (run_eq_int0 W 1 _ _) rfl
                · exact does_bin (wanted_free rfl) rfl (hA 1 rfl) (hA 5 rfl) (run_eq_bool W false _ _) rfl
                · exact does_move (wanted_free rfl) rfl (hA 6 rfl)
                · exact does_call #[] (wanted_by rfl rfl (hA 7 rfl)) rfl Tryd.func6 rfl rfl rfl (live_new W (hg.keep (HB10.out.trans (hB.mono HB10.out.size)) hg.pos))
                · exact does_pick (wanted_free rfl) rfl (hA 7 rfl) (hA 8 rfl)
                · exact does_assign (wanted_free rfl) rfl (hA 9 rfl)
              · intro A W hB hS hL
                have h29 : slot A 6 = .bool true := hL 10 (by decide)
                obtain ⟨tmps, defers⟩ := A
                have hd : defers = [] := hS.defers
                subst hd
                go_wp2
                go_ret
                exact ⟨congrArg Ending.returned h29, HB10.out.trans (hB.mono HB10.out.size)⟩
            | succ k =>
              have hjl : j < n := by omega
              have hjz : j < zs.length := by rw [HNn.out]; exact hjl
              have HcA : Hid (∀ W : World, Below wr.heap.size wr W → W.cell? ⟨bA, oA + j, none⟩ = some (.int .i64 (zs.getD j 0))) := fun W hW => by
                have h1 := (hbr.cell (lt_of_cell (HA9.out j hjz))).trans (HA9.out j hjz)
                exact (hW.cell (lt_of_cell h1)).trans h1
              have HcW : Hid (∀ W : World, Below wr.heap.size wr W → W.cell? ⟨bW, oW + j, none⟩ = some (.int .i64 (zs.getD j 0))) := fun W hW => by
                have h1 := (hbr.cell (lt_of_cell (HW9.out j hjz))).trans (HW9.out j hjz)
                exact (hW.cell (lt_of_cell h1)).trans h1
              have HIs : Hid (∀ W : World, Below wr.heap.size wr W → Calls Tryd.prog 11 #[.iface 53 vJ, .int .i64 (zs.getD j 0)] W fun e w' => ∃ v, e = .returned v ∧ Below W.heap.size W w' ∧ E (.bool true) v w') := fun W hW => by
                refine (HI0.out (zs.getD j 0) W (joinAt_stays p zs _ _ (joinAt_stays p zs _ _ HJN8.out hbr) hW)).mono ?_
                rintro e w' ⟨rfl, hb⟩
                exact ⟨_, rfl, hb, congrArg Value.bool (any_getD hjz rfl)⟩
              generalize zs.getD j 0 = z at HcA HcW HIs
              clear hbr hj hjz
              go_wp2_with fail
              refine wp_region_vals [.slice (some ⟨bA, oA, none⟩) n cA, .int .i64 (j : Int), .pointer (some ⟨bA, oA + j, none⟩), .int .i64 z, .slice (some ⟨bW, oW, none⟩) n cW, .int .i64 (j : Int), .pointer (some ⟨bW, oW + j, none⟩), .int .i64 z, .bool false, .bool false,
                  .iface 53 vJ, .slice (some ⟨bA, oA, none⟩) n cA, .int .i64 (j : Int), .pointer (some ⟨bA, oA + j, none⟩), .int .i64 z, .bool true, .bool false, .bool false] (by kernel_rfl) (by kernel_rfl) rfl ?_ ?_
              · refine ⟨?_, ?_, ?_, ?_, ?_, ?_, ?_, ?_, ?_, ?_, ?_, ?_, ?_, ?_, ?_, ?_, ?_, ?_, trivial⟩ <;> intro A W hB hS hA
                · exact does_move (wanted_free rfl) rfl (hS.slots 11 rfl)
                · exact does_move (wanted_free rfl) rfl (hS.slots 12 rfl)
                · exact does_run (wanted_free rfl) (run_index W (hA 0 rfl) (hA 1 rfl) hjl (.inl rfl)) rfl
                · exact does_run (wanted_free rfl) (run_load W (hA 2 rfl) (HcA.out W hB) (.inl rfl)) rfl
                · exact does_move (wanted_free rfl) rfl (hS.slots 10 rfl)
                · exact does_move (wanted_free rfl) rfl (hS.slots 12 rfl)
                · exact does_run (wanted_free rfl) (run_index W (hA 4 rfl) (hA 5 rfl) hjl (.inr rfl)) rfl
                · exact does_run (wanted_free rfl) (run_load W (hA 6 rfl) (HcW.out W hB) (.inr rfl)) rfl
                · exact does_bin (wanted_free rfl) rfl (hA 3 rfl) (hA 7 rfl) (run_neq_same W z _ _) rfl
                · exact does_move (wanted_free rfl) rfl (hA 8 rfl)
                · exact does_move (wanted_by rfl rfl (hA 9 rfl)) rfl (hS.slots 9 rfl)
                · exact does_move (wanted_by rfl rfl (hA 9 rfl)) rfl (hS.slots 11 rfl)
                · exact does_move (wanted_by rfl rfl (hA 9 rfl)) rfl (hS.slots 12 rfl)
                · exact does_run (wanted_by rfl rfl (hA 9 rfl)) (run_index W (hA 11 rfl) (hA 12 rfl) hjl (.inl rfl)) rfl
                · exact does_run (wanted_by rfl rfl (hA 9 rfl)) (run_load W (hA 13 rfl) (HcA.out W hB) (.inl rfl)) rfl
                · exact does_call #[.iface 53 vJ, .int .i64 z] (wanted_by rfl rfl (hA 9 rfl)) rfl Tryd.func11 rfl rfl (congr (congrArg (fun x y => [x, y]) (hA 10 rfl)) (hA 14 rfl)) (HIs.out W hB)
                · exact does_run (wanted_by rfl rfl (hA 9 rfl)) (run_not W (hA 15 rfl)) rfl
                · exact does_pick_no (wanted_free rfl) rfl (hA 9 rfl) (hA 16 rfl)
              · intro W hB
                have HBW := hid' (HBR.out.trans (hB.mono HBR.out.size))
                clear hB
                simp only [putAll, Act.put, List.setIfInBounds_toArray, List.set_cons_succ, List.set_cons_zero]
                go_wp2
                go_roundg k
                case measure => omega
                case rel => exact ⟨j + 1, by have := HJ2.out; omega, by go_num, HBW.out⟩
      | succ k =>
        have hjl : j < l.length := by omega
        have hjc : j < cap := by omega
        obtain ⟨b, off, rfl, hcell⟩ := HS.out.keep hb (by intro e; rw [e] at hjl; simp at hjl)
        have hblt := lt_of_cell (hcell j hjl)
        have hcx := hcell j hjl
        have HT := hid' (take_succ_getD l j hjl)
        clear hcell hj ho hb
        generalize l.getD j 0 = z at hcx HT
        have HC := hid' (chain_any (wr.alloc (.cells #[.string ⟨#[120]⟩] 9)) (some ⟨wr.heap.size, 0, none⟩) 1 [⟨#[120]⟩] z (fun _ => ⟨wr.heap.size, 0, rfl, by simp, fun i hi => by
          match i, hi with
          | 0, _ => simp
          | i + 1, hi => simp at hi⟩) (by simp) (by simp))
        rw [chainV_x] at HC
        go_wp2_with fail
        refine HC.out.mono ?_
        rintro e w2 ⟨rfl, rfl⟩
        have HO2 := hid' (And.intro (World.ownsRow.alloc HO.out.1 (.cells #[.string ⟨#[120]⟩] 9)) (HO.out.2.alloc hsz (.cells #[.string ⟨#[120]⟩] 9)))
        clear HO HC
        have hx : (xV z = .nilIface) ∨ (xV z = .iface 53 (.agg #[.string ⟨#[120]⟩, .iface 27 (.int .i64 z)])) := by
          unfold xV
          by_cases hz : z = 0
          · rw [if_pos hz]; exact .inl rfl
          · rw [if_neg hz]; exact .inr rfl
        have hone := one_err z
        rcases hx with hx | hx
        all_goals
          rw [hx] at hone ⊢
          have HX := hid' hx
          clear hx
          go_wp2_with (at_builtin; refine wpList_append_own _ rfl (.tmp 23) (.tmp 30) 36 rfl w.heap.size 25 i0 .nilIface 1 16 Tryd.underlying36 hi hz0 hz1 hz2 rfl (by decide) _ _ _ rfl (World.ownsRow.alloc HO2.out.1 _) ⟨wr.heap.size + 1, 0, none⟩ 1 1 [_] rfl rfl (by simpa using one_cell (wr.alloc (.cells #[.string ⟨#[120]⟩] 9)) _ 25) hone (by unfold maxLen; omega) (by omega) (by simp; omega) ?_; intro v' w4 hown4 hgrow4 hnil4)
          have ho4 : w4.ownsRow w.heap.size 25 1 v' (j + 1) ((l.take (j + 1)).map xV) := by
            rw [HT.out, List.map_append, List.map_singleton, HX.out]
            exact hown4
          have HO4 := hid' (And.intro ho4 (grown_below HO2.out.2 (Nat.le_refl _) HO2.out.1 hgrow4))
          clear ho4 hown4 hgrow4 hnil4
          go_roundg k
          case measure => omega
          case rel => exact ⟨j + 1, by have := HJ.out; omega, by go_num, HO4.out.1, HO4.out.2⟩
end Go.Proofs.YtnpnbhgkcaefnaaDoor
