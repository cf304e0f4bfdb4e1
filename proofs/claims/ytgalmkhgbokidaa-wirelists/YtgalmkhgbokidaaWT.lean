/-
  What is proved here: the document's Get of rows.
-/
import Derived.Test.YtgalmkhgbokidaaWS
namespace Go.Proofs.Ytgalmkhgbokidaa
open Go.RowKit Go.Proofs
set_option maxRecDepth 20000
set_option linter.unusedVariables false
set_option linter.unusedSimpArgs false

theorem oneV (x : V) : ∀ u ∈ cV x, u.oneCell' = true := by
  intro u hu
  simp [cV] at hu
  rcases hu with rfl | rfl | rfl <;> rfl

def ogInv (w : World) (l : List Int) (at0 n k : Nat) (nx r i : Value) (wr : World) : Prop :=
  ∃ (done : List V) (nxt : Nat), done.length + k = n ∧ i = .int .i64 (done.length : Int) ∧ nx = .int .i64 (nxt : Int) ∧ nxt ≤ l.length ∧ OwnL 78 3 cV w.heap.size wr r done ∧ RdL valB VN 16 n (some (l.drop at0)) done (some (l.drop nxt)) ∧ Below w.heap.size w wr

set_option maxHeartbeats 8000000 in
theorem oGet_any (w : World) (ba : Option Addr) (cap : Nat) (l : List Int) (at' : Int) (hb : Bts w.heap.size w ba l) (hc : l.length ≤ cap) (hl : l.length ≤ 1000000000) :
    Calls Try.prog 47 #[.slice ba l.length cap, .int .i64 at'] w (GAns rowB (LD 16 VN) RepVs [] l at' w) := by
  obtain ⟨i0, hi, hz0, hz1, hz2⟩ := info_parts Try.infoVal
  have HG := hid' (rget_any w ba cap l at' hb hc hl)
  have HGI := hid' (fun W (hW : Below w.heap.size w W) (p : Int) => rgetInt_any W ba cap l p ((hb.keep hW).mono hW.size) hc hl)
  have HGT := hid' (fun W (hW : Below w.heap.size w W) (p : Int) => rgetText_any W ba cap l p 4096 ((hb.keep hW).mono hW.size) hc hl (by omega))
  have HBT := hid' hb
  have HOUT : Hid (∀ W, Below w.heap.size w W → (at' < 0 ∨ (l.length : Int) < at') → GAns rowB (LD 16 VN) RepVs [] l at' w (.returned (.tuple #[.slice none 0 0, .int .i64 0, .int .i64 9])) W) := fun W hW h => ⟨[], _, 0, 9, rfl, RepVs.nil _ _, hW, .inl ⟨h, rfl, rfl, rfl⟩⟩
  have HNO : Hid (∀ W, 0 ≤ at' → at' ≤ l.length → Below w.heap.size w W → (∀ y r, LD 16 VN y → l.drop at'.toNat ≠ rowB y ++ r) → GAns rowB (LD 16 VN) RepVs [] l at' w (.returned (.tuple #[.slice none 0 0, .int .i64 0, .int .i64 6])) W) := fun W h1 h2 h3 h4 => ⟨[], _, 0, 6, rfl, RepVs.nil _ _, h3, .inr (.inr ⟨h1, h2, rfl, rfl, rfl, h4⟩)⟩
  have HOK : Hid (∀ (x : List V) (v : Value) (nx : Nat) W, 0 ≤ at' → at' ≤ l.length → Below w.heap.size w W → OwnL 78 3 cV w.heap.size W v x → LD 16 VN x → l.drop at'.toNat = rowB x ++ l.drop nx → nx ≤ l.length → GAns rowB (LD 16 VN) RepVs [] l at' w (.returned (.tuple #[v, .int .i64 (nx : Int), .int .i64 0])) W) := fun x v nx W g1 g2 h1 h2 h4 h5 h6 => by
    obtain ⟨a, c, rfl, hs, hsh⟩ := SP.of_owns (d := d0) cV_len h2
    exact ⟨x, _, nx, 0, rfl, ⟨_, c, rfl, hs, hsh⟩, h1, .inr (.inl ⟨g1, g2, rfl, h4, by simpa using h5, by simp, by simpa using h6⟩)⟩
  obtain ⟨ln, hln⟩ : ∃ n, l.length = n := ⟨_, rfl⟩
  rw [hln] at HG HGI HGT ⊢
  have HLN := hid' hln
  clear hb hln
  go_enter Try.func47, Try.ntmps47
  go_wp2_with fail
  refine HG.out.mono ?_
  rintro e w1 ⟨⟨n, next, er, rfl, hrel⟩, hb1⟩
  have HB1 := hid' hb1
  clear HG hb1
  rcases getRel_out hrel with ⟨rfl, hout⟩ | ⟨h9, hlo, hhi, her⟩
  · have HZ := hid' (HOUT.out w1 HB1.out hout)
    clear HOUT HNO HOK HGI HGT hrel
    go_wp2
    go_ret3
    exact HZ.out
  · obtain ⟨at0, rfl⟩ := Int.eq_ofNat_of_zero_le hlo
    have hat : at0 ≤ l.length := by omega
    rw [Int.toNat_natCast] at HNO HOK
    rcases her with rfl | rfl
    · obtain ⟨y1, y2, y3, y4, y5⟩ := get_yes hrel
      obtain ⟨m, rfl⟩ := Int.eq_ofNat_of_zero_le y2
      rw [Int.toNat_natCast] at y1
      obtain ⟨nxt, rfl⟩ := Int.eq_ofNat_of_zero_le (show 0 ≤ next by omega)
      rw [Int.toNat_natCast] at y1 y5
      have HRD : Hid (Rd bytesOf U64 (some (l.drop at0)) m (some (l.drop nxt))) := (⟨by unfold U64; omega, y1⟩ : _ ∧ _)
      clear y1 hrel HOUT y4
      by_cases hmany : 16 < m
      · have HZ := hid' (HNO.out w1 hlo hhi HB1.out (num_many HRD.out hmany (by omega)))
        have hm' : (16 : Int) < (m : Int) := by omega
        clear HNO HOK HGI HGT HRD
        go_wp2
        go_ret3
        exact HZ.out
      · have hm' : ¬ (16 : Int) < (m : Int) := by omega
        have H0 : Hid (ogInv w l at0 m m (.int .i64 (nxt : Int)) (.slice none 0 0) (.int .i64 0) w1) := ⟨[], nxt, by simp, rfl, rfl, y5, OwnL.nil, RdL.start (num_few HRD.out (by omega)), HB1.out⟩
        have HI : Hid (∀ k nx r i wr, ogInv w l at0 m k nx r i wr → ∃ (done : List V) (nxt : Nat), done.length + k = m ∧ i = .int .i64 (done.length : Int) ∧ nx = .int .i64 (nxt : Int) ∧ nxt ≤ l.length ∧ OwnL 78 3 cV w.heap.size wr r done ∧ RdL valB VN 16 m (some (l.drop at0)) done (some (l.drop nxt)) ∧ Below w.heap.size w wr) := fun k nx r i wr h => h
        clear HRD y5
        go_wp2
        go_loopg [8, 10, 11] m (fun k nx r i wr => ogInv w l at0 m k nx r i wr)
        case atStart => exact H0.out
        case round =>
          obtain ⟨done, nxt, hj, rfl, rfl, hnx, hown, hrl, hbel⟩ := HI.out _ _ _ _ _ hrel
          clear hrel H0
          cases gk with
          | zero =>
            have hdn : done.length = m := by omega
            have hrd := hrl.done (.inr hdn)
            have HZ := hid' (HOK.out done _ nxt wr hlo hhi hbel hown hrd.1 hrd.2 hnx)
            clear HNO HOK HGI HGT hown hrl hbel hrd
            rw [hdn]
            go_wp2
            go_ret3
            exact HZ.out
          | succ k =>
            have hlt : done.length < m := by omega
            have HOW := hid' hown
            have HRL := hid' hrl
            have HBE := hid' hbel
            have HNOV : Hid ((∀ y r, VN y → l.drop nxt ≠ valB y ++ r) → ∀ y r, LD 16 VN y → l.drop at0 ≠ rowB y ++ r) := fun h => HRL.out.push (x := d0) (s2 := none) pf_val hlt h
            clear hown hrl hbel
            by_cases hend : nxt = l.length
            · have HZ := hid' (HNO.out wr hlo hhi HBE.out (HNOV.out (val_no_end hend)))
              have hend' : (nxt : Int) ≥ (ln : Int) := by have := HLN.out; omega
              clear HNO HOK HGI HGT HRL HNOV HOW
              go_wp2
              go_ret3
              exact HZ.out
            · have hlt2 : nxt < l.length := by omega
              obtain ⟨b, off, hba, hcell, h0, h1⟩ := (HBT.out.keep HBE.out).byte hlt2
              have hlt2' : ¬ (nxt : Int) ≥ (ln : Int) := by have := HLN.out; omega
              have hixl : nxt < ln := by have := HLN.out; omega
              by_cases hbig : 1 < l.getD nxt 0
              · have HZ := hid' (HNO.out wr hlo hhi HBE.out (HNOV.out (val_no_kind hlt2 (by omega) (by omega))))
                clear HNO HOK HGI HGT HRL HNOV HOW
                subst hba
                generalize l.getD nxt 0 = d at *
                go_wp2
                go_ret3
                exact HZ.out
              · have hbig' : ¬ 1 < l.getD nxt 0 := hbig
                have hk01 : l.getD nxt 0 = 0 ∨ l.getD nxt 0 = 1 := by omega
                have ec : ((nxt + 1 : Nat) : Int) = (nxt : Int) + 1 := by simp
                rcases hk01 with hk | hk
                · rw [hk] at hcell
                  have BA : Below wr.heap.size wr (wr.alloc (.cells #[.int .i64 0, .int .i64 0, .string ⟨#[]⟩] 78)) := (Below.refl _ _).alloc (Nat.le_refl _) _
                  have HC := hid' (HGI.out _ (bel_trans' HBE.out BA) ((nxt : Int) + 1))
                  have X0 := Bx.new wr #[.int .i64 0, .int .i64 0, .string ⟨#[]⟩] 78
                  have HX0 := hid' X0
                  have HBA := hid' BA
                  clear BA X0 hbig h0 h1 HGI HGT
                  subst hba
                  go_wp2_with fail
                  refine HC.out.mono ?_
                  rintro e w3 ⟨⟨n, next, er, rfl, hrel⟩, hb3⟩
                  have X3 := HX0.out.keep hb3
                  have c0' : w3.cell? ⟨wr.heap.size, 0, none⟩ = some (.int .i64 0) := X3.cell 0
                  have c1' : w3.cell? ⟨wr.heap.size, 1, none⟩ = some (.int .i64 0) := X3.cell 1
                  have c2' : w3.cell? ⟨wr.heap.size, 2, none⟩ = some (.string ⟨#[]⟩) := X3.cell 2
                  have f1' := X3.frozen 1
                  have X4 : Bx (w3.setCell ⟨wr.heap.size, 1, none⟩ (.int .i64 (unzig n))) wr.heap.size #[.int .i64 0, .int .i64 (unzig n), .string ⟨#[]⟩] 78 := X3.setCell (i := 1) (v := .int .i64 (unzig n))
                  have q0 : (w3.setCell ⟨wr.heap.size, 1, none⟩ (.int .i64 (unzig n))).cell? ⟨wr.heap.size, 0, none⟩ = some (.int .i64 0) := X4.cell 0
                  have q1 : (w3.setCell ⟨wr.heap.size, 1, none⟩ (.int .i64 (unzig n))).cell? ⟨wr.heap.size, 1, none⟩ = some (.int .i64 (unzig n)) := X4.cell 1
                  have q2 : (w3.setCell ⟨wr.heap.size, 1, none⟩ (.int .i64 (unzig n))).cell? ⟨wr.heap.size, 2, none⟩ = some (.string ⟨#[]⟩) := X4.cell 2
                  have hW3 : Below wr.heap.size wr (w3.setCell ⟨wr.heap.size, 1, none⟩ (.int .i64 (unzig n))) := (bel_trans' HBA.out hb3).setCell (p := ⟨wr.heap.size, 1, none⟩) (Nat.le_refl _) _
                  obtain ⟨x, hx, hgot⟩ := got_val0 hlt2 hk (by rw [ec]; exact hrel) w3
                  have hxe : x = (0, unzig n, ⟨#[]⟩) := by
                    unfold RepVal at hx
                    obtain ⟨x0, x1, x2⟩ := x
                    simp at hx
                    simp [hx.1, hx.2.1, hx.2.2]
                  subst hxe
                  rcases hgot with ⟨rfl, hD, hdr, hnn, hnl⟩ | ⟨her, hno⟩
                  · obtain ⟨nx3, rfl⟩ := Int.eq_ofNat_of_zero_le (show 0 ≤ next by omega)
                    rw [Int.toNat_natCast] at hdr hnl
                    have BA5 : Below (w3.setCell ⟨wr.heap.size, 1, none⟩ (.int .i64 (unzig n))).heap.size (w3.setCell ⟨wr.heap.size, 1, none⟩ (.int .i64 (unzig n))) ((w3.setCell ⟨wr.heap.size, 1, none⟩ (.int .i64 (unzig n))).alloc (.cells #[.int .i64 0, .int .i64 (unzig n), .string ⟨#[]⟩] 78)) := (Below.refl _ _).alloc (Nat.le_refl _) _
                    have HO5 := hid' ((HOW.out.below hW3).below BA5)
                    have HB5 := hid' (bel_trans' (bel_trans' HBE.out hW3) BA5)
                    have HX5 := hid' (Bx.new (w3.setCell ⟨wr.heap.size, 1, none⟩ (.int .i64 (unzig n))) #[.int .i64 0, .int .i64 (unzig n), .string ⟨#[]⟩] 78)
                    have HPUSH : Hid (∀ v' w', OwnL 78 3 cV w.heap.size w' v' (done ++ [(0, unzig n, ⟨#[]⟩)]) → Below w.heap.size w w' → ogInv w l at0 m k (.int .i64 (nx3 : Int)) v' (.int .i64 ((done.length : Int) + 1)) w') := fun v' w' g1 g2 => ⟨done ++ [(0, unzig n, ⟨#[]⟩)], nx3, by simp; omega, by simp, rfl, hnl, g1, HRL.out.push pf_val hlt ⟨hD, hdr⟩, g2⟩
                    clear HC HX0 HBA X3 X4 hW3 hrel hb3 hD hdr hnn hnl HRL HNOV BA5 HOW hx
                    generalize unzig n = un at *
                    rw [World.size_setCell] at HX5
                    go_wp2_with (at_builtin; refine wpList_app1 24 78 3 32 _ i0 cV cV_len oneV rfl (.tmp 83) (.tmp 85) rfl Try.underlying24 hi hz0 hz1 hz2 rfl (by omega) w.heap.size u10 done rfl HO5.out w3.heap.size 1 (0, un, ⟨#[]⟩) rfl HX5.out (by omega) (by omega) HB5.out.size ?_; intro v' w6 hown6 hgr6)
                    have H3 := hid' (HPUSH.out v' w6 hown6 (grown_below (w0 := 0) HB5.out hgr6 HO5.out HB5.out.size))
                    clear hown6 hgr6 HPUSH HO5 HB5 HX5
                    generalize hdl : done.length = dl at *
                    go_wp2
                    go_roundg k
                    case measure => omega
                    case rel => exact H3.out
                  · have HZ := hid' (HNO.out _ hlo hhi (bel_trans' HBE.out hW3) (HNOV.out hno))
                    have her' : (er != 0) = true := by simpa using her
                    clear HC HX0 HBA X3 X4 hW3 hrel hb3 hno HRL HNOV HOW hx HNO HOK
                    generalize unzig n = un at *
                    go_wp2
                    go_ret3
                    exact HZ.out
                · rw [hk] at hcell
                  have BA : Below wr.heap.size wr (wr.alloc (.cells #[.int .i64 1, .int .i64 0, .string ⟨#[]⟩] 78)) := (Below.refl _ _).alloc (Nat.le_refl _) _
                  have HC := hid' (HGT.out _ (bel_trans' HBE.out BA) ((nxt : Int) + 1))
                  have X0 := Bx.new wr #[.int .i64 1, .int .i64 0, .string ⟨#[]⟩] 78
                  have HX0 := hid' X0
                  have HBA := hid' BA
                  clear BA X0 hbig h0 h1 HGI HGT
                  subst hba
                  go_wp2_with fail
                  refine HC.out.mono ?_
                  rintro e w3 ⟨⟨sx, next, er, rfl, hrel⟩, hb3⟩
                  have X3 := HX0.out.keep hb3
                  have c0' : w3.cell? ⟨wr.heap.size, 0, none⟩ = some (.int .i64 1) := X3.cell 0
                  have c1' : w3.cell? ⟨wr.heap.size, 1, none⟩ = some (.int .i64 0) := X3.cell 1
                  have c2' : w3.cell? ⟨wr.heap.size, 2, none⟩ = some (.string ⟨#[]⟩) := X3.cell 2
                  have f1' := X3.frozen 2
                  have X4 : Bx (w3.setCell ⟨wr.heap.size, 2, none⟩ (.string (strOfNums sx))) wr.heap.size #[.int .i64 1, .int .i64 0, .string (strOfNums sx)] 78 := X3.setCell (i := 2) (v := .string (strOfNums sx))
                  have q0 : (w3.setCell ⟨wr.heap.size, 2, none⟩ (.string (strOfNums sx))).cell? ⟨wr.heap.size, 0, none⟩ = some (.int .i64 1) := X4.cell 0
                  have q1 : (w3.setCell ⟨wr.heap.size, 2, none⟩ (.string (strOfNums sx))).cell? ⟨wr.heap.size, 1, none⟩ = some (.int .i64 0) := X4.cell 1
                  have q2 : (w3.setCell ⟨wr.heap.size, 2, none⟩ (.string (strOfNums sx))).cell? ⟨wr.heap.size, 2, none⟩ = some (.string (strOfNums sx)) := X4.cell 2
                  have hW3 : Below wr.heap.size wr (w3.setCell ⟨wr.heap.size, 2, none⟩ (.string (strOfNums sx))) := (bel_trans' HBA.out hb3).setCell (p := ⟨wr.heap.size, 2, none⟩) (Nat.le_refl _) _
                  obtain ⟨x, hx, hgot⟩ := got_val1 HBT.out.range hlt2 hk (by rw [ec]; exact hrel) w3
                  have hxe : x = (1, 0, strOfNums sx) := by
                    unfold RepVal at hx
                    obtain ⟨x0, x1, x2⟩ := x
                    simp at hx
                    simp [hx.1, hx.2.1, hx.2.2]
                  subst hxe
                  rcases hgot with ⟨rfl, hD, hdr, hnn, hnl⟩ | ⟨her, hno⟩
                  · obtain ⟨nx3, rfl⟩ := Int.eq_ofNat_of_zero_le (show 0 ≤ next by omega)
                    rw [Int.toNat_natCast] at hdr hnl
                    have BA5 : Below (w3.setCell ⟨wr.heap.size, 2, none⟩ (.string (strOfNums sx))).heap.size (w3.setCell ⟨wr.heap.size, 2, none⟩ (.string (strOfNums sx))) ((w3.setCell ⟨wr.heap.size, 2, none⟩ (.string (strOfNums sx))).alloc (.cells #[.int .i64 1, .int .i64 0, .string (strOfNums sx)] 78)) := (Below.refl _ _).alloc (Nat.le_refl _) _
                    have HO5 := hid' ((HOW.out.below hW3).below BA5)
                    have HB5 := hid' (bel_trans' (bel_trans' HBE.out hW3) BA5)
                    have HX5 := hid' (Bx.new (w3.setCell ⟨wr.heap.size, 2, none⟩ (.string (strOfNums sx))) #[.int .i64 1, .int .i64 0, .string (strOfNums sx)] 78)
                    have HPUSH : Hid (∀ v' w', OwnL 78 3 cV w.heap.size w' v' (done ++ [(1, 0, strOfNums sx)]) → Below w.heap.size w w' → ogInv w l at0 m k (.int .i64 (nx3 : Int)) v' (.int .i64 ((done.length : Int) + 1)) w') := fun v' w' g1 g2 => ⟨done ++ [(1, 0, strOfNums sx)], nx3, by simp; omega, by simp, rfl, hnl, g1, HRL.out.push pf_val hlt ⟨hD, hdr⟩, g2⟩
                    clear HC HX0 HBA X3 X4 hW3 hrel hb3 hD hdr hnn hnl HRL HNOV BA5 HOW hx
                    generalize strOfNums sx = un at *
                    rw [World.size_setCell] at HX5
                    go_wp2_with (at_builtin; refine wpList_app1 24 78 3 32 _ i0 cV cV_len oneV rfl (.tmp 83) (.tmp 85) rfl Try.underlying24 hi hz0 hz1 hz2 rfl (by omega) w.heap.size u10 done rfl HO5.out w3.heap.size 1 (1, 0, un) rfl HX5.out (by omega) (by omega) HB5.out.size ?_; intro v' w6 hown6 hgr6)
                    have H3 := hid' (HPUSH.out v' w6 hown6 (grown_below (w0 := 0) HB5.out hgr6 HO5.out HB5.out.size))
                    clear hown6 hgr6 HPUSH HO5 HB5 HX5
                    generalize hdl : done.length = dl at *
                    go_wp2
                    go_roundg k
                    case measure => omega
                    case rel => exact H3.out
                  · have HZ := hid' (HNO.out _ hlo hhi (bel_trans' HBE.out hW3) (HNOV.out hno))
                    have her' : (er != 0) = true := by simpa using her
                    clear HC HX0 HBA X3 X4 hW3 hrel hb3 hno HRL HNOV HOW hx HNO HOK
                    generalize strOfNums sx = un at *
                    go_wp2
                    go_ret3
                    exact HZ.out
    · have HZ := hid' (HNO.out w1 hlo hhi HB1.out (fun y r hy e => by
        unfold rowB listB at e
        rw [List.append_assoc] at e
        exact get_no hat hrel (by omega) y.length _ (by have := hy.1; omega) e))
      clear HOUT HNO HOK HGI HGT hrel
      go_wp2
      go_ret3
      exact HZ.out

end Go.Proofs.Ytgalmkhgbokidaa
