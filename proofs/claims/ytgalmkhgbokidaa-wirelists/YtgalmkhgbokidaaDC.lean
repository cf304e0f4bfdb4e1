/-
  What is proved here: Decode of the document.
-/
import Derived.Test.YtgalmkhgbokidaaDB
namespace Go.Proofs.Ytgalmkhgbokidaa
open Go.RowKit Go.Proofs
set_option maxRecDepth 20000
set_option linter.unusedVariables false
set_option linter.unusedSimpArgs false

/-- What holds in the loop of Decode. -/
def rdInv (w : World) (l : List Int) (p n k : Nat) (av lv i : Value) (wr : World) : Prop :=
  ∃ (X : List (Cm × CmS)) (q : Nat), X.length + k = n ∧ av = .int .i64 (q : Int) ∧ i = .int .i64 (X.length : Int) ∧ Rch l p (X.map (·.1)) q ∧ OwnC w.heap.size wr lv X ∧ Below w.heap.size w wr

set_option maxHeartbeats 8000000 in
theorem rDecode_any (w : World) (ba : Option Addr) (cap : Nat) (l : List Int) (hb : Bts w.heap.size w ba l) (hc : l.length ≤ cap) (hl : l.length ≤ 1000000000) :
    Calls Try.prog 28 #[.slice ba l.length cap] w (DAns l w) := by
  obtain ⟨i0, hi, hz0, hz1, hz2⟩ := info_parts Try.infoCmd
  have HG := hid' (rget_any w ba cap l 0 hb hc hl)
  have HGET := hid' (fun W (hW : Below w.heap.size w W) (p : Int) => rGet_any W ba cap l p ((hb.keep hW).mono hW.size) hc hl)
  have HNO : Hid (∀ W at', DEnd l [] 6 at' → Below w.heap.size w W → DAns l w (.returned (.tuple #[.slice none 0 0, .int .i64 6, .int .i64 at'])) W) := fun W at' h hW => ⟨[], none, 0, 6, at', rfl, h, ⟨SP.nil _ _ _, by simp⟩, hW⟩
  have HYES : Hid (∀ W v X at', DEnd l (X.map (·.1)) 0 at' → OwnC w.heap.size W v X → Below w.heap.size w W → DAns l w (.returned (.tuple #[v, .int .i64 0, .int .i64 at'])) W) := fun W v X at' h hX hW => by
    obtain ⟨a, c, rfl, hcm, _⟩ := hX.cms
    exact ⟨X, a, c, 0, at', rfl, h, hcm, hW⟩
  obtain ⟨ln, hln⟩ : ∃ n, l.length = n := ⟨_, rfl⟩
  rw [hln] at HG HGET ⊢
  have HLN := hid' hln
  clear hb hln
  go_enter Try.func28, Try.ntmps28
  go_wp2_with fail
  refine HG.out.mono ?_
  rintro e w1 ⟨⟨n, next, er, rfl, hrel⟩, hb1⟩
  have HBW := hid' hb1
  clear HG hb1
  rcases getRel_out hrel with ⟨rfl, hout⟩ | ⟨h9, hlo, hhi, her⟩
  · omega
  · rcases her with rfl | rfl
    · obtain ⟨y1, y2, y3, y4, y5⟩ := get_yes (at' := 0) hrel
      obtain ⟨m, rfl⟩ := Int.eq_ofNat_of_zero_le y2
      rw [Int.toNat_natCast] at y1
      obtain ⟨nxt, rfl⟩ := Int.eq_ofNat_of_zero_le (show 0 ≤ next by omega)
      rw [Int.toNat_natCast] at y1 y5
      rw [List.drop_zero] at y1
      have HY1 := hid' y1
      clear y1 hrel y4
      by_cases hmany : 4096 < m
      · have HZ := hid' (HNO.out w1 0 (.inl ⟨rfl, rfl, rfl, fun k r hk e => by
          have := (bytes_pf (HY1.out.symm.trans e)).1
          omega⟩) HBW.out)
        have hm' : (4096 : Int) < (m : Int) := by omega
        clear HNO HYES HGET
        go_wp2
        go_ret3
        exact HZ.out
      · have hm' : ¬ (4096 : Int) < (m : Int) := by omega
        have H0 : Hid (rdInv w l nxt m m (.int .i64 (nxt : Int)) (.slice none 0 0) (.int .i64 0) w1) := ⟨[], nxt, by simp, rfl, rfl, Rch.nil y5, OwnC.nil _ _, HBW.out⟩
        have HI : Hid (∀ k av lv i wr, rdInv w l nxt m k av lv i wr → ∃ (X : List (Cm × CmS)) (q : Nat), X.length + k = m ∧ av = .int .i64 (q : Int) ∧ i = .int .i64 (X.length : Int) ∧ Rch l nxt (X.map (·.1)) q ∧ OwnC w.heap.size wr lv X ∧ Below w.heap.size w wr) := fun k av lv i wr h => h
        have HEND : Hid (∀ (Y : List Cm) (q : Nat) X er, Rch l nxt Y q → ((er = 6 ∧ X = [] ∧ Y.length < m ∧ ∀ y r, Nice y → l.drop q ≠ cmdB y ++ r) ∨ (er = 6 ∧ X = [] ∧ Y.length = m ∧ q < l.length) ∨ (er = 0 ∧ X = Y ∧ Y.length = m ∧ q = l.length)) → DEnd l X er (q : Int)) := fun Y q X er h1 h2 => .inr ⟨m, Y, nxt, q, by omega, HY1.out, y5, h1, rfl, h2⟩
        clear HY1
        go_wp2
        go_loopg [6, 8, 9] m (fun k av lv i wr => rdInv w l nxt m k av lv i wr)
        case atStart => exact H0.out
        case round =>
          obtain ⟨X, q, hj, rfl, rfl, hrch, hown, hbel⟩ := HI.out _ _ _ _ _ hrel
          clear hrel H0
          have hq := hrch.2.2
          cases gk with
          | zero =>
            have hXm : X.length = m := by omega
            by_cases hlt : q < l.length
            · have HZ := hid' (HNO.out wr (q : Int) (HEND.out _ q [] 6 hrch (.inr (.inl ⟨rfl, rfl, by rw [List.length_map]; omega, hlt⟩))) hbel)
              have hlt' : ¬ (q : Int) = (ln : Int) := by rw [← HLN.out]; omega
              rw [hXm]
              clear HNO HYES HGET HEND hrch hown hbel
              go_wp2
              go_ret3
              exact HZ.out
            · have HZ := hid' (HYES.out wr _ X (q : Int) (HEND.out _ q _ 0 hrch (.inr (.inr ⟨rfl, rfl, by rw [List.length_map]; omega, by omega⟩))) hown hbel)
              have hlt' : (q : Int) = (ln : Int) := by rw [← HLN.out]; omega
              rw [hXm]
              clear HNO HYES HGET HEND hrch hown hbel
              go_wp2
              go_ret3
              exact HZ.out
          | succ k =>
            have hlt : (X.length : Int) < (m : Int) := by omega
            have HG1 := hid' (HGET.out wr hbel (q : Int))
            have HR := hid' hrch
            have HO := hid' hown
            have HB := hid' hbel
            obtain ⟨xl, hxl⟩ : ∃ n, X.length = n := ⟨_, rfl⟩
            have HXL := hid' hxl
            rw [hxl] at hlt hj ⊢
            clear hrch hown hbel hxl
            go_wp2_with fail
            refine HG1.out.mono ?_
            rintro e2 w2 ⟨c, v, nx, er, rfl, ⟨sc, hv, hcm⟩, hb2, hcase⟩
            subst hv
            have HB2 := hid' (bel_trans' HB.out hb2)
            rcases hcase with ⟨h, _⟩ | ⟨_, _, rfl, hnice, hdrop, hnn, hnl⟩ | ⟨_, _, rfl, rfl, rfl, hno⟩
            · omega
            · obtain ⟨nx, rfl⟩ := Int.eq_ofNat_of_zero_le (show 0 ≤ nx by omega)
              rw [Int.toNat_natCast, Int.toNat_natCast] at hdrop
              rw [Int.toNat_natCast] at hnl
              have HR2 := hid' (HR.out.push hnice hdrop hnl)
              have BA1 := (Below.refl w2.heap.size w2).alloc (Nat.le_refl _) (.cells (cmA c sc) 31)
              have BA2 := (Below.refl (w2.alloc (.cells (cmA c sc) 31)).heap.size _).alloc (Nat.le_refl _) (.cells (cmA c sc) 31)
              have HO3 := hid' ((HO.out.below (bel_trans' hb2 BA1)).below BA2)
              have hbx := Bx.new (w2.alloc (.cells (cmA c sc) 31)) (cmA c sc) 31
              rw [World.size_alloc] at hbx
              have HBX := hid' hbx
              have HCM := hid' ((((hcm.mono (fun k hk => HO.out.apart HB.out.size hk)).on BA1).on BA2))
              have HB4 := hid' (bel_trans' HB2.out (bel_trans' BA1 BA2))
              have HPUSH : Hid (∀ v' w', OwnC w.heap.size w' v' (X ++ [(c, sc)]) → Below w.heap.size w w' → rdInv w l nxt m k (.int .i64 (nx : Int)) v' (.int .i64 ((xl : Int) + 1)) w') := fun v' w' h1 h2 => ⟨X ++ [(c, sc)], nx, by rw [List.length_append, List.length_singleton, HXL.out]; omega, rfl, by rw [List.length_append, List.length_singleton, HXL.out]; simp, by rw [List.map_append]; exact HR2.out, h1, h2⟩
              have hxl5 : X.length ≤ 100000 := by rw [HXL.out]; omega
              clear hcm hb2 hnice hdrop hnn hnl HR HO HB HB2 BA1 BA2 hbx HG1 HNO HYES HGET HEND HR2
              unfold cmV cmA
              go_wp2_with (at_builtin; refine wpList_appC i0 rfl (.tmp 41) (.tmp 43) rfl Try.underlying33 hi hz0 hz1 hz2 w.heap.size u8 X rfl HO3.out (w2.heap.size + 1) 1 c sc rfl HBX.out HCM.out hxl5 HB4.out.size ?_; intro v' w4 hown4 hgr4)
              have H3 := hid' (HPUSH.out v' w4 hown4 (grown_below (w0 := 0) HB4.out hgr4 HO3.out.own HB4.out.size))
              clear hown4 hgr4 HPUSH HO3 HBX HCM HB4
              go_wp2
              go_roundg k
              case measure => omega
              case rel => exact H3.out
            · have HZ := hid' (HNO.out (w2.alloc (.cells (cmA c0 sc) 31)) (q : Int) (HEND.out _ q [] 6 HR.out (.inl ⟨rfl, rfl, by rw [List.length_map, HXL.out]; omega, by simpa using hno⟩)) (bel_trans' HB2.out ((Below.refl w2.heap.size w2).alloc (Nat.le_refl _) _)))
              clear HNO HYES HGET HEND HG1 HR HO HB HB2 hno
              unfold cmV cmA
              go_wp2
              go_ret3
              exact HZ.out
    · have HZ := hid' (HNO.out w1 0 (.inl ⟨rfl, rfl, rfl, fun k r hk e => get_no (at' := 0) (by omega) hrel (by omega) k r (by omega) (by simpa using e)⟩) HBW.out)
      clear HNO HYES HGET hrel
      go_wp2
      go_ret3
      exact HZ.out

end Go.Proofs.Ytgalmkhgbokidaa
