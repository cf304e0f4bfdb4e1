/-
  What is proved here: row.Get; the things that a reader takes: which command, a sheet, a row, a frontier.
-/
import Derived.Test.YtgalmkhgbokidaaWM
namespace Go.Proofs.Ytgalmkhgbokidaa
open Go.RowKit Go.Proofs
set_option maxRecDepth 20000
set_option linter.unusedVariables false
set_option linter.unusedSimpArgs false

def RepVs (B : Nat) (x : List V) (v : Value) (W : World) : Prop := ∃ a c, v = .slice a x.length c ∧ VP (Since B) W a x ∧ Sh a x.length c

theorem RepVs.nil (B : Nat) (W : World) : RepVs B [] (.slice none 0 0) W := ⟨none, 0, rfl, SP.nil _ _ _, Sh.nil⟩

/-- What holds in the loop of row.Get: the row at block F. -/
def rgInv (w : World) (F : Nat) (l : List Int) (at0 n k : Nat) (r nx i : Value) (wr : World) : Prop :=
  ∃ (done : List V) (nxt : Nat), r = .slice (some ⟨F, 0, none⟩) n n ∧ done.length + k = n ∧ i = .int .i64 (done.length : Int) ∧ nx = .int .i64 (nxt : Int) ∧ nxt ≤ l.length ∧ Mk 3 cV 78 wr F n done ∧ RdL valB VN 16 n (some (l.drop at0)) done (some (l.drop nxt)) ∧ Below w.heap.size w wr

theorem getRel_out {l : List Int} {at' n next er : Int} (h : GetRel l at' n next er) : (er = 9 ∧ (at' < 0 ∨ (l.length : Int) < at')) ∨ (er ≠ 9 ∧ 0 ≤ at' ∧ at' ≤ l.length ∧ (er = 0 ∨ er = 6)) := by
  rcases h with ⟨h1, _, _, h2⟩ | ⟨h1, h2, _, _, _, h3⟩ | ⟨h1, h2, _, _, _, h3⟩
  · exact .inl ⟨h2, h1⟩
  · exact .inr ⟨by omega, h1, h2, .inl h3⟩
  · exact .inr ⟨by omega, h1, h2, .inr h3⟩

set_option maxHeartbeats 4000000 in
theorem rowGet_any (w : World) (ba : Option Addr) (cap : Nat) (l : List Int) (at' : Int) (hb : Bts w.heap.size w ba l) (hc : l.length ≤ cap) (hl : l.length ≤ 1000000000) :
    Calls Try.prog 67 #[.slice ba l.length cap, .int .i64 at'] w (GAns rowB (LD 16 VN) RepVs [] l at' w) := by
  obtain ⟨i0, hi, hz0, hz1, hz2⟩ := info_parts Try.infoVal
  have HG := hid' (get_any w ba cap l at' hb hc hl)
  have HV := hid' (fun W (hW : Below w.heap.size w W) (a : Nat) (ha : a ≤ l.length) => getVal_any W ba cap l a ((hb.keep hW).mono hW.size) ha hc hl)
  have HOUT : Hid ((at' < 0 ∨ (l.length : Int) < at') → GAns rowB (LD 16 VN) RepVs [] l at' w (.returned (.tuple #[.slice none 0 0, .int .i64 0, .int .i64 9])) w) := fun h => ⟨[], _, 0, 9, rfl, RepVs.nil _ _, Below.refl _ _, .inl ⟨h, rfl, rfl, rfl⟩⟩
  have HNO : Hid (∀ W, 0 ≤ at' → at' ≤ l.length → Below w.heap.size w W → (∀ y r, LD 16 VN y → l.drop at'.toNat ≠ rowB y ++ r) → GAns rowB (LD 16 VN) RepVs [] l at' w (.returned (.tuple #[.slice none 0 0, .int .i64 0, .int .i64 6])) W) := fun W h1 h2 h3 h4 => ⟨[], _, 0, 6, rfl, RepVs.nil _ _, h3, .inr (.inr ⟨h1, h2, rfl, rfl, rfl, h4⟩)⟩
  have HOK : Hid (∀ (x : List V) (F c nx : Nat) W, 0 ≤ at' → at' ≤ l.length → Below w.heap.size w W → VP (Since w.heap.size) W (some ⟨F, 0, none⟩) x → Sh (some ⟨F, 0, none⟩) x.length c → LD 16 VN x → l.drop at'.toNat = rowB x ++ l.drop nx → nx ≤ l.length → GAns rowB (LD 16 VN) RepVs [] l at' w (.returned (.tuple #[.slice (some ⟨F, 0, none⟩) x.length c, .int .i64 (nx : Int), .int .i64 0])) W) := fun x F c nx W g1 g2 h1 h2 h3 h4 h5 h6 =>
    ⟨x, _, nx, 0, rfl, ⟨_, c, rfl, h2, h3⟩, h1, .inr (.inl ⟨g1, g2, rfl, h4, by simpa using h5, by simp, by simpa using h6⟩)⟩
  obtain ⟨ln, hln⟩ : ∃ n, l.length = n := ⟨_, rfl⟩
  rw [hln] at HG HV ⊢
  have HLN := hid' hln
  clear hb hln
  go_enter Try.func67, Try.ntmps67
  go_wp2_with fail
  refine HG.out.mono ?_
  rintro e w1 ⟨⟨n, next, er, rfl, hrel⟩, rfl⟩
  clear HG
  rcases getRel_out hrel with ⟨rfl, hout⟩ | ⟨h9, hlo, hhi, her⟩
  · have HZ := hid' (HOUT.out hout)
    clear HOUT HNO HOK HV hrel
    go_wp2
    go_ret3
    exact HZ.out
  · obtain ⟨at0, rfl⟩ := Int.eq_ofNat_of_zero_le hlo
    have hat : at0 ≤ l.length := by omega
    rw [Int.toNat_natCast] at HNO HOK
    rcases her with rfl | rfl
    · obtain ⟨y1, y2, y3, y4, y5⟩ := get_yes hrel
      obtain ⟨m, rfl⟩ := Int.eq_ofNat_of_zero_le y2
      rw [Int.toNat_natCast] at y1
      obtain ⟨nxt, rfl⟩ := Int.eq_ofNat_of_zero_le (show 0 ≤ next by omega)
      rw [Int.toNat_natCast] at y1 y5
      have HRD : Hid (Rd bytesOf U64 (some (l.drop at0)) m (some (l.drop nxt))) := (⟨by unfold U64; omega, y1⟩ : _ ∧ _)
      clear y1 hrel HOUT y4
      by_cases hmany : 16 < m
      · have HZ := hid' (HNO.out w1 hlo hhi (Below.refl _ _) (num_many HRD.out hmany (by omega)))
        have hm' : (16 : Int) < (m : Int) := by omega
        clear HNO HOK HV HRD
        go_wp2
        go_ret3
        exact HZ.out
      · have hm' : ¬ (16 : Int) < (m : Int) := by omega
        go_wp2_with (at_make; refine wpList_make_full _ rfl _ _ 24 rfl w1.heap.size 78 i0 _ 3 Try.underlying24 hi hz0 hz1 .u64 .u64 _ _ m rfl rfl rfl rfl (by rw [hz2]; omega) (by unfold maxLen; omega) (Nat.le_refl _) ?_; intro w2 hmade hgrow)
        obtain ⟨hbx, hlen⟩ := made_bx hmade
        have hB2 : Below w1.heap.size w1 w2 := ⟨hgrow.os, hgrow.tape, hgrow.output, hgrow.size, fun k hk => hgrow.block k hk (by simp)⟩
        have H0 : Hid (rgInv w1 w1.heap.size l at0 m m (.slice (some ⟨w1.heap.size, 0, none⟩) m m) (.int .i64 (nxt : Int)) (.int .i64 0) w2) := ⟨[], nxt, rfl, by simp, rfl, rfl, y5, Mk.start hbx hlen, RdL.start (num_few HRD.out (by omega)), hB2⟩
        have HI : Hid (∀ k r nx i wr, rgInv w1 w1.heap.size l at0 m k r nx i wr → ∃ (done : List V) (nxt : Nat), r = .slice (some ⟨w1.heap.size, 0, none⟩) m m ∧ done.length + k = m ∧ i = .int .i64 (done.length : Int) ∧ nx = .int .i64 (nxt : Int) ∧ nxt ≤ l.length ∧ Mk 3 cV 78 wr w1.heap.size m done ∧ RdL valB VN 16 m (some (l.drop at0)) done (some (l.drop nxt)) ∧ Below w1.heap.size w1 wr) := fun k r nx i wr h => h
        obtain ⟨F, hF⟩ : ∃ F, w1.heap.size = F := ⟨_, rfl⟩
        have HFE := hid' hF
        rw [hF] at H0 HI ⊢
        clear hmade hgrow hbx hlen hB2 HRD hF y5
        go_wp2
        go_loopg [4, 5, 25, 6, 8] m (fun k r nx i e6 _ wr => rgInv w1 F l at0 m k r nx i wr)
        case atStart => exact H0.out
        case round =>
          obtain ⟨done, nxt, rfl, hj, rfl, rfl, hnx, hmk, hrl, hbel⟩ := HI.out _ _ _ _ _ hrel
          clear hrel H0
          cases gk with
          | zero =>
            have hdn : done.length = m := by omega
            have hrd := hrl.done (.inr hdn)
            have HZ := hid' (HOK.out done F m nxt wr hlo hhi (by rw [HFE.out]; exact hbel) (by have := HFE.out; exact Mk.sp cV_len hmk hdn (by omega)) (Sh.at _ _ _ (by omega)) hrd.1 hrd.2 hnx)
            rw [hdn] at HZ
            clear HNO HOK HV hmk hrl hbel hrd
            go_wp2
            go_ret3
            exact HZ.out
          | succ k =>
            have HC := hid' (HV.out wr (by rw [HFE.out]; exact hbel) nxt (by have := HLN.out; omega))
            have hlt : done.length < m := by omega
            have HMK := hid' hmk
            have HRL := hid' hrl
            have HBE := hid' hbel
            have hFl := hmk.lt
            clear hmk hrl hbel
            go_wp2_with fail
            refine HC.out.mono ?_
            rintro e w3 ⟨v, next, er, rfl, ⟨x, hv, hgot⟩, hb3⟩
            unfold RepVal at hv
            subst hv
            have mk3 : Mk 3 cV 78 w3 F m done := HMK.out.keep (hb3.block F hFl)
            obtain ⟨u0, hu0⟩ := mk3.cell (i := done.length * 3) (by omega)
            obtain ⟨u1, hu1⟩ := mk3.cell (i := done.length * 3 + 1) (by omega)
            obtain ⟨u2, hu2⟩ := mk3.cell (i := done.length * 3 + 2) (by omega)
            have f0 := mk3.frozen (done.length * 3)
            have f1 := mk3.frozen (done.length * 3 + 1)
            have f2 := mk3.frozen (done.length * 3 + 2)
            have hbW : Below F w1 (((w3.setCell ⟨F, done.length * 3, none⟩ (.int .i64 x.1)).setCell ⟨F, done.length * 3 + 1, none⟩ (.int .i64 x.2.1)).setCell ⟨F, done.length * 3 + 2, none⟩ (.string x.2.2)) :=
              (((HBE.out.trans (hb3.mono (by omega))).setCell (p := ⟨F, _, none⟩) (Nat.le_refl _) _).setCell (p := ⟨F, _, none⟩) (Nat.le_refl _) _).setCell (p := ⟨F, _, none⟩) (Nat.le_refl _) _
            rcases hgot with ⟨rfl, hD, hdr, hnn, hnl⟩ | ⟨h0, hno⟩
            · obtain ⟨nx3, rfl⟩ := Int.eq_ofNat_of_zero_le (show 0 ≤ next by omega)
              rw [Int.toNat_natCast] at hdr hnl
              have H3 : Hid (rgInv w1 F l at0 m k (.slice (some ⟨F, 0, none⟩) m m) (.int .i64 (nx3 : Int)) (.int .i64 ((done.length : Int) + 1)) (((w3.setCell ⟨F, done.length * 3, none⟩ (.int .i64 x.1)).setCell ⟨F, done.length * 3 + 1, none⟩ (.int .i64 x.2.1)).setCell ⟨F, done.length * 3 + 2, none⟩ (.string x.2.2))) :=
                ⟨done ++ [x], nx3, rfl, by simp; omega, by simp, rfl, hnl, mk3.push3 rfl hlt, HRL.out.push pf_val hlt ⟨hD, hdr⟩, by rw [HFE.out]; exact hbW⟩
              clear HC mk3 HMK HRL HBE hD hdr hnn hnl hbW HV
              generalize hdl : done.length = dl at *
              go_wp2
              go_roundg k
              case measure => omega
              case rel => exact H3.out
            · have hrdl := HRL.out.push (x := x) (s2 := none) pf_val hlt hno
              have HZ := hid' (HNO.out _ hlo hhi (by rw [HFE.out]; exact hbW) hrdl)
              have h0' : (er != 0) = true := by simpa using h0
              clear HC mk3 HMK HRL HBE hno hbW HV HNO HOK hrdl
              generalize hdl : done.length = dl at *
              go_wp2
              go_ret3
              exact HZ.out
    · have HZ := hid' (HNO.out w1 hlo hhi (Below.refl _ _) (fun y r hy e => by
        unfold rowB listB at e
        rw [List.append_assoc] at e
        exact get_no hat hrel (by omega) y.length _ (by have := hy.1; omega) e))
      clear HOUT HNO HOK HV hrel
      go_wp2
      go_ret3
      exact HZ.out

/-- From what a function answers anywhere to what it tells within. -/
theorem GAns.got {α : Type} {f : α → List Int} {D : α → Prop} {Rep : Nat → α → Value → World → Prop} {d : α} {l : List Int} {at' : Nat} {w w' : World} {e : Ending} (ha : at' ≤ l.length) (h : GAns f D Rep d l (at' : Int) w e w') : GotAns f D (Rep w.heap.size) l at' w e w' := by
  obtain ⟨x, v, next, er, rfl, hr, hb, hc⟩ := h
  refine ⟨v, next, er, rfl, ⟨x, hr, ?_⟩, hb⟩
  rcases hc with ⟨h1, _⟩ | ⟨_, _, h1, h2, h3, h4, h5⟩ | ⟨_, _, h1, _, _, h2⟩
  · omega
  · exact .inl ⟨h1, h2, by simpa using h3, h4, h5⟩
  · exact .inr ⟨by omega, by simpa using h2⟩

theorem takeDo_any (w : World) (g : Nat) (ba : Option Addr) (cap : Nat) (l : List Int) (s : Option (List Int)) (hr : RdS w g ba cap l s) (hb : Bts g w ba l) (hl : l.length ≤ 1000000000) : Calls Try.prog 61 #[.pointer (some ⟨g, 0, none⟩), .func (.func 62) #[] #[]] w (RdAns doB DO RepI w g ba cap l s) := by
  have hgl := hr.lt
  obtain ⟨at', bad, ha, hbx, rfl⟩ := hr.open'
  refine (takeI_any (GotR doB DO RepI l at') 62 _ Try.func62 rfl rfl w g ba l.length cap at' bad hbx (fun W hW => ?_)).mono (fun e w' h => take_rd ha (fun x v W W' h _ => h) h)
  exact getDo_any W ba cap l at' ((hb.keep (hW.mono (Nat.le_of_lt hgl))).mono (by have := hW.size; omega)) ha hl

section
variable (w : World) (g : Nat) (ba : Option Addr) (cap : Nat) (l : List Int) (s : Option (List Int)) (hr : RdS w g ba cap l s) (hb : Bts g w ba l) (hc : l.length ≤ cap) (hl : l.length ≤ 1000000000)
include hr hb hc hl

theorem takeSheet_any (B : Nat) (hB : g < B) (hBw : B ≤ w.heap.size) : Calls Try.prog 64 #[.pointer (some ⟨g, 0, none⟩), .func (.func 65) #[] #[]] w (RdAns shB SN (RepB B) w g ba cap l s) := by
  have hgl := hr.lt
  obtain ⟨at', bad, ha, hbx, rfl⟩ := hr.open'
  refine (takeB_any (GotR shB SN (RepB B) l at') 65 _ Try.func65 rfl rfl w g ba l.length cap at' bad hbx (fun W hW => ?_)).mono (fun e w' h => take_rd ha (fun x v W W' ⟨a, c, h1, h2, h3⟩ hb => ⟨a, c, h1, SP.but h2 hb (fun k hk => by unfold Since at hk; omega), h3⟩) h)
  refine (getSheet_any W ba cap l at' ((hb.keep (hW.mono (Nat.le_of_lt hgl))).mono (by have := hW.size; omega)) ha hc hl).mono ?_
  rintro e w' ⟨v, next, er, rfl, ⟨x, ⟨a, c, h1, h2, h3⟩, hx⟩, hb'⟩
  exact ⟨v, next, er, rfl, ⟨x, ⟨a, c, h1, SP.mono h2 (fun k hk => by unfold Since at *; have := hW.size; omega), h3⟩, hx⟩, hb'⟩

theorem takeRow_any (B : Nat) (hB : g < B) (hBw : B ≤ w.heap.size) : Calls Try.prog 66 #[.pointer (some ⟨g, 0, none⟩), .func (.func 67) #[] #[]] w (RdAns rowB (LD 16 VN) (RepVs B) w g ba cap l s) := by
  have hgl := hr.lt
  obtain ⟨at', bad, ha, hbx, rfl⟩ := hr.open'
  refine (takeV_any (GotR rowB (LD 16 VN) (RepVs B) l at') 67 _ Try.func67 rfl rfl w g ba l.length cap at' bad hbx (fun W hW => ?_)).mono (fun e w' h => take_rd ha (fun x v W W' ⟨a, c, h1, h2, h3⟩ hb => ⟨a, c, h1, SP.but h2 hb (fun k hk => by unfold Since at hk; omega), h3⟩) h)
  refine (rowGet_any W ba cap l (at' : Int) ((hb.keep (hW.mono (Nat.le_of_lt hgl))).mono (by have := hW.size; omega)) hc hl).mono ?_
  intro e w' h
  obtain ⟨v, next, er, rfl, ⟨x, ⟨a, c, h1, h2, h3⟩, hx⟩, hb'⟩ := h.got ha
  exact ⟨v, next, er, rfl, ⟨x, ⟨a, c, h1, SP.mono h2 (fun k hk => by unfold Since at *; have := hW.size; omega), h3⟩, hx⟩, hb'⟩

theorem takeFront_any (B : Nat) (hB : g < B) (hBw : B ≤ w.heap.size) : Calls Try.prog 68 #[.pointer (some ⟨g, 0, none⟩), .func (.func 20) #[] #[]] w (RdAns frontB (LD 16 RT) (RepTs B) w g ba cap l s) := by
  have hgl := hr.lt
  obtain ⟨at', bad, ha, hbx, rfl⟩ := hr.open'
  refine (takeT_any (GotR frontB (LD 16 RT) (RepTs B) l at') 20 _ Try.func20 rfl rfl w g ba l.length cap at' bad hbx (fun W hW => ?_)).mono (fun e w' h => take_rd ha (fun x v W W' ⟨a, c, h1, h2, h3⟩ hb => ⟨a, c, h1, SP.but h2 hb (fun k hk => by unfold Since at hk; omega), h3⟩) h)
  refine (getFront_any W ba cap l (at' : Int) ((hb.keep (hW.mono (Nat.le_of_lt hgl))).mono (by have := hW.size; omega)) hc hl).mono ?_
  intro e w' h
  obtain ⟨v, next, er, rfl, ⟨x, ⟨a, c, h1, h2, h3⟩, hx⟩, hb'⟩ := h.got ha
  exact ⟨v, next, er, rfl, ⟨x, ⟨a, c, h1, SP.mono h2 (fun k hk => by unfold Since at *; have := hW.size; omega), h3⟩, hx⟩, hb'⟩
end

end Go.Proofs.Ytgalmkhgbokidaa
