/-
  What is proved here: which command a byte tells; a sheet's bytes; values and rows in bytes: getDo, getSheet, getVal, row.Get.
-/
import Derived.Test.YtgalmkhgbokidaaWK
import Derived.Lib.ConvBytes
namespace Go.Proofs.Ytgalmkhgbokidaa
open Go.RowKit Go.Proofs
set_option maxRecDepth 20000
set_option linter.unusedVariables false
set_option linter.unusedSimpArgs false

def doB (d : Int) : List Int := [d]
def DO (d : Int) : Prop := 0 ≤ d ∧ d ≤ 6

theorem pf_do : PF doB DO := fun x y r s _ _ h => by
  unfold doB at h
  simp only [List.singleton_append, List.cons.injEq] at h
  exact h

theorem drop_byte {l : List Int} {i : Nat} (h : i < l.length) : l.drop i = l.getD i 0 :: l.drop (i + 1) := by
  rw [List.drop_eq_getElem_cons h, getD_at h]

theorem mask_zero {d : Int} (h0 : 0 ≤ d) (h : 6 < d) : mask d = 0 := by
  unfold mask
  rw [if_neg (by omega), if_neg (by omega), if_neg (by omega), if_neg (by omega), if_neg (by omega), if_neg (by omega)]

theorem mask_pos {d : Int} (h : DO d) : mask d ≠ 0 := by
  rcases op_cases h.1 h.2 with rfl | rfl | rfl | rfl | rfl | rfl | rfl <;> decide

theorem Bts.byte {B : Nat} {w : World} {ba : Option Addr} {l : List Int} (h : Bts B w ba l) {i : Nat} (hi : i < l.length) : ∃ b off, ba = some ⟨b, off, none⟩ ∧ w.cell? ⟨b, off + i, none⟩ = some (.int .u8 (l.getD i 0)) ∧ 0 ≤ l.getD i 0 ∧ l.getD i 0 < 256 := by
  obtain ⟨b, off, e, _, hc⟩ := h.cells (by rintro rfl; simp at hi)
  have := h.range _ (getD_mem (d := 0) hi)
  exact ⟨b, off, e, hc i hi, this.1, this.2⟩

/-- What a function answers that looks from a place within. -/
def GotAns {α : Type} (f : α → List Int) (D : α → Prop) (Rep : α → Value → World → Prop) (l : List Int) (at' : Nat) (w : World) (e : Ending) (w' : World) : Prop :=
  ∃ v next er, e = .returned (.tuple #[v, .int .i64 next, .int .i64 er]) ∧ GotR f D Rep l at' v next er w' ∧ Below w.heap.size w w'

set_option maxHeartbeats 2000000 in
theorem getDo_any (w : World) (ba : Option Addr) (cap : Nat) (l : List Int) (at' : Nat) (hb : Bts w.heap.size w ba l) (ha : at' ≤ l.length) (hl : l.length ≤ 1000000000) :
    Calls Try.prog 62 #[.slice ba l.length cap, .int .i64 (at' : Int)] w (GotAns doB DO RepI l at' w) := by
  have HNO : Hid ((∀ y r, DO y → l.drop at' ≠ doB y ++ r) → GotAns doB DO RepI l at' w (.returned (.tuple #[.int .i64 0, .int .i64 0, .int .i64 6])) w) := fun h => ⟨_, 0, 6, rfl, ⟨0, rfl, .inr ⟨by omega, h⟩⟩, Below.refl _ _⟩
  by_cases he : at' = l.length
  · have HZ := hid' (HNO.out (fun y r _ e => by rw [he, List.drop_length] at e; simp [doB] at e))
    subst he
    generalize l.length = ln at *
    clear HNO hb
    go_enter Try.func62, Try.ntmps62
    go_wp2
    go_ret3
    exact HZ.out
  · have hlt : at' < l.length := by omega
    obtain ⟨b, off, rfl, hc, h0, h1⟩ := hb.byte hlt
    have hd := drop_byte hlt
    have HD := hid' hd
    have HOK : Hid (DO (l.getD at' 0) → GotAns doB DO RepI l at' w (.returned (.tuple #[.int .i64 (l.getD at' 0), .int .i64 ((at' : Int) + 1), .int .i64 0])) w) := fun h => ⟨_, (at' : Int) + 1, 0, rfl, ⟨l.getD at' 0, rfl, .inl ⟨rfl, h, by rw [HD.out, show ((at' : Int) + 1).toNat = at' + 1 by omega]; rfl, by omega, by omega⟩⟩, Below.refl _ _⟩
    have HN2 : Hid (¬ DO (l.getD at' 0) → ∀ y r, DO y → l.drop at' ≠ doB y ++ r) := fun hn y r hy e => by
      rw [HD.out] at e
      simp [doB] at e
      rw [← e.1] at hy
      exact hn hy
    clear hb hd HD
    generalize l.getD at' 0 = d at *
    have hne : ¬ (at' : Int) = (l.length : Int) := by omega
    generalize l.length = ln at *
    by_cases hD : DO d
    · have hm := mask_pos hD
      have hm' : (mask d == 0) = false := by simpa using hm
      have HZ := hid' (HOK.out hD)
      have HU := hid' (usedBy_any d)
      clear HOK HN2 HNO hm
      generalize mask d = md at *
      go_enter Try.func62, Try.ntmps62
      go_wp2_with fail
      refine (HU.out _).mono ?_
      rintro e w1 ⟨rfl, rfl⟩
      go_wp2
      go_ret3
      exact HZ.out
    · have hm : mask d = 0 := mask_zero h0 (by unfold DO at hD; omega)
      have HZ := hid' (HNO.out (HN2.out hD))
      have HU := hid' (usedBy_any d)
      rw [hm] at HU
      clear HOK HN2 HNO hm
      go_enter Try.func62, Try.ntmps62
      go_wp2_with fail
      refine (HU.out _).mono ?_
      rintro e w1 ⟨rfl, rfl⟩
      go_wp2
      go_ret3
      exact HZ.out

/-- Bytes that a call has made of a text. -/
def RepB (B : Nat) (x : List Int) (v : Value) (W : World) : Prop := ∃ a c, v = .slice a x.length c ∧ BP (Since B) W a x ∧ Sh a x.length c ∧ Byt x

theorem new_bytes (w : World) (s : List Int) (hr : Byt s) : ∃ W c, (convert 9 22 (.string (strOfNums s))).run Try.prog w = .ok (.slice (some ⟨w.heap.size, 0, none⟩) s.length c) W ∧ Below w.heap.size w W ∧ RepB w.heap.size s (.slice (some ⟨w.heap.size, 0, none⟩) s.length c) W := by
  have h := Lib.run_convert_string_bytes (P := Try.prog) w 9 22 5 (strOfNums s) Try.underlying9 Try.underlying22 Try.underlying5
  rw [strOfNums_size] at h
  refine ⟨_, _, h, ⟨rfl, rfl, rfl, by rw [Lib.bytesWorld_size]; omega, fun k hk => Lib.bytesWorld_at_old _ _ _ _ hk⟩, _, _, rfl, ⟨fun hne => ⟨w.heap.size, 0, rfl, Nat.le_refl _, by rw [Lib.bytesWorld_size]; omega, fun i j hi hj => ?_⟩⟩, Sh.at _ _ _ (grownCap_ge _ _ _ _), hr⟩
  have hj0 : j = 0 := by omega
  subst hj0
  rw [Nat.zero_add, Nat.mul_one, Nat.add_zero, Lib.bytesWorld_cell _ _ _ _ (by rw [strOfNums_size]; exact hi)]
  have hn := nums_str hr
  have e : ((strOfNums s).data.toList.map fun b => (b.toNat : Int)).getD i 0 = s.getD i 0 := by
    show (nums (strOfNums s)).getD i 0 = _
    rw [hn]
  have hi2 : i < (strOfNums s).data.toList.length := by
    have : (strOfNums s).size = s.length := strOfNums_size s
    rw [Array.length_toList]
    show i < (strOfNums s).size
    rw [this]; exact hi
  simp only [List.getD, List.getElem?_map, List.getElem?_eq_getElem hi2, Option.map_some, Option.getD_some] at e
  have e2 : s.getD i 0 = ((strOfNums s).data.toList[i].toNat : Int) := by simp only [List.getD]; exact e.symm
  simp only [List.getD, List.getElem?_eq_getElem hi2, Option.getD_some]
  rw [show (s[i]?.getD 0) = s.getD i 0 from rfl, e2]
  rfl

theorem sheet_yes {l : List Int} (hl : Byt l) {at' : Nat} {s : List Int} {next : Int} {most : Nat} (h : TextRel l (at' : Int) (most : Int) s next 0) : s.length ≤ most ∧ Byt s ∧ l.drop at' = shB s ++ l.drop next.toNat ∧ (next.toNat : Int) = next ∧ next.toNat ≤ l.length := by
  rcases h with ⟨h0, _⟩ | ⟨_, n, fr, e0, hr, h⟩
  · omega
  · rcases h with ⟨h1, _, _, h2⟩ | ⟨_, _, _, _, h2⟩ | ⟨_, _, _, _, _, h2⟩ | ⟨h1, h2, h3, rfl, rfl, _⟩
    · exact absurd h2.symm h1
    · omega
    · omega
    · subst h1
      obtain ⟨y1, y2, y3, y4, y5⟩ := get_yes hr
      have hlen : ((l.drop fr.toNat).take n.toNat).length = n.toNat := by rw [List.length_take, List.length_drop]; omega
      have hb : Byt ((l.drop fr.toNat).take n.toNat) := fun z hz => hl z (List.mem_of_mem_drop (List.mem_of_mem_take hz))
      have en : (fr + n).toNat = fr.toNat + n.toNat := by omega
      refine ⟨by rw [hlen]; omega, hb, ?_, by omega, by omega⟩
      unfold shB
      rw [hlen, y1, List.append_assoc, en, ← List.drop_drop, List.take_append_drop]

theorem sheet_no {l : List Int} {at' : Nat} (ha : at' ≤ l.length) {s : List Int} {next er : Int} {most : Nat} (hm : most ≤ 1000000) (h : TextRel l (at' : Int) (most : Int) s next er) (he : er ≠ 0) : ∀ y r, y.length ≤ most → l.drop at' ≠ shB y ++ r := by
  intro y r hy e
  unfold shB at e
  rw [List.append_assoc] at e
  rcases h with ⟨h0, _⟩ | ⟨_, n, fr, e0, hr, h⟩
  · omega
  · rcases h with ⟨h1, _, _, h2⟩ | ⟨h1, h2, _⟩ | ⟨h1, h2, h3, _⟩ | ⟨_, _, _, _, _, h2⟩
    · exact get_no ha hr h1 _ _ (by omega) e
    · subst h1
      obtain ⟨y1, y2, _⟩ := get_yes hr
      rw [y1] at e
      have := (bytes_pf e).1
      omega
    · subst h1
      obtain ⟨y1, y2, y3, y4, y5⟩ := get_yes hr
      rw [y1] at e
      obtain ⟨e1, e2⟩ := bytes_pf e
      have := congrArg List.length e2
      rw [List.length_drop, List.length_append] at this
      omega
    · exact he h2

theorem text_zero {l : List Int} {at' most : Int} {s : List Int} {next er : Int} (h : TextRel l at' most s next er) (he : er ≠ 0) : s = [] ∧ next = 0 := by
  rcases h with ⟨_, h1, h2, _⟩ | ⟨_, n, fr, e0, hr, h⟩
  · exact ⟨h1, h2⟩
  · rcases h with ⟨_, h1, h2, _⟩ | ⟨_, _, h1, h2, _⟩ | ⟨_, _, _, h1, h2, _⟩ | ⟨_, _, _, _, _, h2⟩
    · exact ⟨h1, h2⟩
    · exact ⟨h1, h2⟩
    · exact ⟨h1, h2⟩
    · exact absurd h2 he

theorem text_byt {l : List Int} (hl : Byt l) {at' most : Int} {s : List Int} {next er : Int} (h : TextRel l at' most s next er) : Byt s := by
  rcases h with ⟨_, h1, h2, _⟩ | ⟨_, n, fr, e0, hr, h⟩
  · rw [h1]; exact Byt.nil
  · rcases h with ⟨_, h1, h2, _⟩ | ⟨_, _, h1, h2, _⟩ | ⟨_, _, _, h1, h2, _⟩ | ⟨_, _, _, h1, _, _⟩
    · rw [h1]; exact Byt.nil
    · rw [h1]; exact Byt.nil
    · rw [h1]; exact Byt.nil
    · rw [h1]; exact fun z hz => hl z (List.mem_of_mem_drop (List.mem_of_mem_take hz))

theorem got_sheet {l : List Int} (hl : Byt l) {at' : Nat} (ha : at' ≤ l.length) {s : List Int} {next er : Int} (h : TextRel l (at' : Int) 65536 s next er) {B : Nat} {v : Value} {W : World} (hv : RepB B s v W) : GotR shB SN (RepB B) l at' v next er W := by
  refine ⟨s, hv, ?_⟩
  by_cases h0 : er = 0
  · subst h0
    obtain ⟨y1, y2, y3, y4, y5⟩ := sheet_yes (most := 65536) hl h
    exact .inl ⟨rfl, ⟨y1, y2⟩, y3, y4, y5⟩
  · exact .inr ⟨h0, fun y r hy => sheet_no (most := 65536) ha (by omega) h h0 y r hy.1⟩

set_option maxHeartbeats 2000000 in
theorem getSheet_any (w : World) (ba : Option Addr) (cap : Nat) (l : List Int) (at' : Nat) (hb : Bts w.heap.size w ba l) (ha : at' ≤ l.length) (hc : l.length ≤ cap) (hl : l.length ≤ 1000000000) :
    Calls Try.prog 65 #[.slice ba l.length cap, .int .i64 (at' : Int)] w (GotAns shB SN (RepB w.heap.size) l at' w) := by
  have HT := hid' (getText_any w ba cap l at' 65536 hb hc hl (by omega))
  have HBY := hid' hb.range
  have HF : Hid (∀ s next er v W, TextRel l (at' : Int) 65536 s next er → RepB w.heap.size s v W → Below w.heap.size w W → GotAns shB SN (RepB w.heap.size) l at' w (.returned (.tuple #[v, .int .i64 next, .int .i64 er])) W) := fun s next er v W h1 h2 h3 => ⟨_, _, _, rfl, got_sheet HBY.out ha h1 h2, h3⟩
  clear hb
  generalize l.length = ln at *
  go_enter Try.func65, Try.ntmps65
  go_wp2_with fail
  refine HT.out.mono ?_
  rintro e w1 ⟨⟨s, next, er, rfl, hrel⟩, rfl⟩
  obtain ⟨W, c, hcv, hbel, hrep⟩ := new_bytes w1 s (text_byt HBY.out hrel)
  have HZ := hid' (HF.out s next er _ W hrel hrep hbel)
  clear HT HF hrel hbel hrep
  go_wp2
  go_ret3
  exact HZ.out

def RepVal (x : V) (v : Value) (_ : World) : Prop := v = .agg #[.int .i64 x.1, .int .i64 x.2.1, .string x.2.2]

theorem strB_sh {s : List Int} (h : Byt s) : strB (strOfNums s) = shB s := by
  unfold strB shB
  rw [nums_str h, strOfNums_size]

theorem val_no_end {l : List Int} {at' : Nat} (h : at' = l.length) : ∀ y r, VN y → l.drop at' ≠ valB y ++ r := fun y r _ e => by
  rw [h, List.drop_length] at e
  simp [valB] at e

theorem val_no_kind {l : List Int} {at' : Nat} (hlt : at' < l.length) (h0 : l.getD at' 0 ≠ 0) (h1 : l.getD at' 0 ≠ 1) : ∀ y r, VN y → l.drop at' ≠ valB y ++ r := fun y r hy e => by
  rw [drop_byte hlt] at e
  simp [valB] at e
  rcases hy with ⟨h, _⟩ | ⟨h, _⟩
  · rw [h] at e; exact h0 (by simpa [List.getD] using e.1)
  · rw [h] at e; exact h1 (by simpa [List.getD] using e.1)

theorem got_val0 {l : List Int} {at' : Nat} (hlt : at' < l.length) (hk : l.getD at' 0 = 0) {n next er : Int} (h : GetRel l ((at' + 1 : Nat) : Int) n next er) (W : World) : GotR valB VN RepVal l at' (.agg #[.int .i64 0, .int .i64 (unzig n), .string ⟨#[]⟩]) next er W := by
  refine ⟨(0, unzig n, ⟨#[]⟩), rfl, ?_⟩
  have hd := drop_byte hlt
  rw [hk] at hd
  by_cases h0 : er = 0
  · subst h0
    obtain ⟨y1, y2, y3, y4, y5⟩ := get_yes h
    refine .inl ⟨rfl, .inl ⟨rfl, unzig_rng y2 y3, rfl⟩, ?_, y4, y5⟩
    rw [hd, y1]
    simp [valB, oneB, zig_unzig y2]
  · refine .inr ⟨h0, fun y r hy e => ?_⟩
    rw [hd] at e
    simp only [valB, List.cons_append, List.cons.injEq] at e
    have e1 := e.1
    rw [← e.1, if_neg (by omega)] at e
    rcases hy with ⟨_, h2, _⟩ | ⟨h2, _⟩
    · exact get_no (by omega) h h0 _ r (zig_small h2) e.2
    · omega

theorem got_val1 {l : List Int} (hl : Byt l) {at' : Nat} (hlt : at' < l.length) (hk : l.getD at' 0 = 1) {s : List Int} {next er : Int} (h : TextRel l ((at' + 1 : Nat) : Int) 4096 s next er) (W : World) : GotR valB VN RepVal l at' (.agg #[.int .i64 1, .int .i64 0, .string (strOfNums s)]) next er W := by
  refine ⟨(1, 0, strOfNums s), rfl, ?_⟩
  have hd := drop_byte hlt
  rw [hk] at hd
  have hs := text_byt hl h
  by_cases h0 : er = 0
  · subst h0
    obtain ⟨y1, y2, y3, y4, y5⟩ := sheet_yes (most := 4096) hl h
    refine .inl ⟨rfl, .inr ⟨rfl, rfl, by rw [strOfNums_size]; exact y1⟩, ?_, y4, y5⟩
    rw [hd, y3]
    simp [valB, strB_sh hs]
  · refine .inr ⟨h0, fun y r hy e => ?_⟩
    rw [hd] at e
    simp only [valB, List.cons_append, List.cons.injEq] at e
    have e1 := e.1
    rw [← e.1, if_pos rfl] at e
    rcases hy with ⟨h2, _⟩ | ⟨_, _, h2⟩
    · omega
    · have e3 : strB y.2.2 = shB (nums y.2.2) := by unfold strB shB; rw [nums_length]
      rw [e3] at e
      exact sheet_no (most := 4096) (by omega) (by omega) h h0 _ r (by rw [nums_length]; exact h2) e.2

set_option maxHeartbeats 4000000 in
theorem getVal_any (w : World) (ba : Option Addr) (cap : Nat) (l : List Int) (at' : Nat) (hb : Bts w.heap.size w ba l) (ha : at' ≤ l.length) (hc : l.length ≤ cap) (hl : l.length ≤ 1000000000) :
    Calls Try.prog 78 #[.slice ba l.length cap, .int .i64 (at' : Int)] w (GotAns valB VN RepVal l at' w) := by
  have BA : Below w.heap.size w (w.alloc (.cells #[.int .i64 0, .int .i64 0, .string ⟨#[]⟩] 78)) := (Below.refl _ _).alloc (Nat.le_refl _) _
  by_cases he : at' = l.length
  · have HF : Hid (GotAns valB VN RepVal l at' w (.returned (.tuple #[.agg #[.int .i64 0, .int .i64 0, .string ⟨#[]⟩], .int .i64 0, .int .i64 6])) (w.alloc (.cells #[.int .i64 0, .int .i64 0, .string ⟨#[]⟩] 78))) := ⟨_, 0, 6, rfl, ⟨(0, 0, ⟨#[]⟩), rfl, .inr ⟨by omega, val_no_end he⟩⟩, BA⟩
    subst he
    generalize l.length = ln at *
    clear hb BA
    go_enter Try.func78, Try.ntmps78
    go_wp2
    refine bodyPost_ret (v := .tuple #[.agg #[.int .i64 0, .int .i64 0, .string ⟨#[]⟩], .int .i64 0, .int .i64 6]) ?_ rfl HF.out
    unfold results
    go_simp
  · have hlt : at' < l.length := by omega
    obtain ⟨b, off, hba, hcell, h0, h1⟩ := hb.byte hlt
    have hblt : b < w.heap.size := by
      obtain ⟨b', off', e', hb', _⟩ := hb.cells (by rintro rfl; simp at hlt)
      rw [hba] at e'; cases e'; exact hb'
    have hcell' : ∀ o, (w.alloc o).cell? ⟨b, off + at', none⟩ = some (.int .u8 (l.getD at' 0)) := fun o => (((Below.refl _ w).alloc (Nat.le_refl _) o).cell (p := ⟨b, off + at', none⟩) hblt).trans hcell
    have hne : ¬ (at' : Int) = (l.length : Int) := by omega
    have ec : ((at' + 1 : Nat) : Int) = (at' : Int) + 1 := by simp
    have BL : ∀ o, Below w.heap.size w (w.alloc o) := fun o => (Below.refl _ _).alloc (Nat.le_refl _) _
    by_cases hk0 : l.getD at' 0 = 0
    · have HG := hid' (getInt_any (w.alloc (.cells #[.int .i64 0, .int .i64 0, .string ⟨#[]⟩] 78)) ba cap l ((at' + 1 : Nat) : Int) ((hb.keep (BL _)).mono (BL _).size) hc hl)
      have HF : Hid (∀ n next er, GetRel l ((at' : Int) + 1) n next er → GotAns valB VN RepVal l at' w (.returned (.tuple #[.agg #[.int .i64 0, .int .i64 (unzig n), .string ⟨#[]⟩], .int .i64 next, .int .i64 er])) (w.alloc (.cells #[.int .i64 0, .int .i64 (unzig n), .string ⟨#[]⟩] 78))) := fun n next er h => ⟨_, next, er, rfl, got_val0 hlt hk0 (by rw [ec]; exact h) _, BL _⟩
      have hc0 := hcell' (.cells #[.int .i64 0, .int .i64 0, .string ⟨#[]⟩] 78)
      rw [hk0] at hc0
      rw [ec] at HG
      clear hb hcell hcell' BA BL he
      subst hba
      generalize l.length = ln at *
      go_enter Try.func78, Try.ntmps78
      go_wp2_with fail
      refine HG.out.mono ?_
      rintro e w1 ⟨⟨n, next, er, rfl, hrel⟩, rfl⟩
      have HZ := hid' (HF.out n next er hrel)
      clear HG HF hrel
      generalize unzig n = un at *
      go_wp2
      refine bodyPost_ret (v := .tuple #[.agg #[.int .i64 0, .int .i64 un, .string ⟨#[]⟩], .int .i64 next, .int .i64 er]) ?_ rfl HZ.out
      unfold results
      go_simp
    · by_cases hk1 : l.getD at' 0 = 1
      · have HG := hid' (getText_any (w.alloc (.cells #[.int .i64 1, .int .i64 0, .string ⟨#[]⟩] 78)) ba cap l ((at' + 1 : Nat) : Int) 4096 ((hb.keep (BL _)).mono (BL _).size) hc hl (by omega))
        have HBY := hid' hb.range
        have HF : Hid (∀ s next er, TextRel l ((at' : Int) + 1) 4096 s next er → GotAns valB VN RepVal l at' w (.returned (.tuple #[.agg #[.int .i64 1, .int .i64 0, .string (strOfNums s)], .int .i64 next, .int .i64 er])) (w.alloc (.cells #[.int .i64 1, .int .i64 0, .string (strOfNums s)] 78))) := fun s next er h => ⟨_, next, er, rfl, got_val1 HBY.out hlt hk1 (by rw [ec]; exact h) _, BL _⟩
        have hc0 := hcell' (.cells #[.int .i64 0, .int .i64 0, .string ⟨#[]⟩] 78)
        rw [hk1] at hc0
        rw [ec] at HG
        clear hb hcell hcell' BA BL he hk0
        subst hba
        generalize l.length = ln at *
        go_enter Try.func78, Try.ntmps78
        go_wp2_with fail
        refine HG.out.mono ?_
        rintro e w1 ⟨⟨s, next, er, rfl, hrel⟩, rfl⟩
        have HZ := hid' (HF.out s next er hrel)
        clear HG HF hrel
        generalize strOfNums s = st at *
        go_wp2
        refine bodyPost_ret (v := .tuple #[.agg #[.int .i64 1, .int .i64 0, .string st], .int .i64 next, .int .i64 er]) ?_ rfl HZ.out
        unfold results
        go_simp
      · have HF : Hid (GotAns valB VN RepVal l at' w (.returned (.tuple #[.agg #[.int .i64 (l.getD at' 0), .int .i64 0, .string ⟨#[]⟩], .int .i64 0, .int .i64 6])) (w.alloc (.cells #[.int .i64 (l.getD at' 0), .int .i64 0, .string ⟨#[]⟩] 78))) := ⟨_, 0, 6, rfl, ⟨(l.getD at' 0, 0, ⟨#[]⟩), rfl, .inr ⟨by omega, val_no_kind hlt hk0 hk1⟩⟩, BL _⟩
        have hc0 := hcell' (.cells #[.int .i64 0, .int .i64 0, .string ⟨#[]⟩] 78)
        have b0 : (l.getD at' 0 == 0) = false := by simpa using hk0
        have b1 : (l.getD at' 0 == 1) = false := by simpa using hk1
        clear hb hcell hcell' BA BL he hk0 hk1
        subst hba
        generalize l.getD at' 0 = d at *
        generalize l.length = ln at *
        go_enter Try.func78, Try.ntmps78
        go_wp2
        refine bodyPost_ret (v := .tuple #[.agg #[.int .i64 d, .int .i64 0, .string ⟨#[]⟩], .int .i64 0, .int .i64 6]) ?_ rfl HF.out
        unfold results
        go_simp

end Go.Proofs.Ytgalmkhgbokidaa
