/-
  What is proved here: which command a byte tells; a sheet's bytes; values and rows in bytes: getDo, getSheet, getVal, row.Get.
  What is proved here: row.Get; the things that a reader takes: which command, a sheet, a row, a frontier.
  What is proved here: the reader's command: what it reads of bytes.
-/
import Derived.Test.YtgalmkhgbokidaaMgH
import Derived.Lib.ConvBytes

namespace Go.Proofs.Ytgalmkhgbokidaa
open Go.RowKit Go.Proofs
set_option maxRecDepth 20000
set_option linter.unusedVariables false
set_option linter.unusedSimpArgs false

def doB (d : Int) : List Int := [d]
def DO (d : Int) : Prop := 0 ≤ d ∧ d ≤ 6

theorem pf_do : PF doB DO := fun x y r s _ _ h => by
  unfold doB at h
  simp only [List.singleton_append, List.cons.injEq] at h
  exact h

theorem drop_byte {l : List Int} {i : Nat} (h : i < l.length) : l.drop i = l.getD i 0 :: l.drop (i + 1) := by
  rw [List.drop_eq_getElem_cons h, getD_at h]

theorem mask_zero {d : Int} (h0 : 0 ≤ d) (h : 6 < d) : mask d = 0 := by
  unfold mask
  rw [if_neg (by omega), if_neg (by omega), if_neg (by omega), if_neg (by omega), if_neg (by omega), if_neg (by omega)]

theorem mask_pos {d : Int} (h : DO d) : mask d ≠ 0 := by
  rcases op_cases h.1 h.2 with rfl | rfl | rfl | rfl | rfl | rfl | rfl <;> decide

theorem Bts.byte {B : Nat} {w : World} {ba : Option Addr} {l : List Int} (h : Bts B w ba l) {i : Nat} (hi : i < l.length) : ∃ b off, ba = some ⟨b, off, none⟩ ∧ w.cell? ⟨b, off + i, none⟩ = some (.int .u8 (l.getD i 0)) ∧ 0 ≤ l.getD i 0 ∧ l.getD i 0 < 256 := by
  obtain ⟨b, off, e, _, hc⟩ := h.cells (by rintro rfl; simp at hi)
  have := h.range _ (getD_mem (d := 0) hi)
  exact ⟨b, off, e, hc i hi, this.1, this.2⟩

/-- What a function answers that looks from a place within. -/
def GotAns {α : Type} (f : α → List Int) (D : α → Prop) (Rep : α → Value → World → Prop) (l : List Int) (at' : Nat) (w : World) (e : Ending) (w' : World) : Prop :=
  ∃ v next er, e = .returned (.tuple #[v, .int .i64 next, .int .i64 er]) ∧ GotR f D Rep l at' v next er w' ∧ Below w.heap.size w w'

set_option maxHeartbeats 2000000 in
theorem getDo_any (w : World) (ba : Option Addr) (cap : Nat) (l : List Int) (at' : Nat) (hb : Bts w.heap.size w ba l) (ha : at' ≤ l.length) (hl : l.length ≤ 1000000000) :
    Calls Try.prog 62 #[.slice ba l.length cap, .int .i64 (at' : Int)] w (GotAns doB DO RepI l at' w) := by
  have HNO : Hid ((∀ y r, DO y → l.drop at' ≠ doB y ++ r) → GotAns doB DO RepI l at' w (.returned (.tuple #[.int .i64 0, .int .i64 0, .int .i64 6])) w) := fun h => ⟨_, 0, 6, rfl, ⟨0, rfl, .inr ⟨by omega, h⟩⟩, Below.refl _ _⟩
  by_cases he : at' = l.length
  · have HZ := hid' (HNO.out (fun y r _ e => by rw [he, List.drop_length] at e; simp [doB] at e))
    subst he
    generalize l.length = ln at *
    clear HNO hb
    go_enter Try.func62, Try.ntmps62
    go_wp2
    go_ret3
    exact HZ.out
  · have hlt : at' < l.length := by omega
    obtain ⟨b, off, rfl, hc, h0, h1⟩ := hb.byte hlt
    have hd := drop_byte hlt
    have HD := hid' hd
    have HOK : Hid (DO (l.getD at' 0) → GotAns doB DO RepI l at' w (.returned (.tuple #[.int .i64 (l.getD at' 0), .int .i64 ((at' : Int) + 1), .int .i64 0])) w) := fun h => ⟨_, (at' : Int) + 1, 0, rfl, ⟨l.getD at' 0, rfl, .inl ⟨rfl, h, by rw [HD.out, show ((at' : Int) + 1).toNat = at' + 1 by omega]; rfl, by omega, by omega⟩⟩, Below.refl _ _⟩
    have HN2 : Hid (¬ DO (l.getD at' 0) → ∀ y r, DO y → l.drop at' ≠ doB y ++ r) := fun hn y r hy e => by
      rw [HD.out] at e
      simp [doB] at e
      rw [← e.1] at hy
      exact hn hy
    clear hb hd HD
    generalize l.getD at' 0 = d at *
    have hne : ¬ (at' : Int) = (l.length : Int) := by omega
    generalize l.length = ln at *
    by_cases hD : DO d
    · have hm := mask_pos hD
      have hm' : (mask d == 0) = false := by simpa using hm
      have HZ := hid' (HOK.out hD)
      have HU := hid' (usedBy_any d)
      clear HOK HN2 HNO hm
      generalize mask d = md at *
      go_enter Try.func62, Try.ntmps62
      go_wp2_with fail
      refine (HU.out _).mono ?_
      rintro e w1 ⟨rfl, rfl⟩
      go_wp2
      go_ret3
      exact HZ.out
    · have hm : mask d = 0 := mask_zero h0 (by unfold DO at hD; omega)
      have HZ := hid' (HNO.out (HN2.out hD))
      have HU := hid' (usedBy_any d)
      rw [hm] at HU
      clear HOK HN2 HNO hm
      go_enter Try.func62, Try.ntmps62
      go_wp2_with fail
      refine (HU.out _).mono ?_
      rintro e w1 ⟨rfl, rfl⟩
      go_wp2
      go_ret3
      exact HZ.out

/-- Bytes that a call has made of a text. -/
def RepB (B : Nat) (x : List Int) (v : Value) (W : World) : Prop := ∃ a c, v = .slice a x.length c ∧ BP (Since B) W a x ∧ Sh a x.length c ∧ Byt x

theorem new_bytes (w : World) (s : List Int) (hr : Byt s) : ∃ W c, (convert 9 22 (.string (strOfNums s))).run Try.prog w = .ok (.slice (some ⟨w.heap.size, 0, none⟩) s.length c) W ∧ Below w.heap.size w W ∧ RepB w.heap.size s (.slice (some ⟨w.heap.size, 0, none⟩) s.length c) W := by
  have h := Lib.run_convert_string_bytes (P := Try.prog) w 9 22 5 (strOfNums s) Try.underlying9 Try.underlying22 Try.underlying5
  rw [strOfNums_size] at h
  refine ⟨_, _, h, ⟨rfl, rfl, rfl, by rw [Lib.bytesWorld_size]; omega, fun k hk => Lib.bytesWorld_at_old _ _ _ _ hk⟩, _, _, rfl, ⟨fun hne => ⟨w.heap.size, 0, rfl, Nat.le_refl _, by rw [Lib.bytesWorld_size]; omega, fun i j hi hj => ?_⟩⟩, Sh.at _ _ _ (grownCap_ge _ _ _ _), hr⟩
  have hj0 : j = 0 := by omega
  subst hj0
  rw [Nat.zero_add, Nat.mul_one, Nat.add_zero, Lib.bytesWorld_cell _ _ _ _ (by rw [strOfNums_size]; exact hi)]
  have hn := nums_str hr
  have e : ((strOfNums s).data.toList.map fun b => (b.toNat : Int)).getD i 0 = s.getD i 0 := by
    show (nums (strOfNums s)).getD i 0 = _
    rw [hn]
  have hi2 : i < (strOfNums s).data.toList.length := by
    have : (strOfNums s).size = s.length := strOfNums_size s
    rw [Array.length_toList]
    show i < (strOfNums s).size
    rw [this]; exact hi
  simp only [List.getD, List.getElem?_map, List.getElem?_eq_getElem hi2, Option.map_some, Option.getD_some] at e
  have e2 : s.getD i 0 = ((strOfNums s).data.toList[i].toNat : Int) := by simp only [List.getD]; exact e.symm
  simp only [List.getD, List.getElem?_eq_getElem hi2, Option.getD_some]
  rw [show (s[i]?.getD 0) = s.getD i 0 from rfl, e2]
  rfl

theorem sheet_yes {l : List Int} (hl : Byt l) {at' : Nat} {s : List Int} {next : Int} {most : Nat} (h : TextRel l (at' : Int) (most : Int) s next 0) : s.length ≤ most ∧ Byt s ∧ l.drop at' = shB s ++ l.drop next.toNat ∧ (next.toNat : Int) = next ∧ next.toNat ≤ l.length := by
  rcases h with ⟨h0, _⟩ | ⟨_, n, fr, e0, hr, h⟩
  · omega
  · rcases h with ⟨h1, _, _, h2⟩ | ⟨_, _, _, _, h2⟩ | ⟨_, _, _, _, _, h2⟩ | ⟨h1, h2, h3, rfl, rfl, _⟩
    · exact absurd h2.symm h1
    · omega
    · omega
    · subst h1
      obtain ⟨y1, y2, y3, y4, y5⟩ := get_yes hr
      have hlen : ((l.drop fr.toNat).take n.toNat).length = n.toNat := by rw [List.length_take, List.length_drop]; omega
      have hb : Byt ((l.drop fr.toNat).take n.toNat) := fun z hz => hl z (List.mem_of_mem_drop (List.mem_of_mem_take hz))
      have en : (fr + n).toNat = fr.toNat + n.toNat := by omega
      refine ⟨by rw [hlen]; omega, hb, ?_, by omega, by omega⟩
      unfold shB
      rw [hlen, y1, List.append_assoc, en, ← List.drop_drop, List.take_append_drop]

theorem sheet_no {l : List Int} {at' : Nat} (ha : at' ≤ l.length) {s : List Int} {next er : Int} {most : Nat} (hm : most ≤ 1000000) (h : TextRel l (at' : Int) (most : Int) s next er) (he : er ≠ 0) : ∀ y r, y.length ≤ most → l.drop at' ≠ shB y ++ r := by
  intro y r hy e
  unfold shB at e
  rw [List.append_assoc] at e
  rcases h with ⟨h0, _⟩ | ⟨_, n, fr, e0, hr, h⟩
  · omega
  · rcases h with ⟨h1, _, _, h2⟩ | ⟨h1, h2, _⟩ | ⟨h1, h2, h3, _⟩ | ⟨_, _, _, _, _, h2⟩
    · exact get_no ha hr h1 _ _ (by omega) e
    · subst h1
      obtain ⟨y1, y2, _⟩ := get_yes hr
      rw [y1] at e
      have := (bytes_pf e).1
      omega
    · subst h1
      obtain ⟨y1, y2, y3, y4, y5⟩ := get_yes hr
      rw [y1] at e
      obtain ⟨e1, e2⟩ := bytes_pf e
      have := congrArg List.length e2
      rw [List.length_drop, List.length_append] at this
      omega
    · exact he h2

theorem text_zero {l : List Int} {at' most : Int} {s : List Int} {next er : Int} (h : TextRel l at' most s next er) (he : er ≠ 0) : s = [] ∧ next = 0 := by
  rcases h with ⟨_, h1, h2, _⟩ | ⟨_, n, fr, e0, hr, h⟩
  · exact ⟨h1, h2⟩
  · rcases h with ⟨_, h1, h2, _⟩ | ⟨_, _, h1, h2, _⟩ | ⟨_, _, _, h1, h2, _⟩ | ⟨_, _, _, _, _, h2⟩
    · exact ⟨h1, h2⟩
    · exact ⟨h1, h2⟩
    · exact ⟨h1, h2⟩
    · exact absurd h2 he

theorem text_byt {l : List Int} (hl : Byt l) {at' most : Int} {s : List Int} {next er : Int} (h : TextRel l at' most s next er) : Byt s := by
  rcases h with ⟨_, h1, h2, _⟩ | ⟨_, n, fr, e0, hr, h⟩
  · rw [h1]; exact Byt.nil
  · rcases h with ⟨_, h1, h2, _⟩ | ⟨_, _, h1, h2, _⟩ | ⟨_, _, _, h1, h2, _⟩ | ⟨_, _, _, h1, _, _⟩
    · rw [h1]; exact Byt.nil
    · rw [h1]; exact Byt.nil
    · rw [h1]; exact Byt.nil
    · rw [h1]; exact fun z hz => hl z (List.mem_of_mem_drop (List.mem_of_mem_take hz))

theorem got_sheet {l : List Int} (hl : Byt l) {at' : Nat} (ha : at' ≤ l.length) {s : List Int} {next er : Int} (h : TextRel l (at' : Int) 65536 s next er) {B : Nat} {v : Value} {W : World} (hv : RepB B s v W) : GotR shB SN (RepB B) l at' v next er W := by
  refine ⟨s, hv, ?_⟩
  by_cases h0 : er = 0
  · subst h0
    obtain ⟨y1, y2, y3, y4, y5⟩ := sheet_yes (most := 65536) hl h
    exact .inl ⟨rfl, ⟨y1, y2⟩, y3, y4, y5⟩
  · exact .inr ⟨h0, fun y r hy => sheet_no (most := 65536) ha (by omega) h h0 y r hy.1⟩

set_option maxHeartbeats 2000000 in
theorem getSheet_any (w : World) (ba : Option Addr) (cap : Nat) (l : List Int) (at' : Nat) (hb : Bts w.heap.size w ba l) (ha : at' ≤ l.length) (hc : l.length ≤ cap) (hl : l.length ≤ 1000000000) :
    Calls Try.prog 65 #[.slice ba l.length cap, .int .i64 (at' : Int)] w (GotAns shB SN (RepB w.heap.size) l at' w) := by
  have HT := hid' (getText_any w ba cap l at' 65536 hb hc hl (by omega))
  have HBY := hid' hb.range
  have HF : Hid (∀ s next er v W, TextRel l (at' : Int) 65536 s next er → RepB w.heap.size s v W → Below w.heap.size w W → GotAns shB SN (RepB w.heap.size) l at' w (.returned (.tuple #[v, .int .i64 next, .int .i64 er])) W) := fun s next er v W h1 h2 h3 => ⟨_, _, _, rfl, got_sheet HBY.out ha h1 h2, h3⟩
  clear hb
  generalize l.length = ln at *
  go_enter Try.func65, Try.ntmps65
  go_wp2_with fail
  refine HT.out.mono ?_
  rintro e w1 ⟨⟨s, next, er, rfl, hrel⟩, rfl⟩
  obtain ⟨W, c, hcv, hbel, hrep⟩ := new_bytes w1 s (text_byt HBY.out hrel)
  have HZ := hid' (HF.out s next er _ W hrel hrep hbel)
  clear HT HF hrel hbel hrep
  go_wp2
  go_ret3
  exact HZ.out

def RepVal (x : V) (v : Value) (_ : World) : Prop := v = .agg #[.int .i64 x.1, .int .i64 x.2.1, .string x.2.2]

theorem strB_sh {s : List Int} (h : Byt s) : strB (strOfNums s) = shB s := by
  unfold strB shB
  rw [nums_str h, strOfNums_size]

theorem val_no_end {l : List Int} {at' : Nat} (h : at' = l.length) : ∀ y r, VN y → l.drop at' ≠ valB y ++ r := fun y r _ e => by
  rw [h, List.drop_length] at e
  simp [valB] at e

theorem val_no_kind {l : List Int} {at' : Nat} (hlt : at' < l.length) (h0 : l.getD at' 0 ≠ 0) (h1 : l.getD at' 0 ≠ 1) : ∀ y r, VN y → l.drop at' ≠ valB y ++ r := fun y r hy e => by
  rw [drop_byte hlt] at e
  simp [valB] at e
  rcases hy with ⟨h, _⟩ | ⟨h, _⟩
  · rw [h] at e; exact h0 (by simpa [List.getD] using e.1)
  · rw [h] at e; exact h1 (by simpa [List.getD] using e.1)

theorem got_val0 {l : List Int} {at' : Nat} (hlt : at' < l.length) (hk : l.getD at' 0 = 0) {n next er : Int} (h : GetRel l ((at' + 1 : Nat) : Int) n next er) (W : World) : GotR valB VN RepVal l at' (.agg #[.int .i64 0, .int .i64 (unzig n), .string ⟨#[]⟩]) next er W := by
  refine ⟨(0, unzig n, ⟨#[]⟩), rfl, ?_⟩
  have hd := drop_byte hlt
  rw [hk] at hd
  by_cases h0 : er = 0
  · subst h0
    obtain ⟨y1, y2, y3, y4, y5⟩ := get_yes h
    refine .inl ⟨rfl, .inl ⟨rfl, unzig_rng y2 y3, rfl⟩, ?_, y4, y5⟩
    rw [hd, y1]
    simp [valB, oneB, zig_unzig y2]
  · refine .inr ⟨h0, fun y r hy e => ?_⟩
    rw [hd] at e
    simp only [valB, List.cons_append, List.cons.injEq] at e
    have e1 := e.1
    rw [← e.1, if_neg (by omega)] at e
    rcases hy with ⟨_, h2, _⟩ | ⟨h2, _⟩
    · exact get_no (by omega) h h0 _ r (zig_small h2) e.2
    · omega

theorem got_val1 {l : List Int} (hl : Byt l) {at' : Nat} (hlt : at' < l.length) (hk : l.getD at' 0 = 1) {s : List Int} {next er : Int} (h : TextRel l ((at' + 1 : Nat) : Int) 4096 s next er) (W : World) : GotR valB VN RepVal l at' (.agg #[.int .i64 1, .int .i64 0, .string (strOfNums s)]) next er W := by
  refine ⟨(1, 0, strOfNums s), rfl, ?_⟩
  have hd := drop_byte hlt
  rw [hk] at hd
  have hs := text_byt hl h
  by_cases h0 : er = 0
  · subst h0
    obtain ⟨y1, y2, y3, y4, y5⟩ := sheet_yes (most := 4096) hl h
    refine .inl ⟨rfl, .inr ⟨rfl, rfl, by rw [strOfNums_size]; exact y1⟩, ?_, y4, y5⟩
    rw [hd, y3]
    simp [valB, strB_sh hs]
  · refine .inr ⟨h0, fun y r hy e => ?_⟩
    rw [hd] at e
    simp only [valB, List.cons_append, List.cons.injEq] at e
    have e1 := e.1
    rw [← e.1, if_pos rfl] at e
    rcases hy with ⟨h2, _⟩ | ⟨_, _, h2⟩
    · omega
    · have e3 : strB y.2.2 = shB (nums y.2.2) := by unfold strB shB; rw [nums_length]
      rw [e3] at e
      exact sheet_no (most := 4096) (by omega) (by omega) h h0 _ r (by rw [nums_length]; exact h2) e.2

set_option maxHeartbeats 4000000 in
theorem getVal_any (w : World) (ba : Option Addr) (cap : Nat) (l : List Int) (at' : Nat) (hb : Bts w.heap.size w ba l) (ha : at' ≤ l.length) (hc : l.length ≤ cap) (hl : l.length ≤ 1000000000) :
    Calls Try.prog 78 #[.slice ba l.length cap, .int .i64 (at' : Int)] w (GotAns valB VN RepVal l at' w) := by
  have BA : Below w.heap.size w (w.alloc (.cells #[.int .i64 0, .int .i64 0, .string ⟨#[]⟩] 78)) := (Below.refl _ _).alloc (Nat.le_refl _) _
  by_cases he : at' = l.length
  · have HF : Hid (GotAns valB VN RepVal l at' w (.returned (.tuple #[.agg #[.int .i64 0, .int .i64 0, .string ⟨#[]⟩], .int .i64 0, .int .i64 6])) (w.alloc (.cells #[.int .i64 0, .int .i64 0, .string ⟨#[]⟩] 78))) := ⟨_, 0, 6, rfl, ⟨(0, 0, ⟨#[]⟩), rfl, .inr ⟨by omega, val_no_end he⟩⟩, BA⟩
    subst he
    generalize l.length = ln at *
    clear hb BA
    go_enter Try.func78, Try.ntmps78
    go_wp2
    refine bodyPost_ret (v := .tuple #[.agg #[.int .i64 0, .int .i64 0, .string ⟨#[]⟩], .int .i64 0, .int .i64 6]) ?_ rfl HF.out
    unfold results
    go_simp
  · have hlt : at' < l.length := by omega
    obtain ⟨b, off, hba, hcell, h0, h1⟩ := hb.byte hlt
    have hblt : b < w.heap.size := by
      obtain ⟨b', off', e', hb', _⟩ := hb.cells (by rintro rfl; simp at hlt)
      rw [hba] at e'; cases e'; exact hb'
    have hcell' : ∀ o, (w.alloc o).cell? ⟨b, off + at', none⟩ = some (.int .u8 (l.getD at' 0)) := fun o => (((Below.refl _ w).alloc (Nat.le_refl _) o).cell (p := ⟨b, off + at', none⟩) hblt).trans hcell
    have hne : ¬ (at' : Int) = (l.length : Int) := by omega
    have ec : ((at' + 1 : Nat) : Int) = (at' : Int) + 1 := by simp
    have BL : ∀ o, Below w.heap.size w (w.alloc o) := fun o => (Below.refl _ _).alloc (Nat.le_refl _) _
    by_cases hk0 : l.getD at' 0 = 0
    · have HG := hid' (getInt_any (w.alloc (.cells #[.int .i64 0, .int .i64 0, .string ⟨#[]⟩] 78)) ba cap l ((at' + 1 : Nat) : Int) ((hb.keep (BL _)).mono (BL _).size) hc hl)
      have HF : Hid (∀ n next er, GetRel l ((at' : Int) + 1) n next er → GotAns valB VN RepVal l at' w (.returned (.tuple #[.agg #[.int .i64 0, .int .i64 (unzig n), .string ⟨#[]⟩], .int .i64 next, .int .i64 er])) (w.alloc (.cells #[.int .i64 0, .int .i64 (unzig n), .string ⟨#[]⟩] 78))) := fun n next er h => ⟨_, next, er, rfl, got_val0 hlt hk0 (by rw [ec]; exact h) _, BL _⟩
      have hc0 := hcell' (.cells #[.int .i64 0, .int .i64 0, .string ⟨#[]⟩] 78)
      rw [hk0] at hc0
      rw [ec] at HG
      clear hb hcell hcell' BA BL he
      subst hba
      generalize l.length = ln at *
      go_enter Try.func78, Try.ntmps78
      go_wp2_with fail
      refine HG.out.mono ?_
      rintro e w1 ⟨⟨n, next, er, rfl, hrel⟩, rfl⟩
      have HZ := hid' (HF.out n next er hrel)
      clear HG HF hrel
      generalize unzig n = un at *
      go_wp2
      refine bodyPost_ret (v := .tuple #[.agg #[.int .i64 0, .int .i64 un, .string ⟨#[]⟩], .int .i64 next, .int .i64 er]) ?_ rfl HZ.out
      unfold results
      go_simp
    · by_cases hk1 : l.getD at' 0 = 1
      · have HG := hid' (getText_any (w.alloc (.cells #[.int .i64 1, .int .i64 0, .string ⟨#[]⟩] 78)) ba cap l ((at' + 1 : Nat) : Int) 4096 ((hb.keep (BL _)).mono (BL _).size) hc hl (by omega))
        have HBY := hid' hb.range
        have HF : Hid (∀ s next er, TextRel l ((at' : Int) + 1) 4096 s next er → GotAns valB VN RepVal l at' w (.returned (.tuple #[.agg #[.int .i64 1, .int .i64 0, .string (strOfNums s)], .int .i64 next, .int .i64 er])) (w.alloc (.cells #[.int .i64 1, .int .i64 0, .string (strOfNums s)] 78))) := fun s next er h => ⟨_, next, er, rfl, got_val1 HBY.out hlt hk1 (by rw [ec]; exact h) _, BL _⟩
        have hc0 := hcell' (.cells #[.int .i64 0, .int .i64 0, .string ⟨#[]⟩] 78)
        rw [hk1] at hc0
        rw [ec] at HG
        clear hb hcell hcell' BA BL he hk0
        subst hba
        generalize l.length = ln at *
        go_enter Try.func78, Try.ntmps78
        go_wp2_with fail
        refine HG.out.mono ?_
        rintro e w1 ⟨⟨s, next, er, rfl, hrel⟩, rfl⟩
        have HZ := hid' (HF.out s next er hrel)
        clear HG HF hrel
        generalize strOfNums s = st at *
        go_wp2
        refine bodyPost_ret (v := .tuple #[.agg #[.int .i64 1, .int .i64 0, .string st], .int .i64 next, .int .i64 er]) ?_ rfl HZ.out
        unfold results
        go_simp
      · have HF : Hid (GotAns valB VN RepVal l at' w (.returned (.tuple #[.agg #[.int .i64 (l.getD at' 0), .int .i64 0, .string ⟨#[]⟩], .int .i64 0, .int .i64 6])) (w.alloc (.cells #[.int .i64 (l.getD at' 0), .int .i64 0, .string ⟨#[]⟩] 78))) := ⟨_, 0, 6, rfl, ⟨(l.getD at' 0, 0, ⟨#[]⟩), rfl, .inr ⟨by omega, val_no_kind hlt hk0 hk1⟩⟩, BL _⟩
        have hc0 := hcell' (.cells #[.int .i64 0, .int .i64 0, .string ⟨#[]⟩] 78)
        have b0 : (l.getD at' 0 == 0) = false := by simpa using hk0
        have b1 : (l.getD at' 0 == 1) = false := by simpa using hk1
        clear hb hcell hcell' BA BL he hk0 hk1
        subst hba
        generalize l.getD at' 0 = d at *
        generalize l.length = ln at *
        go_enter Try.func78, Try.ntmps78
        go_wp2
        refine bodyPost_ret (v := .tuple #[.agg #[.int .i64 d, .int .i64 0, .string ⟨#[]⟩], .int .i64 0, .int .i64 6]) ?_ rfl HF.out
        unfold results
        go_simp

end Go.Proofs.Ytgalmkhgbokidaa

namespace Go.Proofs.Ytgalmkhgbokidaa
open Go.RowKit Go.Proofs
set_option maxRecDepth 20000
set_option linter.unusedVariables false
set_option linter.unusedSimpArgs false

def RepVs (B : Nat) (x : List V) (v : Value) (W : World) : Prop := ∃ a c, v = .slice a x.length c ∧ VP (Since B) W a x ∧ Sh a x.length c

theorem RepVs.nil (B : Nat) (W : World) : RepVs B [] (.slice none 0 0) W := ⟨none, 0, rfl, SP.nil _ _ _, Sh.nil⟩

/-- What holds in the loop of row.Get: the row at block F. -/
def rgInv (w : World) (F : Nat) (l : List Int) (at0 n k : Nat) (r nx i : Value) (wr : World) : Prop :=
  ∃ (done : List V) (nxt : Nat), r = .slice (some ⟨F, 0, none⟩) n n ∧ done.length + k = n ∧ i = .int .i64 (done.length : Int) ∧ nx = .int .i64 (nxt : Int) ∧ nxt ≤ l.length ∧ Mk 3 cV 78 wr F n done ∧ RdL valB VN 16 n (some (l.drop at0)) done (some (l.drop nxt)) ∧ Below w.heap.size w wr

theorem getRel_out {l : List Int} {at' n next er : Int} (h : GetRel l at' n next er) : (er = 9 ∧ (at' < 0 ∨ (l.length : Int) < at')) ∨ (er ≠ 9 ∧ 0 ≤ at' ∧ at' ≤ l.length ∧ (er = 0 ∨ er = 6)) := by
  rcases h with ⟨h1, _, _, h2⟩ | ⟨h1, h2, _, _, _, h3⟩ | ⟨h1, h2, _, _, _, h3⟩
  · exact .inl ⟨h2, h1⟩
  · exact .inr ⟨by omega, h1, h2, .inl h3⟩
  · exact .inr ⟨by omega, h1, h2, .inr h3⟩

set_option maxHeartbeats 4000000 in
theorem rowGet_any (w : World) (ba : Option Addr) (cap : Nat) (l : List Int) (at' : Int) (hb : Bts w.heap.size w ba l) (hc : l.length ≤ cap) (hl : l.length ≤ 1000000000) :
    Calls Try.prog 67 #[.slice ba l.length cap, .int .i64 at'] w (GAns rowB (LD 16 VN) RepVs [] l at' w) := by
  obtain ⟨i0, hi, hz0, hz1, hz2⟩ := info_parts Try.infoVal
  have HG := hid' (get_any w ba cap l at' hb hc hl)
  have HV := hid' (fun W (hW : Below w.heap.size w W) (a : Nat) (ha : a ≤ l.length) => getVal_any W ba cap l a ((hb.keep hW).mono hW.size) ha hc hl)
  have HOUT : Hid ((at' < 0 ∨ (l.length : Int) < at') → GAns rowB (LD 16 VN) RepVs [] l at' w (.returned (.tuple #[.slice none 0 0, .int .i64 0, .int .i64 9])) w) := fun h => ⟨[], _, 0, 9, rfl, RepVs.nil _ _, Below.refl _ _, .inl ⟨h, rfl, rfl, rfl⟩⟩
  have HNO : Hid (∀ W, 0 ≤ at' → at' ≤ l.length → Below w.heap.size w W → (∀ y r, LD 16 VN y → l.drop at'.toNat ≠ rowB y ++ r) → GAns rowB (LD 16 VN) RepVs [] l at' w (.returned (.tuple #[.slice none 0 0, .int .i64 0, .int .i64 6])) W) := fun W h1 h2 h3 h4 => ⟨[], _, 0, 6, rfl, RepVs.nil _ _, h3, .inr (.inr ⟨h1, h2, rfl, rfl, rfl, h4⟩)⟩
  have HOK : Hid (∀ (x : List V) (F c nx : Nat) W, 0 ≤ at' → at' ≤ l.length → Below w.heap.size w W → VP (Since w.heap.size) W (some ⟨F, 0, none⟩) x → Sh (some ⟨F, 0, none⟩) x.length c → LD 16 VN x → l.drop at'.toNat = rowB x ++ l.drop nx → nx ≤ l.length → GAns rowB (LD 16 VN) RepVs [] l at' w (.returned (.tuple #[.slice (some ⟨F, 0, none⟩) x.length c, .int .i64 (nx : Int), .int .i64 0])) W) := fun x F c nx W g1 g2 h1 h2 h3 h4 h5 h6 =>
    ⟨x, _, nx, 0, rfl, ⟨_, c, rfl, h2, h3⟩, h1, .inr (.inl ⟨g1, g2, rfl, h4, by simpa using h5, by simp, by simpa using h6⟩)⟩
  obtain ⟨ln, hln⟩ : ∃ n, l.length = n := ⟨_, rfl⟩
  rw [hln] at HG HV ⊢
  have HLN := hid' hln
  clear hb hln
  go_enter Try.func67, Try.ntmps67
  go_wp2_with fail
  refine HG.out.mono ?_
  rintro e w1 ⟨⟨n, next, er, rfl, hrel⟩, rfl⟩
  clear HG
  rcases getRel_out hrel with ⟨rfl, hout⟩ | ⟨h9, hlo, hhi, her⟩
  · have HZ := hid' (HOUT.out hout)
    clear HOUT HNO HOK HV hrel
    go_wp2
    go_ret3
    exact HZ.out
  · obtain ⟨at0, rfl⟩ := Int.eq_ofNat_of_zero_le hlo
    have hat : at0 ≤ l.length := by omega
    rw [Int.toNat_natCast] at HNO HOK
    rcases her with rfl | rfl
    · obtain ⟨y1, y2, y3, y4, y5⟩ := get_yes hrel
      obtain ⟨m, rfl⟩ := Int.eq_ofNat_of_zero_le y2
      rw [Int.toNat_natCast] at y1
      obtain ⟨nxt, rfl⟩ := Int.eq_ofNat_of_zero_le (show 0 ≤ next by omega)
      rw [Int.toNat_natCast] at y1 y5
      have HRD : Hid (Rd bytesOf U64 (some (l.drop at0)) m (some (l.drop nxt))) := (⟨by unfold U64; omega, y1⟩ : _ ∧ _)
      clear y1 hrel HOUT y4
      by_cases hmany : 16 < m
      · have HZ := hid' (HNO.out w1 hlo hhi (Below.refl _ _) (num_many HRD.out hmany (by omega)))
        have hm' : (16 : Int) < (m : Int) := by omega
        clear HNO HOK HV HRD
        go_wp2
        go_ret3
        exact HZ.out
      · have hm' : ¬ (16 : Int) < (m : Int) := by omega
        go_wp2_with (at_make; refine wpList_make_full _ rfl _ _ 24 rfl w1.heap.size 78 i0 _ 3 Try.underlying24 hi hz0 hz1 .u64 .u64 _ _ m rfl rfl rfl rfl (by rw [hz2]; omega) (by unfold maxLen; omega) (Nat.le_refl _) ?_; intro w2 hmade hgrow)
        obtain ⟨hbx, hlen⟩ := made_bx hmade
        have hB2 : Below w1.heap.size w1 w2 := ⟨hgrow.os, hgrow.tape, hgrow.output, hgrow.size, fun k hk => hgrow.block k hk (by simp)⟩
        have H0 : Hid (rgInv w1 w1.heap.size l at0 m m (.slice (some ⟨w1.heap.size, 0, none⟩) m m) (.int .i64 (nxt : Int)) (.int .i64 0) w2) := ⟨[], nxt, rfl, by simp, rfl, rfl, y5, Mk.start hbx hlen, RdL.start (num_few HRD.out (by omega)), hB2⟩
        have HI : Hid (∀ k r nx i wr, rgInv w1 w1.heap.size l at0 m k r nx i wr → ∃ (done : List V) (nxt : Nat), r = .slice (some ⟨w1.heap.size, 0, none⟩) m m ∧ done.length + k = m ∧ i = .int .i64 (done.length : Int) ∧ nx = .int .i64 (nxt : Int) ∧ nxt ≤ l.length ∧ Mk 3 cV 78 wr w1.heap.size m done ∧ RdL valB VN 16 m (some (l.drop at0)) done (some (l.drop nxt)) ∧ Below w1.heap.size w1 wr) := fun k r nx i wr h => h
        obtain ⟨F, hF⟩ : ∃ F, w1.heap.size = F := ⟨_, rfl⟩
        have HFE := hid' hF
        rw [hF] at H0 HI ⊢
        clear hmade hgrow hbx hlen hB2 HRD hF y5
        go_wp2
        go_loopg [4, 5, 25, 6, 8] m (fun k r nx i e6 _ wr => rgInv w1 F l at0 m k r nx i wr)
        case atStart => exact H0.out
        case round =>
          obtain ⟨done, nxt, rfl, hj, rfl, rfl, hnx, hmk, hrl, hbel⟩ := HI.out _ _ _ _ _ hrel
          clear hrel H0
          cases gk with
          | zero =>
            have hdn : done.length = m := by omega
            have hrd := hrl.done (.inr hdn)
            have HZ := hid' (HOK.out done F m nxt wr hlo hhi (by rw [HFE.out]; exact hbel) (by have := HFE.out; exact Mk.sp cV_len hmk hdn (by omega)) (Sh.at _ _ _ (by omega)) hrd.1 hrd.2 hnx)
            rw [hdn] at HZ
            clear HNO HOK HV hmk hrl hbel hrd
            go_wp2
            go_ret3
            exact HZ.out
          | succ k =>
            have HC := hid' (HV.out wr (by rw [HFE.out]; exact hbel) nxt (by have := HLN.out; omega))
            have hlt : done.length < m := by omega
            have HMK := hid' hmk
            have HRL := hid' hrl
            have HBE := hid' hbel
            have hFl := hmk.lt
            clear hmk hrl hbel
            go_wp2_with fail
            refine HC.out.mono ?_
            rintro e w3 ⟨v, next, er, rfl, ⟨x, hv, hgot⟩, hb3⟩
            unfold RepVal at hv
            subst hv
            have mk3 : Mk 3 cV 78 w3 F m done := HMK.out.keep (hb3.block F hFl)
            obtain ⟨u0, hu0⟩ := mk3.cell (i := done.length * 3) (by omega)
            obtain ⟨u1, hu1⟩ := mk3.cell (i := done.length * 3 + 1) (by omega)
            obtain ⟨u2, hu2⟩ := mk3.cell (i := done.length * 3 + 2) (by omega)
            have f0 := mk3.frozen (done.length * 3)
            have f1 := mk3.frozen (done.length * 3 + 1)
            have f2 := mk3.frozen (done.length * 3 + 2)
            have hbW : Below F w1 (((w3.setCell ⟨F, done.length * 3, none⟩ (.int .i64 x.1)).setCell ⟨F, done.length * 3 + 1, none⟩ (.int .i64 x.2.1)).setCell ⟨F, done.length * 3 + 2, none⟩ (.string x.2.2)) :=
              (((HBE.out.trans (hb3.mono (by omega))).setCell (p := ⟨F, _, none⟩) (Nat.le_refl _) _).setCell (p := ⟨F, _, none⟩) (Nat.le_refl _) _).setCell (p := ⟨F, _, none⟩) (Nat.le_refl _) _
            rcases hgot with ⟨rfl, hD, hdr, hnn, hnl⟩ | ⟨h0, hno⟩
            · obtain ⟨nx3, rfl⟩ := Int.eq_ofNat_of_zero_le (show 0 ≤ next by omega)
              rw [Int.toNat_natCast] at hdr hnl
              have H3 : Hid (rgInv w1 F l at0 m k (.slice (some ⟨F, 0, none⟩) m m) (.int .i64 (nx3 : Int)) (.int .i64 ((done.length : Int) + 1)) (((w3.setCell ⟨F, done.length * 3, none⟩ (.int .i64 x.1)).setCell ⟨F, done.length * 3 + 1, none⟩ (.int .i64 x.2.1)).setCell ⟨F, done.length * 3 + 2, none⟩ (.string x.2.2))) :=
                ⟨done ++ [x], nx3, rfl, by simp; omega, by simp, rfl, hnl, mk3.push3 rfl hlt, HRL.out.push pf_val hlt ⟨hD, hdr⟩, by rw [HFE.out]; exact hbW⟩
              clear HC mk3 HMK HRL HBE hD hdr hnn hnl hbW HV
              generalize hdl : done.length = dl at *
              go_wp2
              go_roundg k
              case measure => omega
              case rel => exact H3.out
            · have hrdl := HRL.out.push (x := x) (s2 := none) pf_val hlt hno
              have HZ := hid' (HNO.out _ hlo hhi (by rw [HFE.out]; exact hbW) hrdl)
              have h0' : (er != 0) = true := by simpa using h0
              clear HC mk3 HMK HRL HBE hno hbW HV HNO HOK hrdl
              generalize hdl : done.length = dl at *
              go_wp2
              go_ret3
              exact HZ.out
    · have HZ := hid' (HNO.out w1 hlo hhi (Below.refl _ _) (fun y r hy e => by
        unfold rowB listB at e
        rw [List.append_assoc] at e
        exact get_no hat hrel (by omega) y.length _ (by have := hy.1; omega) e))
      clear HOUT HNO HOK HV hrel
      go_wp2
      go_ret3
      exact HZ.out

/-- From what a function answers anywhere to what it tells within. -/
theorem GAns.got {α : Type} {f : α → List Int} {D : α → Prop} {Rep : Nat → α → Value → World → Prop} {d : α} {l : List Int} {at' : Nat} {w w' : World} {e : Ending} (ha : at' ≤ l.length) (h : GAns f D Rep d l (at' : Int) w e w') : GotAns f D (Rep w.heap.size) l at' w e w' := by
  obtain ⟨x, v, next, er, rfl, hr, hb, hc⟩ := h
  refine ⟨v, next, er, rfl, ⟨x, hr, ?_⟩, hb⟩
  rcases hc with ⟨h1, _⟩ | ⟨_, _, h1, h2, h3, h4, h5⟩ | ⟨_, _, h1, _, _, h2⟩
  · omega
  · exact .inl ⟨h1, h2, by simpa using h3, h4, h5⟩
  · exact .inr ⟨by omega, by simpa using h2⟩

theorem takeDo_any (w : World) (g : Nat) (ba : Option Addr) (cap : Nat) (l : List Int) (s : Option (List Int)) (hr : RdS w g ba cap l s) (hb : Bts g w ba l) (hl : l.length ≤ 1000000000) : Calls Try.prog 61 #[.pointer (some ⟨g, 0, none⟩), .func (.func 62) #[] #[]] w (RdAns doB DO RepI w g ba cap l s) := by
  have hgl := hr.lt
  obtain ⟨at', bad, ha, hbx, rfl⟩ := hr.open'
  refine (takeI_any (GotR doB DO RepI l at') 62 _ Try.func62 rfl rfl w g ba l.length cap at' bad hbx (fun W hW => ?_)).mono (fun e w' h => take_rd ha (fun x v W W' h _ => h) h)
  exact getDo_any W ba cap l at' ((hb.keep (hW.mono (Nat.le_of_lt hgl))).mono (by have := hW.size; omega)) ha hl

section
variable (w : World) (g : Nat) (ba : Option Addr) (cap : Nat) (l : List Int) (s : Option (List Int)) (hr : RdS w g ba cap l s) (hb : Bts g w ba l) (hc : l.length ≤ cap) (hl : l.length ≤ 1000000000)
include hr hb hc hl

theorem takeSheet_any (B : Nat) (hB : g < B) (hBw : B ≤ w.heap.size) : Calls Try.prog 64 #[.pointer (some ⟨g, 0, none⟩), .func (.func 65) #[] #[]] w (RdAns shB SN (RepB B) w g ba cap l s) := by
  have hgl := hr.lt
  obtain ⟨at', bad, ha, hbx, rfl⟩ := hr.open'
  refine (takeB_any (GotR shB SN (RepB B) l at') 65 _ Try.func65 rfl rfl w g ba l.length cap at' bad hbx (fun W hW => ?_)).mono (fun e w' h => take_rd ha (fun x v W W' ⟨a, c, h1, h2, h3⟩ hb => ⟨a, c, h1, SP.but h2 hb (fun k hk => by unfold Since at hk; omega), h3⟩) h)
  refine (getSheet_any W ba cap l at' ((hb.keep (hW.mono (Nat.le_of_lt hgl))).mono (by have := hW.size; omega)) ha hc hl).mono ?_
  rintro e w' ⟨v, next, er, rfl, ⟨x, ⟨a, c, h1, h2, h3⟩, hx⟩, hb'⟩
  exact ⟨v, next, er, rfl, ⟨x, ⟨a, c, h1, SP.mono h2 (fun k hk => by unfold Since at *; have := hW.size; omega), h3⟩, hx⟩, hb'⟩

theorem takeRow_any (B : Nat) (hB : g < B) (hBw : B ≤ w.heap.size) : Calls Try.prog 66 #[.pointer (some ⟨g, 0, none⟩), .func (.func 67) #[] #[]] w (RdAns rowB (LD 16 VN) (RepVs B) w g ba cap l s) := by
  have hgl := hr.lt
  obtain ⟨at', bad, ha, hbx, rfl⟩ := hr.open'
  refine (takeV_any (GotR rowB (LD 16 VN) (RepVs B) l at') 67 _ Try.func67 rfl rfl w g ba l.length cap at' bad hbx (fun W hW => ?_)).mono (fun e w' h => take_rd ha (fun x v W W' ⟨a, c, h1, h2, h3⟩ hb => ⟨a, c, h1, SP.but h2 hb (fun k hk => by unfold Since at hk; omega), h3⟩) h)
  refine (rowGet_any W ba cap l (at' : Int) ((hb.keep (hW.mono (Nat.le_of_lt hgl))).mono (by have := hW.size; omega)) hc hl).mono ?_
  intro e w' h
  obtain ⟨v, next, er, rfl, ⟨x, ⟨a, c, h1, h2, h3⟩, hx⟩, hb'⟩ := h.got ha
  exact ⟨v, next, er, rfl, ⟨x, ⟨a, c, h1, SP.mono h2 (fun k hk => by unfold Since at *; have := hW.size; omega), h3⟩, hx⟩, hb'⟩

theorem takeFront_any (B : Nat) (hB : g < B) (hBw : B ≤ w.heap.size) : Calls Try.prog 68 #[.pointer (some ⟨g, 0, none⟩), .func (.func 20) #[] #[]] w (RdAns frontB (LD 16 RT) (RepTs B) w g ba cap l s) := by
  have hgl := hr.lt
  obtain ⟨at', bad, ha, hbx, rfl⟩ := hr.open'
  refine (takeT_any (GotR frontB (LD 16 RT) (RepTs B) l at') 20 _ Try.func20 rfl rfl w g ba l.length cap at' bad hbx (fun W hW => ?_)).mono (fun e w' h => take_rd ha (fun x v W W' ⟨a, c, h1, h2, h3⟩ hb => ⟨a, c, h1, SP.but h2 hb (fun k hk => by unfold Since at hk; omega), h3⟩) h)
  refine (getFront_any W ba cap l (at' : Int) ((hb.keep (hW.mono (Nat.le_of_lt hgl))).mono (by have := hW.size; omega)) hc hl).mono ?_
  intro e w' h
  obtain ⟨v, next, er, rfl, ⟨x, ⟨a, c, h1, h2, h3⟩, hx⟩, hb'⟩ := h.got ha
  exact ⟨v, next, er, rfl, ⟨x, ⟨a, c, h1, SP.mono h2 (fun k hk => by unfold Since at *; have := hW.size; omega), h3⟩, hx⟩, hb'⟩
end

end Go.Proofs.Ytgalmkhgbokidaa

namespace Go.Proofs.Ytgalmkhgbokidaa
open Go.RowKit Go.Proofs
set_option maxRecDepth 20000
set_option linter.unusedVariables false
set_option linter.unusedSimpArgs false

/-- What bytes tell of a command whose byte d has been read. -/
def restB (c : Cm) : List Int := if c.op = 0 then shB c.sheet else oneB c.node ++ tailB c

theorem cmd_rest (c : Cm) : cmdB c = doB c.op ++ restB c := rfl

/-- The commands of one kind. -/
def NiceD (d : Int) (c : Cm) : Prop := Nice c ∧ c.op = d

theorem Rd.cmd {s s1 s2 : Option (List Int)} {d : Int} {c : Cm} (h1 : Rd doB DO s d s1) (h2 : s1 ≠ none → Rd restB (NiceD d) s1 c s2) (hn : s1 = none → s2 = none) : Rd cmdB Nice s c s2 := by
  cases s with
  | none =>
    have e := h1.bad
    rw [hn e]
    trivial
  | some r =>
    cases s1 with
    | none =>
      rw [hn rfl]
      intro y r' hy e
      rw [cmd_rest, List.append_assoc] at e
      exact h1 y.op _ ⟨hy.lo, hy.hi⟩ e
    | some r1 =>
      obtain ⟨d1, e1⟩ := h1
      have h2 := h2 (by simp)
      cases s2 with
      | none =>
        intro y r' hy e
        rw [cmd_rest, List.append_assoc, e1] at e
        obtain ⟨e3, e4⟩ := pf_do _ _ _ _ d1 ⟨hy.lo, hy.hi⟩ e
        exact h2 y r' ⟨hy, e3.symm⟩ e4
      | some r2 =>
        obtain ⟨⟨h3, h4⟩, e2⟩ := h2
        refine ⟨h3, ?_⟩
        rw [cmd_rest, h4, List.append_assoc, e1, e2]

/-- A command read: its cells. -/
def RepC (B : Nat) (x : Cm) (v : Value) (W : World) : Prop := ∃ s, v = cmV x s ∧ CmR (Since B) W x s

/-- What holds while command goes on: its result's block R, the command's block C, the reader's block g, memory from B on its own. -/
structure CS (w : World) (g R C : Nat) (ba : Option Addr) (cap : Nat) (l : List Int) (c : Cm) (s : CmS) (st : Option (List Int)) (W : World) : Prop where
  but : But g w W
  res : Bx W R (cmA c0 s0) 31
  bx : Bx W C (cmA c s) 31
  rd : RdS W g ba cap l st
  cm : CmR (fun k => g < k ∧ k ≠ R ∧ k ≠ C) W c s
  hR : w.heap.size ≤ R
  hC : w.heap.size ≤ C
  hg : g < w.heap.size
  hRC : R ≠ C

section
variable {w : World} {g R C : Nat} {ba : Option Addr} {cap : Nat} {l : List Int} {c : Cm} {s : CmS} {st st' : Option (List Int)} {W W' : World}

theorem CS.call (h : CS w g R C ba cap l c s st W) (hb : But g W W') (hr : RdS W' g ba cap l st') : CS w g R C ba cap l c s st' W' :=
  have h1 := h.hR
  have h2 := h.hC
  have h3 := h.hg
  ⟨h.but.trans hb, h.res.but hb (by omega), h.bx.but hb (by omega), hr, h.cm.keep (fun k hk hl => ⟨hb.block k hl (by omega), hk⟩) hb.size, h.hR, h.hC, h.hg, h.hRC⟩

theorem CS.bts (h : CS w g R C ba cap l c s st W) (hb : Bts g w ba l) : Bts g W ba l := hb.keep (h.but.below (Nat.le_of_lt h.hg))

theorem CS.frozen (h : CS w g R C ba cap l c s st W) (i : Nat) : W.frozen? ⟨C, i, none⟩ = false := h.bx.frozen i

theorem CS.set {i : Nat} {v : Value} {c' : Cm} {s' : CmS} (h : CS w g R C ba cap l c s st W) (he : (cmA c s).setIfInBounds i v = cmA c' s') (hc : CmR (fun k => g < k ∧ k ≠ R ∧ k ≠ C) W c' s') : CS w g R C ba cap l c' s' st (W.setCell ⟨C, i, none⟩ v) :=
  have h1 := h.hR
  have h2 := h.hC
  have h3 := h.hg
  ⟨h.but.setNew h.hC v, (Below.heap_setCell _ _ _ _ h.hRC).trans h.res, by rw [← he]; exact h.bx.setCell, h.rd.set (by omega), hc.keep (fun k hk hl => ⟨Below.heap_setCell _ _ _ _ hk.2.2, hk⟩) (by simp), h.hR, h.hC, h.hg, h.hRC⟩

theorem CS.set2 {i j : Nat} {v u : Value} {c' : Cm} {s' : CmS} (h : CS w g R C ba cap l c s st W) (he : ((cmA c s).setIfInBounds i v).setIfInBounds j u = cmA c' s') (hc : CmR (fun k => g < k ∧ k ≠ R ∧ k ≠ C) W c' s') : CS w g R C ba cap l c' s' st ((W.setCell ⟨C, i, none⟩ v).setCell ⟨C, j, none⟩ u) :=
  have h1 := h.hR
  have h2 := h.hC
  have h3 := h.hg
  ⟨(h.but.setNew h.hC v).setNew h.hC u, (Below.heap_setCell _ _ _ _ h.hRC).trans ((Below.heap_setCell _ _ _ _ h.hRC).trans h.res), by rw [← he]; exact h.bx.setCell.setCell, (h.rd.set (by omega)).set (by omega), hc.keep (fun k hk hl => ⟨(Below.heap_setCell _ _ _ _ hk.2.2).trans (Below.heap_setCell _ _ _ _ hk.2.2), hk⟩) (by simp), h.hR, h.hC, h.hg, h.hRC⟩

/-- The result is written. -/
def set9 (W : World) (R : Nat) (c : Cm) (s : CmS) : World := ((((((((W.setCell ⟨R, 0, none⟩ (.int .i64 c.op)).setCell ⟨R, 1, none⟩ (.int .i64 c.node)).setCell ⟨R, 2, none⟩ (.slice s.ra c.row.length s.rc)).setCell ⟨R, 3, none⟩ (.int .i64 c.time.1)).setCell ⟨R, 4, none⟩ (.int .i64 c.time.2)).setCell ⟨R, 5, none⟩ (.int .i64 c.diff)).setCell ⟨R, 6, none⟩ (.slice s.fa c.front.length s.fc)).setCell ⟨R, 7, none⟩ (.int .i64 c.fuel)).setCell ⟨R, 8, none⟩ (.slice s.sa c.sheet.length s.sc)

theorem set9_bx {cs : Cm} {ss : CmS} {t : TypeId} (h : Bx W R (cmA cs ss) t) (c : Cm) (s : CmS) : Bx (set9 W R c s) R (cmA c s) t := by
  unfold set9
  have := ((((((((h.setCell (i := 0) (v := .int .i64 c.op)).setCell (i := 1) (v := .int .i64 c.node)).setCell (i := 2) (v := .slice s.ra c.row.length s.rc)).setCell (i := 3) (v := .int .i64 c.time.1)).setCell (i := 4) (v := .int .i64 c.time.2)).setCell (i := 5) (v := .int .i64 c.diff)).setCell (i := 6) (v := .slice s.fa c.front.length s.fc)).setCell (i := 7) (v := .int .i64 c.fuel)).setCell (i := 8) (v := .slice s.sa c.sheet.length s.sc)
  simpa [cmA] using this

theorem set9_other (W : World) (R : Nat) (c : Cm) (s : CmS) {k : Nat} (h : k ≠ R) : (set9 W R c s).heap[k]? = W.heap[k]? := by
  unfold set9
  simp only [Below.heap_setCell _ _ _ _ (show k ≠ (⟨R, _, none⟩ : Addr).block from h)]

theorem set9_size (W : World) (R : Nat) (c : Cm) (s : CmS) : (set9 W R c s).heap.size = W.heap.size := by simp [set9]

theorem set9_but {a W : World} {g R : Nat} (h : But g a W) (hR : a.heap.size ≤ R) (c : Cm) (s : CmS) : But g a (set9 W R c s) := by
  unfold set9
  exact ((((((((h.setNew hR _).setNew hR _).setNew hR _).setNew hR _).setNew hR _).setNew hR _).setNew hR _).setNew hR _).setNew hR _

theorem CS.done (h : CS w g R C ba cap l c s st W) : RepC (g + 1) c (cmV c s) (set9 W R c s) ∧ RdS (set9 W R c s) g ba cap l st ∧ But g w (set9 W R c s) ∧ Bx (set9 W R c s) R (cmA c s) 31 :=
  have h1 := h.hR
  have h3 := h.hg
  ⟨⟨s, rfl, h.cm.keep (fun k hk hl => ⟨set9_other W R c s hk.2.1, by unfold Since; omega⟩) (by rw [set9_size]; exact Nat.le_refl _)⟩, h.rd.keep (set9_other W R c s (by omega)), set9_but h.but h.hR c s, set9_bx h.res c s⟩
end

/-- The nine cells of a block, and that they may be written. -/
theorem cm_frozen {w : World} {b : Nat} {c : Cm} {s : CmS} {t : TypeId} (h : Bx w b (cmA c s) t) (i : Nat) : w.frozen? ⟨b, i, none⟩ = false := h.frozen i

theorem rest0 {s0 s1 : Option (List Int)} {xsheet : List Int} (h0 : Rd shB SN s0 xsheet s1) : Rd restB (NiceD 0) s0 ⟨0, 0, [], (0, 0), 0, [], 0, xsheet⟩ s1 := by
  cases s0 with
  | none =>
    have e0 := h0.bad
    subst e0
    trivial
  | some r0 =>
    cases s1 with
    | none =>
      rintro ⟨yo, yn, yr, yt, yd, yf, yu, ys⟩ r' ⟨hy, hop⟩ e
      obtain rfl : yo = 0 := hop
      simp [restB] at e
      exact h0 _ _ hy.sheet e
    | some r1 =>
      obtain ⟨d0, q0⟩ := h0
      refine ⟨⟨⟨by show (0 : Int) ≤ 0; omega, by show (0 : Int) ≤ 6; omega, by simp [plain], r64_0, r64_0, r64_0, ⟨r64_0, r64_0⟩, ⟨by simp, by simp⟩, ⟨by simp, by simp⟩, d0⟩, rfl⟩, ?_⟩
      rw [q0]
      simp [restB]

theorem rest1 {s0 s1 s2 s3 s4 : Option (List Int)} {xnode : Int} {xrow : List V} {xtime : T} {xdiff : Int} (h0 : Rd oneB R64 s0 xnode s1) (h1 : Rd rowB (LD 16 VN) s1 xrow s2) (h2 : Rd timeB RT s2 xtime s3) (h3 : Rd oneB R64 s3 xdiff s4) : Rd restB (NiceD 1) s0 ⟨1, xnode, xrow, xtime, xdiff, [], 0, []⟩ s4 := by
  cases s0 with
  | none =>
    have e0 := h0.bad
    subst e0
    have e1 := h1.bad
    subst e1
    have e2 := h2.bad
    subst e2
    have e3 := h3.bad
    subst e3
    trivial
  | some r0 =>
    cases s1 with
    | none =>
      have e1 := h1.bad
      subst e1
      have e2 := h2.bad
      subst e2
      have e3 := h3.bad
      subst e3
      rintro ⟨yo, yn, yr, yt, yd, yf, yu, ys⟩ r' ⟨hy, hop⟩ e
      obtain rfl : yo = 1 := hop
      simp [restB, tailB, List.append_assoc] at e
      exact h0 _ _ hy.node e
    | some r1 =>
      obtain ⟨d0, q0⟩ := h0
      cases s2 with
      | none =>
        have e2 := h2.bad
        subst e2
        have e3 := h3.bad
        subst e3
        rintro ⟨yo, yn, yr, yt, yd, yf, yu, ys⟩ r' ⟨hy, hop⟩ e
        obtain rfl : yo = 1 := hop
        simp [restB, tailB, List.append_assoc] at e
        rw [q0] at e
        have e := (pf_one _ _ _ _ d0 hy.node e).2
        exact h1 _ _ hy.row e
      | some r2 =>
        obtain ⟨d1, q1⟩ := h1
        cases s3 with
        | none =>
          have e3 := h3.bad
          subst e3
          rintro ⟨yo, yn, yr, yt, yd, yf, yu, ys⟩ r' ⟨hy, hop⟩ e
          obtain rfl : yo = 1 := hop
          simp [restB, tailB, List.append_assoc] at e
          rw [q0] at e
          have e := (pf_one _ _ _ _ d0 hy.node e).2
          rw [q1] at e
          have e := (pf_row _ _ _ _ d1 hy.row e).2
          exact h2 _ _ hy.time e
        | some r3 =>
          obtain ⟨d2, q2⟩ := h2
          cases s4 with
          | none =>
            rintro ⟨yo, yn, yr, yt, yd, yf, yu, ys⟩ r' ⟨hy, hop⟩ e
            obtain rfl : yo = 1 := hop
            simp [restB, tailB, List.append_assoc] at e
            rw [q0] at e
            have e := (pf_one _ _ _ _ d0 hy.node e).2
            rw [q1] at e
            have e := (pf_row _ _ _ _ d1 hy.row e).2
            rw [q2] at e
            have e := (pf_time _ _ _ _ d2 hy.time e).2
            exact h3 _ _ hy.diff e
          | some r4 =>
            obtain ⟨d3, q3⟩ := h3
            refine ⟨⟨⟨by show (0 : Int) ≤ 1; omega, by show (1 : Int) ≤ 6; omega, by simp [plain], d0, d3, r64_0, d2, ⟨by simp, by simp⟩, d1, ⟨by simp, Byt.nil⟩⟩, rfl⟩, ?_⟩
            rw [q0, q1, q2, q3]
            simp [restB, tailB]

theorem rest2 {s0 s1 s2 : Option (List Int)} {xnode : Int} {xfront : List T} (h0 : Rd oneB R64 s0 xnode s1) (h1 : Rd frontB (LD 16 RT) s1 xfront s2) : Rd restB (NiceD 2) s0 ⟨2, xnode, [], (0, 0), 0, xfront, 0, []⟩ s2 := by
  cases s0 with
  | none =>
    have e0 := h0.bad
    subst e0
    have e1 := h1.bad
    subst e1
    trivial
  | some r0 =>
    cases s1 with
    | none =>
      have e1 := h1.bad
      subst e1
      rintro ⟨yo, yn, yr, yt, yd, yf, yu, ys⟩ r' ⟨hy, hop⟩ e
      obtain rfl : yo = 2 := hop
      simp [restB, tailB, List.append_assoc] at e
      exact h0 _ _ hy.node e
    | some r1 =>
      obtain ⟨d0, q0⟩ := h0
      cases s2 with
      | none =>
        rintro ⟨yo, yn, yr, yt, yd, yf, yu, ys⟩ r' ⟨hy, hop⟩ e
        obtain rfl : yo = 2 := hop
        simp [restB, tailB, List.append_assoc] at e
        rw [q0] at e
        have e := (pf_one _ _ _ _ d0 hy.node e).2
        exact h1 _ _ hy.front e
      | some r2 =>
        obtain ⟨d1, q1⟩ := h1
        refine ⟨⟨⟨by show (0 : Int) ≤ 2; omega, by show (2 : Int) ≤ 6; omega, by simp [plain], d0, r64_0, r64_0, ⟨r64_0, r64_0⟩, d1, ⟨by simp, by simp⟩, ⟨by simp, Byt.nil⟩⟩, rfl⟩, ?_⟩
        rw [q0, q1]
        simp [restB, tailB]

theorem rest3 {s0 s1 s2 : Option (List Int)} {xnode : Int} {xfuel : Int} (h0 : Rd oneB R64 s0 xnode s1) (h1 : Rd oneB R64 s1 xfuel s2) : Rd restB (NiceD 3) s0 ⟨3, xnode, [], (0, 0), 0, [], xfuel, []⟩ s2 := by
  cases s0 with
  | none =>
    have e0 := h0.bad
    subst e0
    have e1 := h1.bad
    subst e1
    trivial
  | some r0 =>
    cases s1 with
    | none =>
      have e1 := h1.bad
      subst e1
      rintro ⟨yo, yn, yr, yt, yd, yf, yu, ys⟩ r' ⟨hy, hop⟩ e
      obtain rfl : yo = 3 := hop
      simp [restB, tailB, List.append_assoc] at e
      exact h0 _ _ hy.node e
    | some r1 =>
      obtain ⟨d0, q0⟩ := h0
      cases s2 with
      | none =>
        rintro ⟨yo, yn, yr, yt, yd, yf, yu, ys⟩ r' ⟨hy, hop⟩ e
        obtain rfl : yo = 3 := hop
        simp [restB, tailB, List.append_assoc] at e
        rw [q0] at e
        have e := (pf_one _ _ _ _ d0 hy.node e).2
        exact h1 _ _ hy.fuel e
      | some r2 =>
        obtain ⟨d1, q1⟩ := h1
        refine ⟨⟨⟨by show (0 : Int) ≤ 3; omega, by show (3 : Int) ≤ 6; omega, by simp [plain], d0, r64_0, d1, ⟨r64_0, r64_0⟩, ⟨by simp, by simp⟩, ⟨by simp, by simp⟩, ⟨by simp, Byt.nil⟩⟩, rfl⟩, ?_⟩
        rw [q0, q1]
        simp [restB, tailB]

theorem rest4 {s0 s1 s2 : Option (List Int)} {xnode : Int} {xfront : List T} (h0 : Rd oneB R64 s0 xnode s1) (h1 : Rd frontB (LD 16 RT) s1 xfront s2) : Rd restB (NiceD 4) s0 ⟨4, xnode, [], (0, 0), 0, xfront, 0, []⟩ s2 := by
  cases s0 with
  | none =>
    have e0 := h0.bad
    subst e0
    have e1 := h1.bad
    subst e1
    trivial
  | some r0 =>
    cases s1 with
    | none =>
      have e1 := h1.bad
      subst e1
      rintro ⟨yo, yn, yr, yt, yd, yf, yu, ys⟩ r' ⟨hy, hop⟩ e
      obtain rfl : yo = 4 := hop
      simp [restB, tailB, List.append_assoc] at e
      exact h0 _ _ hy.node e
    | some r1 =>
      obtain ⟨d0, q0⟩ := h0
      cases s2 with
      | none =>
        rintro ⟨yo, yn, yr, yt, yd, yf, yu, ys⟩ r' ⟨hy, hop⟩ e
        obtain rfl : yo = 4 := hop
        simp [restB, tailB, List.append_assoc] at e
        rw [q0] at e
        have e := (pf_one _ _ _ _ d0 hy.node e).2
        exact h1 _ _ hy.front e
      | some r2 =>
        obtain ⟨d1, q1⟩ := h1
        refine ⟨⟨⟨by show (0 : Int) ≤ 4; omega, by show (4 : Int) ≤ 6; omega, by simp [plain], d0, r64_0, r64_0, ⟨r64_0, r64_0⟩, d1, ⟨by simp, by simp⟩, ⟨by simp, Byt.nil⟩⟩, rfl⟩, ?_⟩
        rw [q0, q1]
        simp [restB, tailB]

theorem rest5 {s0 s1 s2 : Option (List Int)} {xnode : Int} {xtime : T} (h0 : Rd oneB R64 s0 xnode s1) (h1 : Rd timeB RT s1 xtime s2) : Rd restB (NiceD 5) s0 ⟨5, xnode, [], xtime, 0, [], 0, []⟩ s2 := by
  cases s0 with
  | none =>
    have e0 := h0.bad
    subst e0
    have e1 := h1.bad
    subst e1
    trivial
  | some r0 =>
    cases s1 with
    | none =>
      have e1 := h1.bad
      subst e1
      rintro ⟨yo, yn, yr, yt, yd, yf, yu, ys⟩ r' ⟨hy, hop⟩ e
      obtain rfl : yo = 5 := hop
      simp [restB, tailB, List.append_assoc] at e
      exact h0 _ _ hy.node e
    | some r1 =>
      obtain ⟨d0, q0⟩ := h0
      cases s2 with
      | none =>
        rintro ⟨yo, yn, yr, yt, yd, yf, yu, ys⟩ r' ⟨hy, hop⟩ e
        obtain rfl : yo = 5 := hop
        simp [restB, tailB, List.append_assoc] at e
        rw [q0] at e
        have e := (pf_one _ _ _ _ d0 hy.node e).2
        exact h1 _ _ hy.time e
      | some r2 =>
        obtain ⟨d1, q1⟩ := h1
        refine ⟨⟨⟨by show (0 : Int) ≤ 5; omega, by show (5 : Int) ≤ 6; omega, by simp [plain], d0, r64_0, r64_0, d1, ⟨by simp, by simp⟩, ⟨by simp, by simp⟩, ⟨by simp, Byt.nil⟩⟩, rfl⟩, ?_⟩
        rw [q0, q1]
        simp [restB, tailB]

theorem rest6 {s0 s1 : Option (List Int)} {xnode : Int} (h0 : Rd oneB R64 s0 xnode s1) : Rd restB (NiceD 6) s0 ⟨6, xnode, [], (0, 0), 0, [], 0, []⟩ s1 := by
  cases s0 with
  | none =>
    have e0 := h0.bad
    subst e0
    trivial
  | some r0 =>
    cases s1 with
    | none =>
      rintro ⟨yo, yn, yr, yt, yd, yf, yu, ys⟩ r' ⟨hy, hop⟩ e
      obtain rfl : yo = 6 := hop
      simp [restB, tailB, List.append_assoc] at e
      exact h0 _ _ hy.node e
    | some r1 =>
      obtain ⟨d0, q0⟩ := h0
      refine ⟨⟨⟨by show (0 : Int) ≤ 6; omega, by show (6 : Int) ≤ 6; omega, by simp [plain], d0, r64_0, r64_0, ⟨r64_0, r64_0⟩, ⟨by simp, by simp⟩, ⟨by simp, by simp⟩, ⟨by simp, Byt.nil⟩⟩, rfl⟩, ?_⟩
      rw [q0]
      simp [restB, tailB]

end Go.Proofs.Ytgalmkhgbokidaa
