/-
  What is proved here: Put of any command; the page's example.
-/
import Derived.Test.YtgalmkhgbokidaaWG
namespace Go.Proofs.Ytgalmkhgbokidaa
open Go.RowKit Go.Proofs
set_option maxRecDepth 20000
set_option linter.unusedVariables false
set_option linter.unusedSimpArgs false

/-- The nine cells of a command's variable. -/
theorem cm_cells {w : World} {b : Nat} {c : Cm} {s : CmS} {t : TypeId} (h : Bx w b (cmA c s) t) :
    w.cell? ⟨b, 0, none⟩ = some (.int .i64 c.op) ∧ w.cell? ⟨b, 1, none⟩ = some (.int .i64 c.node) ∧ w.cell? ⟨b, 2, none⟩ = some (.slice s.ra c.row.length s.rc) ∧ w.cell? ⟨b, 3, none⟩ = some (.int .i64 c.time.1) ∧ w.cell? ⟨b, 4, none⟩ = some (.int .i64 c.time.2) ∧ w.cell? ⟨b, 5, none⟩ = some (.int .i64 c.diff) ∧ w.cell? ⟨b, 6, none⟩ = some (.slice s.fa c.front.length s.fc) ∧ w.cell? ⟨b, 7, none⟩ = some (.int .i64 c.fuel) ∧ w.cell? ⟨b, 8, none⟩ = some (.slice s.sa c.sheet.length s.sc) :=
  ⟨h.cell 0, h.cell 1, h.cell 2, h.cell 3, h.cell 4, h.cell 5, h.cell 6, h.cell 7, h.cell 8⟩

theorem NewB.bts {r : List Int} {v : Value} {w : World} (h : NewB r v w) (hr : Byt r) : ∃ g c, v = .slice (some ⟨g, 0, none⟩) r.length c ∧ Bts w.heap.size w (some ⟨g, 0, none⟩) r := by
  obtain ⟨g, c, rfl, hg, hc⟩ := h
  refine ⟨g, c, rfl, hr, fun hne => ⟨g, 0, rfl, hg, fun i hi => ?_⟩⟩
  have := hc i (.int .u8 (r.getD i 0)) (by simp [B8, List.getD, List.getElem?_eq_getElem hi])
  rwa [addr_add] at this

theorem cmdB_pos (c : Cm) : 0 < (cmdB c).length := by simp [cmdB]

/-- What Put answers. -/
def PAns (l : List Int) (c : Cm) (w : World) (e : Ending) (w' : World) : Prop :=
  (chk c = 0 ∧ ∃ v, e = .returned (.tuple #[v, .int .i64 0]) ∧ Own w.heap.size w' v (l ++ cmdB c) ∧ Below w.heap.size w w') ∨
  (chk c ≠ 0 ∧ e = .returned (.tuple #[.slice none 0 0, .int .i64 (chk c)]) ∧ Below w.heap.size w w')

set_option maxHeartbeats 4000000 in
theorem wPut_any (P : Nat → Prop) (w : World) (a : Option Addr) (cap : Nat) (l : List Int) (c : Cm) (s : CmS) (hb : Bts w.heap.size w a l) (hs : a = none → cap = 0) (hl : l.length ≤ 100000) (h : CmR P w c s) (hn : CmN c) :
    Calls Try.prog 10 #[.slice a l.length cap, cmV c s] w (PAns l c w) := by
  have BA : Below w.heap.size w (w.alloc (cmO c s)) := (Below.refl _ _).alloc (Nat.le_refl _) _
  have HB := hid' BA
  have HX := hid' (Bx.new w (cmA c s) 31)
  have HCK := hid' (wCheck_any P _ c s (h.on BA))
  have HTD := hid' (fun W (hW : Below w.heap.size w W) (hc : chk c = 0) => told_any P W c s (h.on hW) hn hc)
  have HBT := hid' hb
  have HSH := hid' hs
  have HBY : Hid (chk c = 0 → Byt (cmdB c) ∧ (cmdB c).length ≤ 66000 ∧ cmdB c ≠ []) := fun hc => ⟨byt_cmd hc h.byt, len_cmd hc hn, by simp [cmdB]⟩
  have HP1 : Hid (∀ v w', chk c = 0 → Own w.heap.size w' v (l ++ cmdB c) → Below w.heap.size w w' → PAns l c w (.returned (.tuple #[v, .int .i64 0])) w') := fun v w' h1 h2 h3 => .inl ⟨h1, v, rfl, h2, h3⟩
  have HP2 : Hid (∀ q w', q = chk c → q ≠ 0 → Below w.heap.size w w' → PAns l c w (.returned (.tuple #[.slice none 0 0, .int .i64 q])) w') := fun q w' h1 h2 h3 => .inr ⟨by rw [← h1]; exact h2, by rw [h1], h3⟩
  unfold cmO at HB HX HCK
  unfold cmV at HCK HTD ⊢
  unfold cmA at HB HX HCK HTD ⊢
  clear h hn hb hs BA
  go_enter Try.func10, Try.ntmps10
  go_wp2_with fail
  refine HCK.out.mono ?_
  rintro e w1 ⟨rfl, hb1⟩
  have HB1 := hid' (bel_trans' HB.out hb1)
  have HX1 := hid' (HX.out.keep hb1)
  clear HCK HB HX hb1
  by_cases hc : chk c = 0
  · obtain ⟨k0, k1, k2, k3, k4, k5, k6, k7, k8⟩ := cm_cells HX1.out
    have HT := hid' (HTD.out w1 HB1.out hc)
    obtain ⟨hby, hln, hne⟩ := HBY.out hc
    have HBB := hid' hby
    rw [hc]
    clear HTD HBY hby hne
    go_wp2_with fail
    refine HT.out.mono ?_
    rintro e w2 ⟨v2, rfl, hnew, hb2⟩
    obtain ⟨g2, c2, rfl, hbt2⟩ := hnew.bts HBB.out
    have HB2 := hid' (bel_trans' HB1.out hb2)
    have HBT2 := hid' hbt2
    have hA : Below w2.heap.size w2 (w2.alloc (.cells #[.slice a l.length cap, .slice (some ⟨g2, 0, none⟩) (cmdB c).length c2] 22)) := (Below.refl _ _).alloc (Nat.le_refl _) _
    have HB3 := hid' (bel_trans' HB2.out hA)
    have HCC := hid' (concatB_any (w2.alloc (.cells #[.slice a l.length cap, .slice (some ⟨g2, 0, none⟩) (cmdB c).length c2] 22)) w2.heap.size l (cmdB c) a (some ⟨g2, 0, none⟩) cap c2 l.length (cmdB c).length rfl rfl ((Bx.new w2 _ _).cell 0) ((Bx.new w2 _ _).cell 1) (by simp) ((HBT.out.keep HB3.out).mono HB3.out.size) ((HBT2.out.keep hA).mono hA.size) HSH.out (fun e => by cases e) (by omega) (by omega) (by have := cmdB_pos c; omega))
    clear HT hnew hb2 hbt2 hA HBT2 HB2 HBT HSH
    generalize hcl : (cmdB c).length = cn at *
    generalize hll : l.length = ln at *
    go_wp2_with fail
    refine HCC.out.mono ?_
    rintro e w4 ⟨v4, rfl, ho4, hb4⟩
    have HF := hid' (HP1.out v4 w4 hc (ho4.base HB3.out.size) (bel_trans' HB3.out hb4))
    clear HCC ho4 hb4 HB3 HX1 k0 k1 k2 k3 k4 k5 k6 k7 k8
    go_wp2
    go_ret2
    exact HF.out
  · have HF := hid' (HP2.out (chk c) w1 rfl hc HB1.out)
    have hc' : (chk c != 0) = true := by simpa using hc
    generalize chk c = q at *
    clear HTD HBY HP1 HP2 HX1 HB1
    go_wp2
    go_ret2
    exact HF.out

theorem str3 : strOfNums [3, 4, 10] = ⟨#[3, 4, 10]⟩ := by decide

def c3 : Cm := ⟨3, 2, [], (0, 0), 0, [], 5, []⟩

theorem cmR0 (P : Nat → Prop) (w : World) (op node : Int) (t : T) (diff fuel : Int) : CmR P w ⟨op, node, [], t, diff, [], fuel, []⟩ s0 :=
  ⟨SP.nil _ _ _, SP.nil _ _ _, SP.nil _ _ _, fun z hz => by simp at hz, Sh.nil, Sh.nil, Sh.nil⟩

theorem chk3 : chk c3 = 0 := by decide
theorem bytes3 : cmdB c3 = [3, 4, 10] := by decide

set_option maxHeartbeats 4000000 in
theorem live_any (w : World) : Calls Try.prog 9 #[] w fun e w' => e = .returned (.bool true) ∧ Below w.heap.size w w' := by
  have HP := hid' (wPut_any (fun _ => True) w none 0 [] c3 s0 (Bts.nil _ _ _) (fun _ => rfl) (by simp) (cmR0 _ _ _ _ _ _ _) ⟨by unfold R64 c3; simp, by unfold R64 c3; simp, r64_0, by unfold R64 c3; simp, ⟨r64_0, r64_0⟩, by simp [c3], by simp [c3]⟩)
  unfold cmV cmA s0 at HP
  have hc3 : c3 = ⟨3, 2, [], (0, 0), 0, [], 5, []⟩ := rfl
  rw [hc3] at HP
  simp only [List.length_nil] at HP
  go_enter Try.func9, Try.ntmps9
  go_wp2_with fail
  refine HP.out.mono ?_
  rintro e w1 (⟨_, v, rfl, ho, hb⟩ | ⟨h, _⟩)
  · rw [← hc3, bytes3, List.nil_append] at ho
    obtain ⟨a, c, rfl, hcap, hbt, _⟩ := ho.bts (fun z hz => by simp at hz; omega)
    have hcv := hbt.conv 3 c rfl
    rw [str3] at hcv
    have HB := hid' hb
    clear HP ho hb hbt
    simp only [List.length_cons, List.length_nil]
    go_wp2_with fail
    refine (code_any 0 _).mono ?_
    rintro e w2 ⟨rfl, rfl⟩
    go_wp2
    go_ret
    exact ⟨rfl, HB.out⟩
  · exact absurd chk3 h

end Go.Proofs.Ytgalmkhgbokidaa
