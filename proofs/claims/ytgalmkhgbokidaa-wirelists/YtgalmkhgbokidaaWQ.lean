/-
  What is proved here: Get tells the command that the bytes tell from a place on.
-/
import Derived.Test.YtgalmkhgbokidaaWP
namespace Go.Proofs.Ytgalmkhgbokidaa
open Go.RowKit Go.Proofs
set_option maxRecDepth 20000
set_option linter.unusedVariables false
set_option linter.unusedSimpArgs false

theorem command_any (w : World) (g : Nat) (ba : Option Addr) (cap : Nat) (l : List Int) (r : List Int) (hr : RdS w g ba cap l (some r)) (hb : Bts g w ba l) (hc : l.length ≤ cap) (hl : l.length ≤ 1000000000) :
    Calls Try.prog 40 #[.pointer (some ⟨g, 0, none⟩)] w (RdAns cmdB Nice (RepC (g + 1)) w g ba cap l (some r)) := by
  cases r with
  | nil => exact command_bad w g ba cap l _ hr hb hc hl (fun d s1 h => by
      cases s1 with
      | none => rfl
      | some r1 => have := h.2; simp [doB] at this)
  | cons d t =>
    by_cases hd : DO d
    · rcases op_cases hd.1 hd.2 with rfl | rfl | rfl | rfl | rfl | rfl | rfl
      · exact command0 w g ba cap l _ hr hb hc hl t rfl
      · exact command1 w g ba cap l _ hr hb hc hl t rfl
      · exact command2 w g ba cap l _ hr hb hc hl t rfl
      · exact command3 w g ba cap l _ hr hb hc hl t rfl
      · exact command4 w g ba cap l _ hr hb hc hl t rfl
      · exact command5 w g ba cap l _ hr hb hc hl t rfl
      · exact command6 w g ba cap l _ hr hb hc hl t rfl
    · exact command_bad w g ba cap l _ hr hb hc hl (fun x s1 h => by
        cases s1 with
        | none => rfl
        | some r1 =>
          have h2 := h.2
          simp [doB] at h2
          exact absurd (h2.1 ▸ h.1) hd)

theorem RepC.zero (B : Nat) (W : World) : RepC B c0 (cmV c0 s0) W := ⟨s0, rfl, cmR0 _ _ _ _ _ _ _⟩

theorem set9_below {B R : Nat} {a W : World} (h : Below B a W) (hR : B ≤ R) (c : Cm) (s : CmS) : Below B a (set9 W R c s) := by
  unfold set9
  exact ((((((((h.setCell (p := ⟨R, _, none⟩) hR _).setCell (p := ⟨R, _, none⟩) hR _).setCell (p := ⟨R, _, none⟩) hR _).setCell (p := ⟨R, _, none⟩) hR _).setCell (p := ⟨R, _, none⟩) hR _).setCell (p := ⟨R, _, none⟩) hR _).setCell (p := ⟨R, _, none⟩) hR _).setCell (p := ⟨R, _, none⟩) hR _).setCell (p := ⟨R, _, none⟩) hR _

def gtVal (R g : Nat) (v : Value) (atE : Int) (i : Nat) : Option Value := [some v, some (ptr g), some (ptr g), some (.pointer (some ⟨g, 1, none⟩)), some (.int .i64 atE), none, none, none].getD i none

/-- What holds while Get's last statement goes on. -/
def gtInv (w : World) (R g : Nat) (ba : Option Addr) (n cap : Nat) (atE : Int) (c : Cm) (s : CmS) (vs : List Value) (W : World) : Prop :=
  Bx W R (cmA c s) 31 ∧ Bx W g #[.slice ba n cap, .int .i64 atE, .bool false] 82 ∧ Below R w W ∧ CmR (fun k => g < k) W c s ∧ match vs with
    | [] => True
    | [_] => True
    | [_, p] => p = .int .i64 atE
    | [_, p, q] => p = .int .i64 atE ∧ q = .int .i64 0
    | _ => False

section
variable {a : Act} {t u c : Nat} {dst : Option Tmp} {ty : TypeId} {pos : String} {aft : Array Edge} {guard : Option (Nat × Bool)}

theorem run_storeC {g : Nat} {c c' : Cm} {s s' : CmS} (w : World) (h : PB.slot a t = ptr g) (h' : PB.slot a u = cmV c s) (hb : Bx w g (cmA c' s') 31) :
    (execOp a.eval { dst := dst, op := .store 31 (.tmp t) (.tmp u), type := ty, pos := pos, after := aft, guard := guard }).run Try.prog w = .ok .skip (set9 w g c s) := by
  have h0 : a.tmps[t]?.getD undef = ptr g := by rw [← Array.getD_eq_getD_getElem?]; exact h
  have h1 : a.tmps[u]?.getD undef = cmV c s := by rw [← Array.getD_eq_getD_getElem?]; exact h'
  obtain ⟨r0, r1, r2, r3, r4, r5, r6, r7, r8⟩ := cm_cells hb
  have f0 := hb.frozen 0
  have f1 := hb.frozen 1
  have f2 := hb.frozen 2
  have f3 := hb.frozen 3
  have f4 := hb.frozen 4
  have f5 := hb.frozen 5
  have f6 := hb.frozen 6
  have f7 := hb.frozen 7
  have f8 := hb.frozen 8
  unfold set9
  unfold cmV cmA at h1
  unfold ptr at h0
  clear h h' hb
  go_simp

theorem run_assC {v : Value} (w : World) : (execOp a.eval { dst := dst, op := .assign (.const v), type := ty, pos := pos, after := aft, guard := guard }).run Try.prog w = .ok (.value v) w := by
  go_simp
end

set_option maxHeartbeats 8000000 in
theorem wGet_any (w : World) (ba : Option Addr) (cap : Nat) (l : List Int) (at' : Int) (hb : Bts w.heap.size w ba l) (hc : l.length ≤ cap) (hl : l.length ≤ 1000000000) :
    Calls Try.prog 17 #[.slice ba l.length cap, .int .i64 at'] w (GAns cmdB Nice RepC c0 l at' w) := by
  by_cases hout : at' < 0 ∨ (l.length : Int) < at'
  · have HZ : Hid (GAns cmdB Nice RepC c0 l at' w (.returned (.tuple #[cmV c0 s0, .int .i64 0, .int .i64 9])) (w.alloc (.cells (cmA c0 s0) 31))) := ⟨c0, _, 0, 9, rfl, RepC.zero _ _, (Below.refl _ _).alloc (Nat.le_refl _) _, .inl ⟨hout, rfl, rfl, rfl⟩⟩
    unfold cmV at HZ
    unfold cmA c0 s0 at HZ
    simp only [List.length_nil] at HZ
    generalize l.length = ln at *
    clear hb
    rcases hout with h | h
    · go_enter Try.func17, Try.ntmps17
      go_wp2
      refine bodyPost_ret (v := .tuple #[.agg #[.int .i64 0, .int .i64 0, .slice none 0 0, .int .i64 0, .int .i64 0, .int .i64 0, .slice none 0 0, .int .i64 0, .slice none 0 0], .int .i64 0, .int .i64 9]) ?_ rfl HZ.out
      unfold results
      go_simp
    · have hneg : ¬ at' < 0 := by omega
      go_enter Try.func17, Try.ntmps17
      go_wp2
      refine bodyPost_ret (v := .tuple #[.agg #[.int .i64 0, .int .i64 0, .slice none 0 0, .int .i64 0, .int .i64 0, .int .i64 0, .slice none 0 0, .int .i64 0, .slice none 0 0], .int .i64 0, .int .i64 9]) ?_ rfl HZ.out
      unfold results
      go_simp
  · obtain ⟨at0, rfl⟩ := Int.eq_ofNat_of_zero_le (show 0 ≤ at' by omega)
    have hat : at0 ≤ l.length := by omega
    have B0 : Below w.heap.size w (w.alloc (.cells (cmA c0 s0) 31)) := (Below.refl _ _).alloc (Nat.le_refl _) _
    have eg : (w.alloc (.cells (cmA c0 s0) 31)).heap.size = w.heap.size + 1 := World.size_alloc _ _
    have X0 : Bx (w.alloc (.cells (cmA c0 s0) 31)) w.heap.size (cmA c0 s0) 31 := Bx.new _ _ _
    have BA := (Below.refl (w.alloc (.cells (cmA c0 s0) 31)).heap.size _).alloc (Nat.le_refl _) (.cells #[.slice ba l.length cap, .int .i64 (at0 : Int), .bool false] 82)
    have G0 := Bx.new (w.alloc (.cells (cmA c0 s0) 31)) #[.slice ba l.length cap, .int .i64 (at0 : Int), .bool false] 82
    have X1 := hid' (X0.keep BA)
    have HB1 := hid' (bel_trans' B0 BA)
    rw [eg] at G0
    have HTK := hid' (command_any _ (w.heap.size + 1) ba cap l (l.drop at0) ⟨at0, hat, .inl ⟨_, rfl, rfl, G0⟩⟩ ((hb.keep HB1.out).mono (Nat.le_succ _)) hc hl)
    have HOK : Hid (∀ (x : Cm) (s : CmS) (nx : Nat) W, Below w.heap.size w W → CmR (Since w.heap.size) W x s → Nice x → l.drop at0 = cmdB x ++ l.drop nx → nx ≤ l.length → GAns cmdB Nice RepC c0 l (at0 : Int) w (.returned (.tuple #[cmV x s, .int .i64 (nx : Int), .int .i64 0])) W) := fun x s nx W h1 h2 h4 h5 h6 =>
      ⟨x, _, nx, 0, rfl, ⟨s, rfl, h2⟩, h1, .inr (.inl ⟨by omega, by omega, rfl, h4, by simpa using h5, by simp, by simpa using h6⟩)⟩
    have HNO : Hid (∀ W, Below w.heap.size w W → (∀ y r, Nice y → l.drop at0 ≠ cmdB y ++ r) → GAns cmdB Nice RepC c0 l (at0 : Int) w (.returned (.tuple #[cmV c0 s0, .int .i64 0, .int .i64 6])) W) := fun W h1 h2 =>
      ⟨c0, _, 0, 6, rfl, RepC.zero _ _, h1, .inr (.inr ⟨by omega, by omega, rfl, rfl, rfl, by simpa using h2⟩)⟩
    have hh1 : ¬ (at0 : Int) < 0 := by omega
    have hh2 : ¬ (l.length : Int) < (at0 : Int) := by omega
    unfold cmA c0 s0 at HTK
    simp only [List.length_nil] at HTK
    obtain ⟨ln, hln⟩ : ∃ n, l.length = n := ⟨_, rfl⟩
    rw [hln] at HTK hh2 X1 HB1 ⊢
    have HLN := hid' hln
    clear hb hout B0 BA X0 G0 eg hln
    go_enter Try.func17, Try.ntmps17
    go_wp2_with fail
    refine HTK.out.mono ?_
    rintro e w2 ⟨x, v, s', rfl, ⟨sx, hv, hcm⟩, hrd, hrs, hbut⟩
    subst hv
    have X2 := X1.out.but hbut (by omega)
    have HB2 := hid' (hbut.below' HB1.out (by omega) (Nat.le_refl _))
    have XR := set9_bx X2 x sx
    have HB3 := hid' (set9_below HB2.out (Nat.le_refl _) x sx)
    have RS3 := hrs.keep (set9_other w2 w.heap.size x sx (show w.heap.size + 1 ≠ w.heap.size by omega))
    have CM3 : CmR (fun k => w.heap.size + 1 < k) (set9 w2 w.heap.size x sx) x sx := hcm.keep (fun k hk hl => ⟨set9_other w2 w.heap.size x sx (by unfold Since at hk; omega), by unfold Since at hk; omega⟩) (by rw [set9_size]; exact Nat.le_refl _)
    obtain ⟨r0, r1, r2, r3, r4, r5, r6, r7, r8⟩ := cm_cells X2
    have f0 := X2.frozen 0
    have f1 := X2.frozen 1
    have f2 := X2.frozen 2
    have f3 := X2.frozen 3
    have f4 := X2.frozen 4
    have f5 := X2.frozen 5
    have f6 := X2.frozen 6
    have f7 := X2.frozen 7
    have f8 := X2.frozen 8
    obtain ⟨atE, bad, haE, hbxE, hsE⟩ := RS3.open'
    have cE2 : (set9 w2 w.heap.size x sx).cell? ⟨w.heap.size + 1, 2, none⟩ = some (.bool bad) := hbxE.cell 2
    rw [hsE] at hrd
    have HRD := hid' hrd
    have HXR := hid' XR
    have HCM := hid' CM3
    have HBE := hid' hbxE
    obtain ⟨W3, hW3⟩ : ∃ y : World, y = set9 w2 w.heap.size x sx := ⟨_, rfl⟩
    have HW3 := hid' hW3
    rw [← hW3] at HXR HCM HBE HB3
    unfold set9 at HW3 cE2
    clear hW3
    simp only [c0, s0, List.length_nil] at r0 r1 r2 r3 r4 r5 r6 r7 r8
    unfold cmV cmA
    clear hrd hrs hbut X2 XR RS3 CM3 hbxE hsE hcm X1 HB1 HTK HB2
    cases bad with
    | true =>
      have HZ := hid' (HNO.out (set9 W3 w.heap.size c0 s0) (set9_below HB3.out (Nat.le_refl _) _ _) HRD.out)
      unfold set9 cmV cmA at HZ
      simp only [c0, s0, List.length_nil] at HZ
      clear HNO HOK HRD HCM HBE HB3
      go_wp2_with fail
      rw [← HW3.out]
      obtain ⟨t0, t1, t2, t3, t4, t5, t6, t7, t8⟩ := cm_cells (set9_bx HXR.out c0 s0)
      unfold set9 at t0 t1 t2 t3 t4 t5 t6 t7 t8
      simp only [c0, s0, List.length_nil] at t0 t1 t2 t3 t4 t5 t6 t7 t8
      clear HXR HW3 r0 r1 r2 r3 r4 r5 r6 r7 r8 f0 f1 f2 f3 f4 f5 f6 f7 f8 cE2
      refine bodyPost_ret (v := .tuple #[.agg #[.int .i64 0, .int .i64 0, .slice none 0 0, .int .i64 0, .int .i64 0, .int .i64 0, .slice none 0 0, .int .i64 0, .slice none 0 0], .int .i64 0, .int .i64 6]) ?_ rfl HZ.out
      unfold results
      go_simp
    | false =>
      obtain ⟨hnice, hdrop⟩ := HRD.out
      have HI : Hid (gtInv w w.heap.size (w.heap.size + 1) ba ln cap (atE : Int) x sx [] W3.drew) := ⟨HXR.out.keep (Below.refl _ _).drew, by rw [← HLN.out]; exact HBE.out.keep (Below.refl _ _).drew, HB3.out.drew, HCM.out.on (Below.refl _ _).drew, trivial⟩
      have HFIN : Hid (∀ W, Below w.heap.size w W → CmR (fun k => w.heap.size + 1 < k) W x sx → GAns cmdB Nice RepC c0 l (at0 : Int) w (.returned (.tuple #[cmV x sx, .int .i64 (atE : Int), .int .i64 0])) W) := fun W h1 h2 => HOK.out x sx atE W h1 (h2.mono (fun k hk => by unfold Since; omega)) hnice hdrop haE
      clear HNO HOK HRD HXR HCM HBE HB3 hnice hdrop haE
      go_wp2_with fail
      rw [← HW3.out]
      clear HW3 r0 r1 r2 r3 r4 r5 r6 r7 r8 f0 f1 f2 f3 f4 f5 f6 f7 f8 cE2
      refine PQ.wp_region_quiet (gtVal w.heap.size (w.heap.size + 1) (cmV x sx) (atE : Int)) (gtInv w w.heap.size (w.heap.size + 1) ba ln cap (atE : Int) x sx) mixed' (by kernel_rfl) HI.out ?_ ?_
      · refine ⟨?_, ?_, ?_, ?_, ?_, ?_, ?_, ?_, trivial⟩
        · intro vs A W hI hC
          exact ⟨PB.wanted_free rfl, run_loadC (o := 0) W (hC.outer 4 rfl) (fun i hi => by rw [Nat.zero_add]; exact hI.1.cell i)⟩
        · intro vs A W hI hC
          exact ⟨PB.wanted_free rfl, run_moveD W (hC.outer 7 rfl)⟩
        · intro vs A W hI hC
          exact ⟨PB.wanted_free rfl, run_nilc W (hC.left 1 rfl)⟩
        · intro vs A W hI hC
          exact ⟨PB.wanted_free rfl, run_faRdr1 W (hC.left 2 rfl)⟩
        · intro vs A W hI hC
          exact ⟨PB.wanted_free rfl, run_loadZ W (hC.left 3 rfl) (hI.2.1.cell 1)⟩
        · intro vs A W hk hI hC
          obtain rfl : vs = [] := List.length_eq_zero_iff.1 hk
          refine ⟨PB.wanted_free rfl, PQ.loud_skip rfl (run_storeC W (hC.outer 4 rfl) (hC.left 0 rfl) hI.1) ?_⟩
          exact ⟨set9_bx hI.1 x sx, (set9_other W _ x sx (by omega)).trans hI.2.1, set9_below hI.2.2.1 (Nat.le_refl _) x sx, hI.2.2.2.1.keep (fun k hk hl => ⟨set9_other W _ x sx (by omega), hk⟩) (by rw [set9_size]; exact Nat.le_refl _), trivial⟩
        · intro vs A W hk hI hC
          match vs, hk, hI, hC with
          | [p], _, hI, hC =>
            exact ⟨PB.wanted_free rfl, PQ.loud_value (run_assD W (hC.left 4 rfl)) ⟨hI.1, hI.2.1, hI.2.2.1, hI.2.2.2.1, rfl⟩⟩
        · intro vs A W hk hI hC
          match vs, hk, hI, hC with
          | [p, q], _, hI, hC =>
            exact ⟨PB.wanted_free rfl, PQ.loud_value (run_assC W) ⟨hI.1, hI.2.1, hI.2.2.1, hI.2.2.2.1, hI.2.2.2.2, rfl⟩⟩
      · intro vs A W hk hI hE
        match vs, hk, hI, hE with
        | [p, q, r], _, hI, hE =>
          obtain ⟨hX, _, hB, hCm, rfl, rfl⟩ := hI
          have h5 : PB.slot A 5 = .int .i64 (atE : Int) := hE.left 6
          have h6 : PB.slot A 6 = .int .i64 0 := hE.left 7
          have h4 : PB.slot A 4 = .pointer (some ⟨w.heap.size, 0, none⟩) := hE.outer 4 rfl
          have HZ := hid' (HFIN.out W hB hCm)
          have hA := PT.frame_of (A := A) (n := 33) hE.size
          have hd : A.defers = [] := hE.defers
          rw [hd] at hA
          obtain ⟨fr, hfr⟩ : ∃ f, PB.slot A = f := ⟨_, rfl⟩
          rw [hfr] at hA h4 h5 h6
          rw [hA]
          obtain ⟨t0, t1, t2, t3, t4, t5, t6, t7, t8⟩ := cm_cells hX
          clear hA hfr hd hE hX hB hCm
          simp only [List.range, List.range.loop, List.map_cons, List.map_nil, h4, h5, h6]
          unfold cmV cmA at HZ
          go_wp2
          refine bodyPost_ret (v := .tuple #[.agg #[.int .i64 x.op, .int .i64 x.node, .slice sx.ra x.row.length sx.rc, .int .i64 x.time.1, .int .i64 x.time.2, .int .i64 x.diff, .slice sx.fa x.front.length sx.fc, .int .i64 x.fuel, .slice sx.sa x.sheet.length sx.sc], .int .i64 (atE : Int), .int .i64 0]) ?_ rfl HZ.out
          unfold results
          go_simp

end Go.Proofs.Ytgalmkhgbokidaa
