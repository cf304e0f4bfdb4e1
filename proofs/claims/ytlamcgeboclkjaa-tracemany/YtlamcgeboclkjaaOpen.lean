/-
  What is proved here: a trace's Open.
-/
import Derived.Test.YtlamcgeboclkjaaTrS
import Derived.Test.YtlamcgeboclkjaaTail
namespace Go.Proofs.Ytlamcgeboclkjaa
open Go.RowKit Go.Maps
set_option linter.unusedVariables false
set_option linter.unusedSimpArgs false

section
variable {a : Act} {t u : Nat} {dst : Option Tmp} {ty : TypeId} {pos : String} {aft : Array Edge} {guard : Option (Nat × Bool)}

theorem runT_nil {B : Nat} (w : World) (h : PB.slot a t = .pointer (some ⟨B, 0, none⟩)) :
    (execOp a.eval { dst := dst, op := .nilCheck (.tmp t), type := ty, pos := pos, after := aft, guard := guard }).run Try.prog w = .ok (.value (.pointer (some ⟨B, 0, none⟩))) w := by
  have h1 : a.tmps[t]?.getD undef = .pointer (some ⟨B, 0, none⟩) := by rw [← Array.getD_eq_getD_getElem?]; exact h
  go_simp

theorem runT_field0 {B : Nat} (w : World) (h : PB.slot a t = .pointer (some ⟨B, 0, none⟩)) :
    (execOp a.eval { dst := dst, op := .fieldAddr 42 (.tmp t) 0, type := ty, pos := pos, after := aft, guard := guard }).run Try.prog w = .ok (.value (.pointer (some ⟨B, 0, none⟩))) w := by
  have h1 : a.tmps[t]?.getD undef = .pointer (some ⟨B, 0, none⟩) := by rw [← Array.getD_eq_getD_getElem?]; exact h
  go_simp

theorem runT_field1 {B : Nat} (w : World) (h : PB.slot a t = .pointer (some ⟨B, 0, none⟩)) :
    (execOp a.eval { dst := dst, op := .fieldAddr 42 (.tmp t) 1, type := ty, pos := pos, after := aft, guard := guard }).run Try.prog w = .ok (.value (.pointer (some ⟨B, 1, none⟩))) w := by
  have h1 : a.tmps[t]?.getD undef = .pointer (some ⟨B, 0, none⟩) := by rw [← Array.getD_eq_getD_getElem?]; exact h
  go_simp

theorem runT_loadM {B M : Nat} (w : World) (h : PB.slot a t = .pointer (some ⟨B, 1, none⟩)) (hc : w.cell? ⟨B, 1, none⟩ = some (.map (some M))) :
    (execOp a.eval { dst := dst, op := .load 40 (.tmp t), type := ty, pos := pos, after := aft, guard := guard }).run Try.prog w = .ok (.value (.map (some M))) w := by
  have h1 : a.tmps[t]?.getD undef = .pointer (some ⟨B, 1, none⟩) := by rw [← Array.getD_eq_getD_getElem?]; exact h
  go_simp

theorem runT_loadS {B S : Nat} (w : World) (h : PB.slot a t = .pointer (some ⟨B, 0, none⟩)) (hc : w.cell? ⟨B, 0, none⟩ = some (.pointer (some ⟨S, 0, none⟩))) :
    (execOp a.eval { dst := dst, op := .load 37 (.tmp t), type := ty, pos := pos, after := aft, guard := guard }).run Try.prog w = .ok (.value (.pointer (some ⟨S, 0, none⟩))) w := by
  have h1 : a.tmps[t]?.getD undef = .pointer (some ⟨B, 0, none⟩) := by rw [← Array.getD_eq_getD_getElem?]; exact h
  go_simp
end

theorem one_lasts (x : T) : PB.Lasts (One x) := fun _ _ _ h hb => h.on hb

theorem clone_newB (x : T) (v : Value) (w : World) (h : One x v w) : Calls Try.prog 18 #[v] w fun e w' => ∃ u, e = .returned u ∧ Below w.heap.size w w' ∧ One x u w' := (clone_one x v w h).mono fun e w' ⟨u, h1, h2, h3⟩ => ⟨u, h1, h3, h2⟩


set_option maxRecDepth 10000 in
set_option maxHeartbeats 2000000 in
/-- Open: a reader more. -/
theorem open_any {w : World} {G S M nn : Nat} {ks : Int → Prop} {cnt : Nat} {f : Int → T} {nx : Nat} {sx : T} (h : St w G S M nn ks cnt f nx sx) (x : T) (v : Value) (hx : One x v w) (hck : checkT x = 0) (hle : le2 sx x = true) (hcnt : cnt < 64) (hnn : nn ≤ 1000) (hnx : nx ≤ 1000) (hnew : ¬ ks nx) (hfx : f nx = x) :
    Calls Try.prog 7 #[.pointer (some ⟨G, 0, none⟩), v] w fun e w' => e = .returned (.tuple #[.int .i64 (nx : Int), .int .i64 0]) ∧ St w' G S M (nn + 1) (fun z => z = (nx : Int) ∨ ks z) (cnt + 1) f (nx + 1) sx ∧ Kp G S M w w' := by
  have mixed : Try.prog.follows .mixedOrders = true := by kernel_rfl
  have HH := hid' h
  have HX := hid' hx
  have HCK := hid' (check_one x v w hx hck)
  have c0 := h.cellsG.1
  obtain ⟨g, c, rfl⟩ : ∃ g c, v = .slice (some ⟨g, 0, none⟩) 1 c := by obtain ⟨_, g, c, _, e, _⟩ := hx; exact ⟨g, c, e⟩
  clear h hx hck
  go_enter Try.func7, Try.ntmps7
  go_wp2_with fail
  refine (own_any G w).mono ?_
  rintro e w' ⟨rfl, rfl⟩
  go_wp2_with fail
  refine HCK.out.mono ?_
  rintro e w1 ⟨rfl, hb1⟩
  clear HCK
  have H1 := hid' (HH.out.on hb1)
  have X1 := hid' (HX.out.on hb1)
  have c1 := H1.out.cellsG.1
  have HSI := hid' H1.out.since
  clear c0
  go_wp2_with fail
  refine HSI.out.mono ?_
  rintro e w2 ⟨u, rfl, hu, hb2⟩
  clear HSI c1
  have HLE := hid' (le_one sx x u _ w2 hu (X1.out.on hb2) hle)
  have H2 := hid' (H1.out.on hb2)
  have X2 := hid' (X1.out.on hb2)
  clear hu
  go_wp2_with fail
  refine HLE.out.mono ?_
  rintro e w3 ⟨rfl, hb3⟩
  clear HLE
  have H3 := hid' (H2.out.on hb3)
  have X3 := hid' (X2.out.on hb3)
  have c3 := H3.out.cellsG.2.1
  have c4 := H3.out.cellsG.2.2
  have f4 : w3.frozen? ⟨G, 2, none⟩ = false := by simp [World.frozen?, H3.out.tr]
  obtain ⟨D, hown, hc, hk, hv⟩ := H3.out.mp
  have HOWN := hid' hown
  have hlen : Hid (Maps.size D = cnt) := hc
  have hlt : ¬ ((Maps.size D : Nat) : Int) ≥ 64 := by rw [hc]; omega
  clear hown hc hk hv
  have HB := hid' ((hb1.trans (hb2.mono hb1.size)).trans (hb3.mono (hb1.trans (hb2.mono hb1.size)).size))
  clear hb1 hb2 hb3 H1 H2 X1 X2 HH HX
  go_wp2_with (at_len; refine wpList_len_own _ rfl _ 40 rfl 3 32 Try.underlying40 heldR M nn D rfl HOWN.out ?_)
  obtain ⟨w4, hw4⟩ : ∃ q, w3.setCell ⟨G, 2, none⟩ (.int .i64 ((nx : Int) + 1)) = q := ⟨_, rfl⟩
  have H4 : Hid (St w4 G S M nn ks cnt f (nx + 1) sx) := by unfold Hid; rw [← hw4]; exact H3.out.bump
  have K4 : Hid (Kp G S M w3 w4) := by unfold Hid; rw [← hw4]; exact Kp.set (.inl rfl) _
  have X4 := hid' (H3.out.one K4.out X3.out)
  rw [hw4]
  clear hw4 c3 c4 f4 HOWN hlen H3 X3
  refine PT.wp_region_tail 7 (PB.phi [PB.E (.pointer (some ⟨G, 0, none⟩)), PB.E (.pointer (some ⟨G, 0, none⟩)), PB.E (.pointer (some ⟨G, 1, none⟩)), PB.E (.map (some M)), PB.E (.int .i64 (nx : Int)), PB.E (.slice (some ⟨g, 0, none⟩) 1 c), One x]) mixed (by kernel_rfl)
    (PB.phi_lasts _ ⟨PB.E_lasts _, PB.E_lasts _, PB.E_lasts _, PB.E_lasts _, PB.E_lasts _, PB.E_lasts _, one_lasts _, trivial⟩) ?_ ?_
  · refine ⟨?_, ?_, ?_, ?_, ?_, ?_, ?_, trivial⟩ <;> intro A W hB hS hA hF
    · exact Or.inl (PB.does_move (PB.wanted_free rfl) rfl (hS.slots 6 rfl))
    · exact Or.inl (PB.does_run (PB.wanted_free rfl) (runT_nil W (hA 0 rfl)) rfl)
    · exact Or.inl (PB.does_run (PB.wanted_free rfl) (runT_field1 W (hA 1 rfl)) rfl)
    · exact Or.inl (PB.does_run (PB.wanted_free rfl) (runT_loadM W (hA 2 rfl) ((H4.out).on hB).cellsG.2.1) rfl)
    · exact Or.inl (PB.does_move (PB.wanted_free rfl) rfl (hS.slots 4 rfl))
    · exact Or.inl (PB.does_move (PB.wanted_free rfl) rfl (hS.slots 1 rfl))
    · exact Or.inl (PB.does_call #[.slice (some ⟨g, 0, none⟩) 1 c] (PB.wanted_free rfl) rfl Try.func18 rfl rfl (by show [PB.slot A 52] = _; rw [show PB.slot A 52 = .slice (some ⟨g, 0, none⟩) 1 c from (hA 5 rfl)]) (clone_newB x _ W (X4.out.on hB)))
  · intro A W hB hS hL
    have h_47 : PB.slot A 47 = .pointer (some ⟨G, 0, none⟩) := hL 0 (by decide)
    have h_48 : PB.slot A 48 = .pointer (some ⟨G, 0, none⟩) := hL 1 (by decide)
    have h_49 : PB.slot A 49 = .pointer (some ⟨G, 1, none⟩) := hL 2 (by decide)
    have h_50 : PB.slot A 50 = .map (some M) := hL 3 (by decide)
    have h_51 : PB.slot A 51 = .int .i64 (nx : Int) := hL 4 (by decide)
    have h_52 : PB.slot A 52 = .slice (some ⟨g, 0, none⟩) 1 c := hL 5 (by decide)
    have hu : One x (PB.slot A 53) W := hL 6 (by decide)
    have q_4 : PB.slot A 4 = .int .i64 (nx : Int) := hS.slots 4 rfl
    have hA := PT.frame_of (A := A) (n := 55) hS.size
    have hd : A.defers = [] := hS.defers
    rw [hd] at hA
    obtain ⟨fr, hf⟩ : ∃ f, PB.slot A = f := ⟨_, rfl⟩
    rw [hf] at hA h_47 h_48 h_49 h_50 h_51 h_52 q_4 hu
    rw [hA]
    clear hA hf hd hL hS
    simp only [List.range, List.range.loop, List.map_cons, List.map_nil, List.drop_succ_cons, List.drop_zero, h_47, h_48, h_49, h_50, h_51, h_52, q_4]
    clear h_47 h_48 h_49 h_50 h_51 h_52 q_4
    obtain ⟨u5, hu5⟩ : ∃ q, fr 53 = q := ⟨_, rfl⟩
    rw [hu5] at hu ⊢
    clear hu5
    have H5 := hid' (H4.out.on hB)
    obtain ⟨D5, hown5, hc5, hk5, hv5⟩ := H5.out.mp
    have HK5 := hid' hk5
    have HV5 := hid' hv5
    have HC5 := hid' hc5
    have HU := hid' hu
    have KB := hid' hB
    clear hk5 hv5 hc5 hu hB
    have hr : R64 (nx : Int) := by unfold R64; omega
    have hkey := key3 hr
    have hmax : nn < maxLen := by unfold maxLen; omega
    go_wp2_with (at_mapUpdate; refine wpList_mapUpdate_own _ rfl _ _ _ 40 rfl 3 32 keyed3 Try.underlying40 heldR M nn D5 rfl hown5 hmax _ _ (.int .i64 (nx : Int)) rfl rfl hkey (.held u5) [] rfl ?_; intro w6 hown6 hg6)
    go_ret2
    refine ⟨rfl, H5.out.put hown5 HC5.out HK5.out HV5.out hr hown6 hg6 (by rw [hfx]; exact HU.out) (fun y _ _ => rfl) (fun e => absurd e hnew) (fun _ => rfl), ?_⟩
    exact ((Kp.of_below HB.out).trans K4.out).trans ((Kp.of_below KB.out).trans (Kp.of_grown hg6))


end Go.Proofs.Ytlamcgeboclkjaa
