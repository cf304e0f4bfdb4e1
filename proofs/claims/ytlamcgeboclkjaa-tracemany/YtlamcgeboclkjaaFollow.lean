/-
  What is proved here: a trace follows its readers: its spine is advanced to the least of their times.
-/
import Derived.Test.YtlamcgeboclkjaaOpenM
import Derived.Test.YtlamcgeboclkjaaTrN
namespace Go.Proofs.Ytlamcgeboclkjaa
open Go.RowKit Go.Maps
set_option linter.unusedVariables false
set_option linter.unusedSimpArgs false

theorem flat_ones' (l : List T) : ∀ u ∈ flat l, u.oneCell' = true := by
  intro u hu
  simp only [flat, List.mem_flatMap] at hu
  obtain ⟨x, _, hx⟩ := hu
  simp at hx
  rcases hx with rfl | rfl <;> rfl

theorem One.src {x : T} {w : World} {g c : Nat} (h : One x (.slice (some ⟨g, 0, none⟩) 1 c) w) : ∀ j u, [Value.int .i64 x.1, Value.int .i64 x.2][j]? = some u → w.cell? ((⟨g, 0, none⟩ : Addr).add j) = some u := by
  intro j u hj
  obtain ⟨_, h1, h2⟩ := h.cells
  match j, hj with
  | 0, hj => simp at hj; subst hj; simpa [Addr.add] using h1
  | 1, hj => simp at hj; subst hj; simpa [Addr.add] using h2
  | j + 2, hj => simp at hj

/-- What the loop has gathered so far. -/
def Gath (w0 : World) (f : Int → T) (ss : List Int) (j : Nat) (v : Value) (wr : World) : Prop := wr.ownsRow w0.heap.size 31 2 v j (flat ((ss.take j).map f)) ∧ Below w0.heap.size w0 wr

theorem run_look {w : World} {G S M nn : Nat} {ks : Int → Prop} {cnt : Nat} {f : Int → T} {nx : Nat} {sx : T} (h : St w G S M nn ks cnt f nx sx) {z : Int} (hz : ks z) (hr : R64 z) :
    ∃ g c, (Instr.lookup 40 (.map (some M)) (.int .i64 z) false).run Try.prog w = .ok (.slice (some ⟨g, 0, none⟩) 1 c) w ∧ One (f z) (.slice (some ⟨g, 0, none⟩) 1 c) w := by
  obtain ⟨D, hown, hc, hk, hv⟩ := h.mp
  obtain ⟨v, hat, hone⟩ := hv z hz
  obtain ⟨v', ps, hrun, hR⟩ := hown.lookup keyed3 Try.underlying40 (zeroTimes w) (zd := .held (.slice none 0 0)) (zp := []) rfl (key3 hr)
  rw [hat] at hR
  simp [heldR] at hR
  obtain ⟨rfl, _⟩ := hR
  obtain ⟨g, c, rfl⟩ : ∃ g c, v' = .slice (some ⟨g, 0, none⟩) 1 c := by obtain ⟨_, g, c, _, e, _⟩ := hone; exact ⟨g, c, e⟩
  exact ⟨g, c, hrun, hone⟩


set_option maxRecDepth 10000 in
set_option maxHeartbeats 2000000 in
/-- follow without readers: nothing. -/
theorem follow_none {w : World} {G S M nn : Nat} {ks : Int → Prop} {f : Int → T} {nx : Nat} {sx : T} (h : St w G S M nn ks 0 f nx sx) :
    Calls Try.prog 20 #[.pointer (some ⟨G, 0, none⟩)] w fun e w' => e = .returned (.tuple #[]) ∧ w' = w := by
  have c1 := h.cellsG.2.1
  obtain ⟨D, hown, hc, hk, hv⟩ := h.mp
  have HOWN := hid' hown
  have hlt : ((Maps.size D : Nat) : Int) = 0 := by rw [hc]; rfl
  clear h hown hc hk hv
  go_enter Try.func20, Try.ntmps20
  go_wp2_with (at_len; refine wpList_len_own _ rfl _ 40 rfl 3 32 Try.underlying40 heldR M nn D rfl HOWN.out ?_; rw [hlt])
  refine bodyPost_ret (results_none rfl _ _ _) rfl ?_
  exact ⟨rfl, rfl⟩

set_option maxRecDepth 10000 in
set_option maxHeartbeats 4000000 in
/-- follow, where there are readers: since becomes the least of their times. -/
theorem follow_any {w : World} {G S M nn : Nat} {ks : Int → Prop} {cnt : Nat} {f : Int → T} {nx : Nat} {sx : T} (h : St w G S M nn ks cnt f nx sx) (hcnt : cnt ≤ 1000) (hpos : 0 < cnt) (y : T) (hy : ∃ z, ks z ∧ f z = y) (hmin : ∀ z, ks z → le2 y (f z) = true) (hck : checkT y = 0) (hle : le2 sx y = true) :
    Calls Try.prog 20 #[.pointer (some ⟨G, 0, none⟩)] w fun e w' => e = .returned (.tuple #[]) ∧ St w' G S M nn ks cnt f nx y ∧ Kp G S M w w' := by
  have mixed : Try.prog.follows .mixedOrders = true := by kernel_rfl
  obtain ⟨i23, hi23, hy0, hy1, hy2⟩ := info_parts Try.info23
  have HH := hid' h
  have HN := hid' (numbers_any h hcnt)
  have c1 := h.cellsG.2.1
  obtain ⟨D, hown, hc, hk, hv⟩ := h.mp
  have HOWN := hid' hown
  have hlt : ¬ ((Maps.size D : Nat) : Int) = 0 := by rw [hc]; omega
  have HY := hid' hy
  have HM := hid' hmin
  clear h hown hc hk hv hy hmin
  go_enter Try.func20, Try.ntmps20
  go_wp2_with (first | (at_len; refine wpList_len_own _ rfl _ 40 rfl 3 32 Try.underlying40 heldR M nn D rfl HOWN.out ?_) | fail)
  refine HN.out.mono ?_
  rintro e w1 ⟨v, ss, rfl, hlen, hmem, hr64, hrow, hb1⟩
  clear HN hlt HOWN
  have H1 := hid' (HH.out.on hb1)
  have HMEM := hid' hmem
  have HR64 := hid' hr64
  obtain ⟨b, cap, cur, rfl, hbb, hcur, hcap, hcapm, hcsz, htake⟩ : ∃ b cap cur, v = .slice (some ⟨b, 0, none⟩) cnt cap ∧ w.heap.size ≤ b ∧ w1.heap[b]? = some (.cells cur 3 (0, 0)) ∧ cnt ≤ cap ∧ cap ≤ maxLen ∧ cur.size = cap * 1 ∧ cur.toList.take cnt = ss.map encZ := by
    rcases hrow.2 with ⟨_, h0⟩ | ⟨b, cap, cur, e, q1, q2, q3, q4, q5, q6⟩
    · omega
    · rw [hlen] at e q3 q6
      exact ⟨b, cap, cur, e, q1, q2, q3, q4, q5, by simpa using q6⟩
  have HCELL : Hid (∀ j, j < cnt → w1.cell? ⟨b, j, none⟩ = some (.int .i64 (ss.getD j 0))) := fun j hj => by
    rw [cell_of_row _ _ _ _ _ _ hcur, ← Array.getElem?_toList, ← List.getElem?_take_of_lt hj, htake]
    have hj' : j < ss.length := by rw [hlen]; exact hj
    simp [encZ, List.getD, hj']
  have hblt : b < w1.heap.size := (Array.getElem?_eq_some_iff.1 hcur).1
  have HLEN := hid' hlen
  have HB1 := hid' hb1
  clear hrow hcur hcap hcapm hcsz htake hmem hr64 hlen hb1 c1 hbb HH
  go_wp2
  go_loopg [2, 14] cnt (fun k v i wr => ∃ j : Nat, j + k = cnt ∧ i = .int .i64 (j : Int) ∧ Hid (Gath w1 f ss j v wr))
  case atStart => exact ⟨0, by omega, rfl, ⟨⟨by simp [flat], .inl ⟨rfl, rfl⟩⟩, Below.refl _ _⟩⟩
  case round =>
    obtain ⟨j, hj, rfl, hg⟩ := hrel
    cases gk with
    | zero =>
      obtain rfl : j = cnt := by omega
      have Hr := hid' (H1.out.on hg.out.2)
      have HB2 := hid' hg.out.2
      have HTA : Hid (ss.take j = ss) := List.take_of_length_le (Nat.le_of_eq HLEN.out)
      have HLN : Hid ((ss.map f).length = j) := by unfold Hid; rw [List.length_map]; exact HLEN.out
      have HG : Hid (wr.ownsRow w1.heap.size 31 2 u2 (ss.map f).length (flat (ss.map f))) := by
        have := hg.out.1
        rw [HTA.out] at this
        unfold Hid
        rw [HLN.out]
        exact this
      have HRT : Hid (∀ x ∈ ss.map f, RT x) := fun x hx => by
        obtain ⟨z, hz, rfl⟩ := List.mem_map.1 hx
        obtain ⟨D', _, _, _, hv'⟩ := H1.out.mp
        obtain ⟨v', _, ho'⟩ := hv' z ((HMEM.out z).1 hz)
        exact ho'.1
      have HYM : Hid (y ∈ ss.map f) := by
        obtain ⟨z, hz, e⟩ := HY.out
        exact List.mem_map.2 ⟨z, (HMEM.out z).2 hz, e⟩
      have HMN : Hid (∀ x ∈ ss.map f, le2 y x = true) := fun x hx => by
        obtain ⟨z, hz, rfl⟩ := List.mem_map.1 hx
        exact HM.out z ((HMEM.out z).1 hz)
      have HLE : Hid ((ss.map f).length ≤ 1000000000) := by unfold Hid; rw [HLN.out]; omega
      clear hg HCELL HLEN HMEM HR64 HTA HLN HY HM hj
      go_wp2
      refine PT.wp_region_tail 6 (PB.phi [PB.E (.pointer (some ⟨G, 0, none⟩)), PB.E (.pointer (some ⟨G, 0, none⟩)), PB.E (.pointer (some ⟨G, 0, none⟩)), PB.E (.pointer (some ⟨S, 0, none⟩)), PB.E (u2), One y]) mixed (by kernel_rfl)
        (PB.phi_lasts _ ⟨PB.E_lasts _, PB.E_lasts _, PB.E_lasts _, PB.E_lasts _, PB.E_lasts _, one_lasts _, trivial⟩) ?_ ?_
      · refine ⟨?_, ?_, ?_, ?_, ?_, ?_, trivial⟩ <;> intro A W hB hS hA hF
        · exact Or.inl (PB.does_move (PB.wanted_free rfl) rfl (hS.slots 0 rfl))
        · exact Or.inl (PB.does_run (PB.wanted_free rfl) (runT_nil W (hA 0 rfl)) rfl)
        · exact Or.inl (PB.does_run (PB.wanted_free rfl) (runT_field0 W (hA 1 rfl)) rfl)
        · exact Or.inl (PB.does_run (PB.wanted_free rfl) (runT_loadS W (hA 2 rfl) ((Hr.out).on hB).cellsG.1) rfl)
        · exact Or.inl (PB.does_move (PB.wanted_free rfl) rfl (hS.slots 2 rfl))
        · exact Or.inl (PB.does_call #[u2] (PB.wanted_free rfl) rfl Try.func25 rfl rfl (by show [PB.slot A 31] = _; rw [show PB.slot A 31 = u2 from (hA 4 rfl)]) (new_ones W w1.heap.size u2 (ss.map f) (owns_below HG.out hB) HRT.out HLE.out y HYM.out HMN.out))
      · intro A W hB hS hL
        have h_27 : PB.slot A 27 = .pointer (some ⟨G, 0, none⟩) := hL 0 (by decide)
        have h_28 : PB.slot A 28 = .pointer (some ⟨G, 0, none⟩) := hL 1 (by decide)
        have h_29 : PB.slot A 29 = .pointer (some ⟨G, 0, none⟩) := hL 2 (by decide)
        have h_30 : PB.slot A 30 = .pointer (some ⟨S, 0, none⟩) := hL 3 (by decide)
        have h_31 : PB.slot A 31 = u2 := hL 4 (by decide)
        have hu : One y (PB.slot A 32) W := hL 5 (by decide)
        have hA := PT.frame_of (A := A) (n := 34) hS.size
        have hd : A.defers = [] := hS.defers
        rw [hd] at hA
        obtain ⟨fr, hf⟩ : ∃ f, PB.slot A = f := ⟨_, rfl⟩
        rw [hf] at hA h_27 h_28 h_29 h_30 h_31 hu
        rw [hA]
        clear hA hf hd hL hS
        simp only [List.range, List.range.loop, List.map_cons, List.map_nil, List.drop_succ_cons, List.drop_zero, h_27, h_28, h_29, h_30, h_31]
        clear h_27 h_28 h_29 h_30 h_31
        obtain ⟨u5, hu5⟩ : ∃ q, fr 32 = q := ⟨_, rfl⟩
        rw [hu5] at hu ⊢
        clear hu5
        have HAD := hid' (advance_any (Hr.out.on hB) y u5 hu hck hle)
        have KB := hid' hB
        clear hu hB
        go_wp2_with fail
        refine HAD.out.mono ?_
        rintro e w6 ⟨rfl, hst, hkp⟩
        clear HAD
        go_wp2
        go_end0
        exact ⟨rfl, hst, ((Kp.of_below HB1.out).trans (Kp.of_below (HB2.out))).trans ((Kp.of_below KB.out).trans hkp)⟩
    | succ k =>
      have hjc : j < cnt := by omega
      have hcell := (hg.out.2.cell (p := ⟨b, j, none⟩) hblt).trans (HCELL.out j hjc)
      have hjl : j < ss.length := by rw [HLEN.out]; exact hjc
      have hzm : ss.getD j 0 ∈ ss := by simp [List.getD, hjl]
      have HTK : Hid (flat ((ss.take (j + 1)).map f) = flat ((ss.take j).map f) ++ [.int .i64 (f (ss.getD j 0)).1, .int .i64 (f (ss.getD j 0)).2]) := by
        unfold Hid
        rw [List.take_add_one, List.map_append, flat_append]
        simp [List.getD, hjl, flat_one]
      have hr := HR64.out _ hzm
      have hks := (HMEM.out _).1 hzm
      have Hr := hid' (H1.out.on (hg.out.2))
      generalize ss.getD j 0 = z at hcell HTK hr hks
      obtain ⟨gz, cz, hrun, hone⟩ := run_look Hr.out hks hr
      have c1 := Hr.out.cellsG.2.1
      have hsrc := hid' hone.src
      have hsz := hg.out.2.size
      have HG := hid' hg.out.1
      have HB2 := hid' hg.out.2
      clear hzm hjl hr hks hone hg
      go_wp2_with (at_builtin; refine wpList_append_own _ rfl _ _ 32 rfl w1.heap.size 31 i23 (.agg #[.int .i64 0, .int .i64 0]) 2 16 Try.underlying32 hi23 hy0 hy1 hy2 rfl (by decide) _ j _ rfl HG.out ⟨gz, 0, none⟩ 1 cz [.int .i64 (f z).1, .int .i64 (f z).2] rfl rfl hsrc.out (by simp [Value.oneCell']) (by unfold maxLen; omega) (by omega) hsz ?_; intro v3 w3 hown3 hgrow3 hnil3)
      have hgr3 : wr.grownBy w3 u2.ownBlock := hgrow3
      have hb3 : Below w1.heap.size w1 w3 := HB2.out.grown hgr3 hsz (fun q hq => (HG.out.lt q hq).1)
      have HO3 : Hid (Gath w1 f ss (j + 1) v3 w3) := ⟨by rw [HTK.out]; exact hown3, hb3⟩
      clear hgrow3 hnil3 hgr3 hown3 hb3
      go_roundg k
      case measure => omega
      case rel => exact ⟨j + 1, by omega, by simp, HO3⟩

end Go.Proofs.Ytlamcgeboclkjaa
