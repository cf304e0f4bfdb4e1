/-
  What is proved here: Join of two, of the program and of the document.
-/
import Derived.Test.YtaadbjnfnmjkfaaJoins
namespace Go.Proofs.Ytaadbjnfnmjkfaa
open Go.RowKit Go.Proofs
set_option linter.unusedVariables false
set_option linter.unusedSimpArgs false

/-- The steps of something of which is in advance what is of both. -/
def IsJoin (f g : List T) : Value → World → Prop := fun v w => ∃ J h, StepsOf J h ∧ (∀ z, Adv J z ↔ Adv f z ∧ Adv g z) ∧ h.length ≤ 1000000 ∧ IsL h v w

theorem isJoin_lasts (f g : List T) : PB.Lasts (IsJoin f g) := fun _ _ _ ⟨J, h, h1, h2, h3, h4⟩ hb => ⟨J, h, h1, h2, h3, h4.on hb⟩

section
variable {a : Act} {t u : Nat} {dst : Option Tmp} {ty : TypeId} {pos : String} {aft : Array Edge} {guard : Option (Nat × Bool)}

theorem run_fieldS {B : Nat} (w : World) (h : PB.slot a t = .pointer (some ⟨B, 0, none⟩)) :
    (execOp a.eval { dst := dst, op := .fieldAddr 41 (.tmp t) 0, type := ty, pos := pos, after := aft, guard := guard }).run Try.prog w = .ok (.value (.pointer (some ⟨B, 0, none⟩))) w := by
  have h1 : a.tmps[t]?.getD undef = .pointer (some ⟨B, 0, none⟩) := by rw [← Array.getD_eq_getD_getElem?]; exact h
  go_simp

theorem run_loadS {B : Nat} {b : Option Addr} {n c : Nat} (w : World) (h : PB.slot a t = .pointer (some ⟨B, 0, none⟩)) (hc : w.cell? ⟨B, 0, none⟩ = some (.slice b n c)) :
    (execOp a.eval { dst := dst, op := .load 22 (.tmp t), type := ty, pos := pos, after := aft, guard := guard }).run Try.prog w = .ok (.value (.slice b n c)) w := by
  have h1 : a.tmps[t]?.getD undef = .pointer (some ⟨B, 0, none⟩) := by rw [← Array.getD_eq_getD_getElem?]; exact h
  go_simp

theorem run_one {x1 x2 : Int} (w : World) (h : PB.slot a t = .agg #[.int .i64 x1, .int .i64 x2]) :
    (execOp a.eval { dst := dst, op := .buildSlice 22 1 #[(0, .tmp t)], type := ty, pos := pos, after := aft, guard := guard }).run Try.prog w = .ok (.value (.slice (some ⟨w.heap.size, 0, none⟩) 1 1)) (w.alloc (.cells #[.int .i64 x1, .int .i64 x2] 32)) := by
  have h1 : a.tmps[t]?.getD undef = .agg #[.int .i64 x1, .int .i64 x2] := by rw [← Array.getD_eq_getD_getElem?]; exact h
  go_simp
end

/-- A new slice of one time, made since w0. -/
def One (w0 : World) (z : T) : Value → World → Prop := fun v w => ∃ g, v = .slice (some ⟨g, 0, none⟩) 1 1 ∧ w0.heap.size ≤ g ∧ Box w g z

theorem one_lasts (w0 : World) (z : T) : PB.Lasts (One w0 z) := fun _ _ _ ⟨g, h1, h2, h3⟩ hb => ⟨g, h1, h2, h3.on hb⟩

theorem meet_newL (f g : List T) (u v : Value) (w : World) (hu : IsL f u w) (hv : IsL g v w) (hf : f.length ≤ 100000) (hg : g.length ≤ 100000) (p q : List T) (hpq : ∀ z, Adv (f ++ g) z ↔ Adv p z ∧ Adv q z) :
    Calls Try.prog 19 #[u, v] w fun e w' => ∃ x, e = .returned x ∧ Below w.heap.size w w' ∧ IsJoin p q x w' :=
  (Meet_any w f g u v hu hv hf hg).mono fun e w' ⟨x, s, he, h1, h2, h3, hb⟩ => ⟨x, he, hb, f ++ g, s, h1, hpq, by omega, h3⟩

set_option maxRecDepth 20000 in
set_option maxHeartbeats 2000000 in
theorem Join_any (w : World) (f g : List T) (u v : Value) (hu : IsL f u w) (hv : IsL g v w) (hf : f.length ≤ 100000) (hg : g.length ≤ 100000) :
    Calls Try.prog 21 #[u, v] w fun e w' => ∃ x, e = .returned x ∧ IsJoin f g x w' ∧ Below w.heap.size w w' := by
  have mixed : Try.prog.follows .mixedOrders = true := by kernel_rfl
  have H1 := hid' (new_L w f u hu (by omega))
  have HV := hid' hv
  clear hu hv
  go_enter Try.func21, Try.ntmps21
  go_wp2_with fail
  refine H1.out.mono ?_
  rintro e w1 ⟨u1, s, rfl, hs1, hs2, hs3, hb1⟩
  have H2 := hid' (new_L w1 g v (HV.out.on hb1) (by omega))
  obtain ⟨a1, c1, rfl, hc1, hsl1, hts1⟩ := hs3
  have HS := hid' (And.intro hs1 hts1)
  have hs3' : IsL s (.slice a1 s.length c1) w1 := ⟨a1, c1, rfl, hc1, hsl1, hts1⟩
  have HSL := hid' hs3'
  clear H1 HV hs1 hts1 hsl1 hs3'
  go_wp2_with fail
  refine H2.out.mono ?_
  rintro e w2 ⟨u2, r, rfl, hr1, hr2, hr3, hb2⟩
  obtain ⟨a2, c2, rfl, hc2, hsl2, hts2⟩ := hr3
  have hr3' : IsL r (.slice a2 r.length c2) w2 := ⟨a2, c2, rfl, hc2, hsl2, hts2⟩
  have HRL := hid' hr3'
  have HR := hid' (And.intro hr1 hts2)
  clear H2 hr1 hts2 hsl2 hr3'
  obtain ⟨W0, hW0⟩ : ∃ W0, (w2.alloc (.cells #[.slice a1 s.length c1] 41)).alloc (.cells #[.slice a2 r.length c2] 41) = W0 := ⟨_, rfl⟩
  have hb3 : Below w2.heap.size w2 W0 := by rw [← hW0]; exact ((Below.refl _ w2).alloc (Nat.le_refl _) _).alloc (by simp) _
  have hsz3 : W0.heap.size = w2.heap.size + 1 + 1 := by rw [← hW0]; simp
  have HC1 : Hid (∀ W, Below W0.heap.size W0 W → W.cell? ⟨w2.heap.size, 0, none⟩ = some (.slice a1 s.length c1)) := fun W hW => by
    refine (hW.cell (p := ⟨w2.heap.size, 0, none⟩) (by show w2.heap.size < _; omega)).trans ?_
    rw [← hW0, cell_of_row _ _ _ _ _ _ (heap_alloc2_old w2 _ _)]; rfl
  have HC2 : Hid (∀ W, Below W0.heap.size W0 W → W.cell? ⟨w2.heap.size + 1, 0, none⟩ = some (.slice a2 r.length c2)) := fun W hW => by
    refine (hW.cell (p := ⟨w2.heap.size + 1, 0, none⟩) (by show w2.heap.size + 1 < _; omega)).trans ?_
    rw [← hW0, cell_of_row _ _ _ _ _ _ (heap_alloc2_new w2 _ _)]; rfl
  have HSW : Hid (∀ W, Below W0.heap.size W0 W → IsL s (.slice a1 s.length c1) W) := fun W hW => (HSL.out.on hb2).on (hb3.trans (hW.mono hb3.size))
  have HRW : Hid (∀ W, Below W0.heap.size W0 W → IsL r (.slice a2 r.length c2) W) := fun W hW => HRL.out.on (hb3.trans (hW.mono hb3.size))
  have HJ1 : Hid (∀ W, Below W0.heap.size W0 W → Calls Try.prog 38 #[.pointer (some ⟨w2.heap.size, 0, none⟩), .slice a2 r.length c2] W fun e w' => ∃ x, e = .returned x ∧ Below W.heap.size W w' ∧ IsL (joinsT s r) x w') := fun W hW => by
    obtain ⟨q1, q2, q3, _, _, q4⟩ := HSW.out W hW
    simp at q3
    obtain ⟨rfl, rfl⟩ := q3
    exact (joins_any W w2.heap.size a1 c1 s a2 c2 r.length r (HC1.out W hW) q4 (by have := hW.size; omega) HS.out.1.st (by omega) rfl (HRW.out W hW) (by omega)).mono fun e w' ⟨x, he, h1, h2⟩ => ⟨x, he, h2, h1⟩
  have HJ2 : Hid (∀ W, Below W0.heap.size W0 W → Calls Try.prog 38 #[.pointer (some ⟨w2.heap.size + 1, 0, none⟩), .slice a1 s.length c1] W fun e w' => ∃ x, e = .returned x ∧ Below W.heap.size W w' ∧ IsL (joinsT r s) x w') := fun W hW => by
    obtain ⟨q1, q2, q3, _, _, q4⟩ := HRW.out W hW
    simp at q3
    obtain ⟨rfl, rfl⟩ := q3
    exact (joins_any W (w2.heap.size + 1) a2 c2 r a1 c1 s.length s (HC2.out W hW) q4 (by have := hW.size; omega) HR.out.1.st (by omega) rfl (HSW.out W hW) (by omega)).mono fun e w' ⟨x, he, h1, h2⟩ => ⟨x, he, h2, h1⟩
  have HADV : Hid (∀ z, Adv (joinsT s r ++ joinsT r s) z ↔ Adv f z ∧ Adv g z) := fun z => by
    rw [adv_joins HS.out.1.st HR.out.1.st, HS.out.1.adv, HR.out.1.adv]
  have HJL : Hid ((joinsT s r).length ≤ 100000 ∧ (joinsT r s).length ≤ 100000) := ⟨by have := joinsT_length s r; omega, by have := joinsT_length r s; omega⟩
  have HBW : Hid (Below w.heap.size w W0) := (hb1.trans (hb2.mono hb1.size)).trans (hb3.mono (hb1.trans (hb2.mono hb1.size)).size)
  generalize joinsT s r = J1 at HJ1 HADV HJL
  generalize joinsT r s = J2 at HJ2 HADV HJL
  have HW0 := hid' hW0
  generalize s.length = ns at *
  generalize r.length = nr at *
  clear hW0 hb3
  go_wp2_with fail
  rw [HW0.out]
  refine PT.wp_region_tail 8 (PB.phi [PB.E (.pointer (some ⟨w2.heap.size + 1, 0, none⟩)), PB.E (.slice a2 nr c2), IsL J1, PB.E (.pointer (some ⟨w2.heap.size, 0, none⟩)), PB.E (.slice a1 ns c1), IsL J2, IsJoin f g, IsJoin f g]) mixed (by kernel_rfl)
    (PB.phi_lasts _ ⟨PB.E_lasts _, PB.E_lasts _, isL_lasts _, PB.E_lasts _, PB.E_lasts _, isL_lasts _, isJoin_lasts _ _, isJoin_lasts _ _, trivial⟩) ?_ ?_
  · refine ⟨?_, ?_, ?_, ?_, ?_, ?_, ?_, ?_, trivial⟩ <;> intro A W hB hS hA hF
    · exact Or.inl (PB.does_run (PB.wanted_free rfl) (run_fieldS W (hS.slots 6 rfl)) rfl)
    · exact Or.inl (PB.does_run (PB.wanted_free rfl) (run_loadS W (hA 0 rfl) (HC2.out W hB)) rfl)
    · exact Or.inl (PB.does_call #[.pointer (some ⟨w2.heap.size, 0, none⟩), .slice a2 nr c2] (PB.wanted_free rfl) rfl Try.func38 rfl rfl (by show [PB.slot A 5, PB.slot A 14] = _; rw [show PB.slot A 5 = .pointer (some ⟨w2.heap.size, 0, none⟩) from (hS.slots 5 rfl), show PB.slot A 14 = .slice a2 nr c2 from (hA 1 rfl)]) (HJ1.out W hB))
    · exact Or.inl (PB.does_run (PB.wanted_free rfl) (run_fieldS W (hS.slots 5 rfl)) rfl)
    · exact Or.inl (PB.does_run (PB.wanted_free rfl) (run_loadS W (hA 3 rfl) (HC1.out W hB)) rfl)
    · exact Or.inl (PB.does_call #[.pointer (some ⟨w2.heap.size + 1, 0, none⟩), .slice a1 ns c1] (PB.wanted_free rfl) rfl Try.func38 rfl rfl (by show [PB.slot A 6, PB.slot A 17] = _; rw [show PB.slot A 6 = .pointer (some ⟨w2.heap.size + 1, 0, none⟩) from (hS.slots 6 rfl), show PB.slot A 17 = .slice a1 ns c1 from (hA 4 rfl)]) (HJ2.out W hB))
    · exact Or.inl (PB.does_call #[PB.slot A 15, PB.slot A 18] (PB.wanted_free rfl) rfl Try.func19 rfl rfl rfl (meet_newL J1 J2 _ _ W (hA 2 rfl) (hA 5 rfl) HJL.out.1 HJL.out.2 f g HADV.out))
    · exact Or.inl (PB.does_assign (PB.wanted_free rfl) rfl (hA 6 rfl))
  · intro A W hB hS hL
    have h_13 : PB.slot A 13 = .pointer (some ⟨w2.heap.size + 1, 0, none⟩) := hL 0 (by decide)
    have h_14 : PB.slot A 14 = .slice a2 nr c2 := hL 1 (by decide)
    have h_16 : PB.slot A 16 = .pointer (some ⟨w2.heap.size, 0, none⟩) := hL 3 (by decide)
    have h_17 : PB.slot A 17 = .slice a1 ns c1 := hL 4 (by decide)
    have hj : IsJoin f g (PB.slot A 4) W := hL 7 (by decide)
    have hA := PT.frame_of (A := A) (n := 20) hS.size
    have hd : A.defers = [] := hS.defers
    rw [hd] at hA
    obtain ⟨fr, hf⟩ : ∃ f, PB.slot A = f := ⟨_, rfl⟩
    rw [hf] at hA h_13 h_14 h_16 h_17 hj
    rw [hA]
    clear hA hf hd hL hS
    simp only [List.range, List.range.loop, List.map_cons, List.map_nil, List.drop_succ_cons, List.drop_zero, h_13, h_14, h_16, h_17]
    clear h_13 h_14 h_16 h_17
    have HQ := hid' hj
    clear hj
    go_wp2
    go_ret
    exact ⟨_, rfl, HQ.out, HBW.out.trans (hB.mono HBW.out.size)⟩

/-- All joins of one of f and one of g. -/
def allJ (f g : List T) : List T := f.flatMap fun x => g.map fun y => joinT x y

theorem adv_allJ (f g : List T) (z : T) : Adv (allJ f g) z ↔ Adv f z ∧ Adv g z := by
  unfold Adv allJ
  constructor
  · rintro ⟨x, hx, hc⟩
    obtain ⟨a, ha, hx⟩ := List.mem_flatMap.1 hx
    obtain ⟨b, hb, rfl⟩ := List.mem_map.1 hx
    rw [le2_join] at hc
    exact ⟨⟨a, ha, hc.1⟩, ⟨b, hb, hc.2⟩⟩
  · rintro ⟨⟨a, ha, h1⟩, ⟨b, hb, h2⟩⟩
    exact ⟨joinT a b, List.mem_flatMap.2 ⟨a, ha, List.mem_map.2 ⟨b, hb, rfl⟩⟩, (le2_join _ _ _).2 ⟨h1, h2⟩⟩

/-- What there is of them behind j whole rounds and m of the next. -/
def part (f g : List T) (j m : Nat) : List T := allJ (f.take j) g ++ (g.take m).map fun y => joinT (f.getD j (0, 0)) y

theorem part_step (f g : List T) (j m : Nat) (hm : m < g.length) : part f g j (m + 1) = part f g j m ++ [joinT (f.getD j (0, 0)) (g.getD m (0, 0))] := by
  unfold part
  rw [List.take_add_one, List.map_append, List.append_assoc]
  simp [List.getD, List.getElem?_eq_getElem hm]

theorem part_next (f g : List T) (j : Nat) (hj : j < f.length) : part f g (j + 1) 0 = part f g j g.length := by
  unfold part allJ
  rw [List.take_add_one, List.flatMap_append, List.take_length]
  simp [List.getD, List.getElem?_eq_getElem hj]

theorem part_all (f g : List T) : part f g f.length 0 = allJ f g := by
  unfold part
  simp

theorem rt_allJ {f g : List T} (hf : ∀ x ∈ f, RT x) (hg : ∀ x ∈ g, RT x) : ∀ x ∈ allJ f g, RT x := by
  intro x hx
  obtain ⟨a, ha, hx⟩ := List.mem_flatMap.1 hx
  obtain ⟨b, hb, rfl⟩ := List.mem_map.1 hx
  exact RT.join (hf a ha) (hg b hb)

set_option maxRecDepth 20000 in
set_option maxHeartbeats 4000000 in
theorem rJoin_any (w : World) (f g : List T) (a1 a2 : Option Addr) (c1 c2 n m : Nat) (hf : f.length = n) (hg : g.length = m) (hu : IsL f (.slice a1 n c1) w) (hv : IsL g (.slice a2 m c2) w) (hn : n ≤ 900) (hm : m ≤ 900) :
    Calls Try.prog 22 #[.slice a1 n c1, .slice a2 m c2] w fun e w' => ∃ x, e = .returned x ∧ IsJoin f g x w' ∧ Below w.heap.size w w' := by
  have mixed : Try.prog.follows .mixedOrders = true := by kernel_rfl
  obtain ⟨i23, hi23, hy0, hy1, hy2⟩ := info_parts Try.info23
  have HF := hid' hf
  have HG := hid' hg
  have HRT := hid' (rt_allJ hu.range hv.range)
  have HU := hid' hu
  have HV := hid' hv
  clear hu hv hf hg
  go_enter Try.func22, Try.ntmps22
  go_wp2
  go_loopg [5, 6] n (fun k v i wr => ∃ (j : Nat) (acc : List T), j + k = n ∧ i = .int .i64 (j : Int) ∧ acc.length = j * m ∧ Hid (acc = part f g j 0) ∧ Hid (wr.ownsRow w.heap.size 32 2 v acc.length (flat acc)) ∧ Hid (Below w.heap.size w wr))
  case atStart => exact ⟨0, [], by omega, rfl, by simp, (by unfold Hid; simp [part, allJ]), ⟨rfl, .inl ⟨rfl, rfl⟩⟩, Below.refl _ _⟩
  case round =>
    obtain ⟨j, acc, hj, rfl, haj, hacc, hown, hbel⟩ := hrel
    cases gk with
    | zero =>
      obtain rfl : j = n := by omega
      have HE : Hid (acc = allJ f g) := by unfold Hid; rw [hacc.out, ← HF.out, part_all]
      have hle : acc.length ≤ 900 * 900 := by rw [haj]; exact Nat.mul_le_mul hn hm
      have HNW := hid' (rNew_L wr acc u5 (IsL.of_owns hown.out (by rw [HE.out]; exact HRT.out)) (by omega))
      clear haj
      go_wp2_with fail
      refine HNW.out.mono ?_
      rintro e w2 ⟨y, h, rfl, h1, h2, h3, hb2⟩
      have HQ : Hid (IsJoin f g y w2) := ⟨acc, h, h1, fun z => by rw [HE.out]; exact adv_allJ f g z, by omega, h3⟩
      clear h1 h2 h3 HNW
      go_wp2
      go_ret
      exact ⟨y, rfl, HQ.out, hbel.out.trans (hb2.mono hbel.out.size)⟩
    | succ k =>
      have hjn : j < n := by omega
      have hjl : j < f.length := by rw [HF.out]; exact hjn
      obtain ⟨a', cap', e1, hcap, hsl, hts⟩ := HU.out
      simp at e1
      obtain ⟨rfl, -, rfl⟩ := e1
      obtain ⟨b1, o1, rfl, hB1, hc1⟩ := hts.cells (by rintro rfl; simp at hjl)
      have HX : Hid (w.cell? ⟨b1, o1 + j * 2, none⟩ = some (.int .i64 (f.getD j (0, 0)).1) ∧ w.cell? ⟨b1, o1 + j * 2 + 1, none⟩ = some (.int .i64 (f.getD j (0, 0)).2)) := hc1 j hjl
      have HNX := hid' (part_next f g j hjl)
      have HST := hid' (part_step f g j)
      have hM : j * m ≤ 900 * 900 := Nat.mul_le_mul (by omega) hm
      obtain ⟨M, hMM⟩ : ∃ M, j * m = M := ⟨_, rfl⟩
      have HMM := hid' hMM
      rw [hMM] at haj hM
      generalize f.getD j (0, 0) = x at HX HST
      obtain ⟨x1, x2⟩ := x
      simp only at HX
      clear hc1 hts hsl hcap hjl hMM
      go_wp2
      go_loopg [5, 7] m (fun k v i wr => ∃ (q : Nat) (acc : List T), q + k = m ∧ i = .int .i64 (q : Int) ∧ acc.length = M + q ∧ Hid (acc = part f g j q) ∧ Hid (wr.ownsRow w.heap.size 32 2 v acc.length (flat acc)) ∧ Hid (Below w.heap.size w wr))
      case atStart => exact ⟨0, acc, by omega, rfl, by omega, hacc, hown, hbel⟩
      case round =>
        obtain ⟨q, acc, hq, rfl, haq, hacc, hown, hbel⟩ := hrel
        cases gk with
        | zero =>
          obtain rfl : q = m := by omega
          have HE : Hid (acc = part f g (j + 1) 0) := by unfold Hid; rw [HNX.out, HG.out]; exact hacc.out
          have hlen : acc.length = (j + 1) * q := by rw [haq, ← HMM.out, Nat.add_mul, Nat.one_mul]
          have HLEN := hid' hlen
          clear hlen haq
          go_wp2
          go_roundg k
          case measure => omega
          case rel => exact ⟨j + 1, acc, by omega, by simp, HLEN.out, HE, hown, hbel⟩
        | succ kk =>
          have hqm : q < m := by omega
          have hql : q < g.length := by rw [HG.out]; exact hqm
          obtain ⟨a', cap', e1, hcap, hsl, hts⟩ := HV.out
          simp at e1
          obtain ⟨rfl, -, rfl⟩ := e1
          obtain ⟨b2, o2, rfl, hB2, hc2⟩ := hts.cells (by rintro rfl; simp at hql)
          have HY : Hid (w.cell? ⟨b2, o2 + q * 2, none⟩ = some (.int .i64 (g.getD q (0, 0)).1) ∧ w.cell? ⟨b2, o2 + q * 2 + 1, none⟩ = some (.int .i64 (g.getD q (0, 0)).2)) := hc2 q hql
          have HS2 := hid' (HST.out q hql)
          generalize g.getD q (0, 0) = y at HY HS2
          obtain ⟨y1, y2⟩ := y
          simp only at HY
          obtain ⟨⟨z1, z2⟩, hz⟩ : ∃ z, joinT (x1, x2) (y1, y2) = z := ⟨_, rfl⟩
          have HZ := hid' hz
          rw [hz] at HS2
          clear hc2 hts hsl hcap hql hz
          go_wp2_with fail
          refine PT.wp_region_tail 11 (PB.phi [PB.E (u5), PB.E (.slice (some ⟨b1, o1, none⟩) n c1), PB.E (.int .i64 (j : Int)), PB.E (.pointer (some ⟨b1, o1 + j * 2, none⟩)), PB.E (.agg #[.int .i64 x1, .int .i64 x2]), PB.E (.slice (some ⟨b2, o2, none⟩) m c2), PB.E (.int .i64 (q : Int)), PB.E (.pointer (some ⟨b2, o2 + q * 2, none⟩)), PB.E (.agg #[.int .i64 y1, .int .i64 y2]), PB.E (.agg #[.int .i64 z1, .int .i64 z2]), One wr (z1, z2)]) mixed (by kernel_rfl)
            (PB.phi_lasts _ ⟨PB.E_lasts _, PB.E_lasts _, PB.E_lasts _, PB.E_lasts _, PB.E_lasts _, PB.E_lasts _, PB.E_lasts _, PB.E_lasts _, PB.E_lasts _, PB.E_lasts _, one_lasts _ _, trivial⟩) ?_ ?_
          · refine ⟨?_, ?_, ?_, ?_, ?_, ?_, ?_, ?_, ?_, ?_, ?_, trivial⟩ <;> intro A W hB hS hA hF
            · exact Or.inl (PB.does_move (PB.wanted_free rfl) rfl (hS.slots 5 rfl))
            · exact Or.inl (PB.does_move (PB.wanted_free rfl) rfl (hS.slots 0 rfl))
            · exact Or.inl (PB.does_move (PB.wanted_free rfl) rfl (hS.slots 6 rfl))
            · exact Or.inl (PB.does_run (PB.wanted_free rfl) (run_index W (hA 1 rfl) (hA 2 rfl) hjn (by omega)) rfl)
            · exact Or.inl (PB.does_run (PB.wanted_free rfl) (run_load W (hA 3 rfl) (((hbel.out.trans (hB.mono hbel.out.size)).cell (p := ⟨b1, o1 + j * 2, none⟩) hB1).trans HX.out.1) (((hbel.out.trans (hB.mono hbel.out.size)).cell (p := ⟨b1, o1 + j * 2 + 1, none⟩) hB1).trans HX.out.2)) rfl)
            · exact Or.inl (PB.does_move (PB.wanted_free rfl) rfl (hS.slots 1 rfl))
            · exact Or.inl (PB.does_move (PB.wanted_free rfl) rfl (hS.slots 7 rfl))
            · exact Or.inl (PB.does_run (PB.wanted_free rfl) (run_index W (hA 5 rfl) (hA 6 rfl) hqm (by omega)) rfl)
            · exact Or.inl (PB.does_run (PB.wanted_free rfl) (run_load W (hA 7 rfl) (((hbel.out.trans (hB.mono hbel.out.size)).cell (p := ⟨b2, o2 + q * 2, none⟩) hB2).trans HY.out.1) (((hbel.out.trans (hB.mono hbel.out.size)).cell (p := ⟨b2, o2 + q * 2 + 1, none⟩) hB2).trans HY.out.2)) rfl)
            · exact Or.inl (PB.does_call #[.agg #[.int .i64 x1, .int .i64 x2], .agg #[.int .i64 y1, .int .i64 y2]] (PB.wanted_free rfl) rfl Try.func28 rfl rfl (by show [PB.slot A 24, PB.slot A 28] = _; rw [show PB.slot A 24 = .agg #[.int .i64 x1, .int .i64 x2] from (hA 4 rfl), show PB.slot A 28 = .agg #[.int .i64 y1, .int .i64 y2] from (hA 8 rfl)]) (by have := rjoin_newB (x1, x2) (y1, y2) W; rw [HZ.out] at this; exact this))
            · exact Or.inl (PT.does_grown (PB.wanted_free rfl) (run_one W (hA 9 rfl)) ((Below.refl _ W).alloc (Nat.le_refl _) _) ⟨W.heap.size, rfl, hB.size, Box.new W (z1, z2)⟩)
          · intro A W hB hS hL
            have h_20 : PB.slot A 20 = u5 := hL 0 (by decide)
            have h_21 : PB.slot A 21 = .slice (some ⟨b1, o1, none⟩) n c1 := hL 1 (by decide)
            have h_22 : PB.slot A 22 = .int .i64 (j : Int) := hL 2 (by decide)
            have h_23 : PB.slot A 23 = .pointer (some ⟨b1, o1 + j * 2, none⟩) := hL 3 (by decide)
            have h_24 : PB.slot A 24 = .agg #[.int .i64 x1, .int .i64 x2] := hL 4 (by decide)
            have h_25 : PB.slot A 25 = .slice (some ⟨b2, o2, none⟩) m c2 := hL 5 (by decide)
            have h_26 : PB.slot A 26 = .int .i64 (q : Int) := hL 6 (by decide)
            have h_27 : PB.slot A 27 = .pointer (some ⟨b2, o2 + q * 2, none⟩) := hL 7 (by decide)
            have h_28 : PB.slot A 28 = .agg #[.int .i64 y1, .int .i64 y2] := hL 8 (by decide)
            have h_29 : PB.slot A 29 = .agg #[.int .i64 z1, .int .i64 z2] := hL 9 (by decide)
            have one : One wr (z1, z2) (PB.slot A 30) W := hL 10 (by decide)
            have q_0 : PB.slot A 0 = .slice (some ⟨b1, o1, none⟩) n c1 := hS.slots 0 rfl
            have q_1 : PB.slot A 1 = .slice (some ⟨b2, o2, none⟩) m c2 := hS.slots 1 rfl
            have q_5 : PB.slot A 5 = u5 := hS.slots 5 rfl
            have q_6 : PB.slot A 6 = .int .i64 (j : Int) := hS.slots 6 rfl
            have q_7 : PB.slot A 7 = .int .i64 (q : Int) := hS.slots 7 rfl
            have q_2 := hS.slots 2 rfl
            have q_3 := hS.slots 3 rfl
            have q_4 := hS.slots 4 rfl
            have q_8 := hS.slots 8 rfl
            have q_9 := hS.slots 9 rfl
            have q_10 := hS.slots 10 rfl
            have q_11 := hS.slots 11 rfl
            have q_12 := hS.slots 12 rfl
            have q_13 := hS.slots 13 rfl
            have q_14 := hS.slots 14 rfl
            have q_15 := hS.slots 15 rfl
            have q_16 := hS.slots 16 rfl
            have q_17 := hS.slots 17 rfl
            have q_18 := hS.slots 18 rfl
            have q_19 := hS.slots 19 rfl
            have q_31 := hS.slots 31 rfl
            have q_32 := hS.slots 32 rfl
            have q_33 := hS.slots 33 rfl
            simp only [PB.slot, Array.getD_eq_getD_getElem?, List.getElem?_toArray, List.getElem?_cons_succ, List.getElem?_cons_zero, Option.getD_some] at q_2 q_3 q_4 q_8 q_9 q_10 q_11 q_12 q_13 q_14 q_15 q_16 q_17 q_18 q_19 q_31 q_32 q_33
            have q_2 := (PT.slot_get A 2).trans q_2
            have q_3 := (PT.slot_get A 3).trans q_3
            have q_4 := (PT.slot_get A 4).trans q_4
            have q_8 := (PT.slot_get A 8).trans q_8
            have q_9 := (PT.slot_get A 9).trans q_9
            have q_10 := (PT.slot_get A 10).trans q_10
            have q_11 := (PT.slot_get A 11).trans q_11
            have q_12 := (PT.slot_get A 12).trans q_12
            have q_13 := (PT.slot_get A 13).trans q_13
            have q_14 := (PT.slot_get A 14).trans q_14
            have q_15 := (PT.slot_get A 15).trans q_15
            have q_16 := (PT.slot_get A 16).trans q_16
            have q_17 := (PT.slot_get A 17).trans q_17
            have q_18 := (PT.slot_get A 18).trans q_18
            have q_19 := (PT.slot_get A 19).trans q_19
            have q_31 := (PT.slot_get A 31).trans q_31
            have q_32 := (PT.slot_get A 32).trans q_32
            have q_33 := (PT.slot_get A 33).trans q_33
            have hA := PT.frame_of (A := A) (n := 34) hS.size
            have hd : A.defers = [] := hS.defers
            rw [hd] at hA
            obtain ⟨fr, hf⟩ : ∃ f, PB.slot A = f := ⟨_, rfl⟩
            rw [hf] at hA h_20 h_21 h_22 h_23 h_24 h_25 h_26 h_27 h_28 h_29 q_0 q_1 q_5 q_6 q_7 q_2 q_3 q_4 q_8 q_9 q_10 q_11 q_12 q_13 q_14 q_15 q_16 q_17 q_18 q_19 q_31 q_32 q_33 one
            rw [hA]
            clear hA hf hd hL hS
            simp only [List.range, List.range.loop, List.map_cons, List.map_nil, List.drop_succ_cons, List.drop_zero, h_20, h_21, h_22, h_23, h_24, h_25, h_26, h_27, h_28, h_29, q_0, q_1, q_5, q_6, q_7, q_2, q_3, q_4, q_8, q_9, q_10, q_11, q_12, q_13, q_14, q_15, q_16, q_17, q_18, q_19, q_31, q_32, q_33]
            clear h_20 h_21 h_22 h_23 h_24 h_25 h_26 h_27 h_28 h_29 q_0 q_1 q_5 q_6 q_7 q_2 q_3 q_4 q_8 q_9 q_10 q_11 q_12 q_13 q_14 q_15 q_16 q_17 q_18 q_19 q_31 q_32 q_33
            obtain ⟨gz, hgz, hgz0, hbz⟩ := one
            rw [hgz]
            have HO2 := hid' (owns_below hown.out hB)
            have HBW : Hid (Below w.heap.size w W) := hbel.out.trans (hB.mono hbel.out.size)
            have HSRC : Hid (∀ i u, (flat [(z1, z2)])[i]? = some u → W.cell? ((⟨gz, 0, none⟩ : Addr).add i) = some u) := by
              intro i u hu
              rw [flat_one] at hu
              match i, hu with
              | 0, hu => simp at hu; subst hu; exact hbz.c1
              | 1, hu => simp at hu; subst hu; exact hbz.c2
              | i + 2, hu => simp at hu
            have hszW := HBW.out.size
            have HE : Hid (acc ++ [(z1, z2)] = part f g j (q + 1)) := by unfold Hid; rw [HS2.out, ← hacc.out]
            clear hB hgz hbz hown hbel
            go_wp2_with (
              (at_builtin; refine wpList_append_own _ rfl _ _ 22 rfl w.heap.size 32 i23 (.agg #[.int .i64 0, .int .i64 0]) 2 16 Try.underlying22 hi23 hy0 hy1 hy2 rfl (by decide) _ _ _ rfl HO2.out ⟨gz, 0, none⟩ 1 1 (flat [(z1, z2)]) rfl (by rw [length_flat]; rfl) HSRC.out (flat_ones _) (by unfold maxLen; omega) (by omega) hszW ?_; intro v4 w4 hown4 hgrow4 hnil4))
            have hgr4 : W.grownBy w4 u5.ownBlock := hgrow4
            have HB4 : Hid (Below w.heap.size w w4) := HBW.out.grown hgr4 hszW (fun q hq => (HO2.out.lt q hq).1)
            have HO4 : Hid (w4.ownsRow w.heap.size 32 2 v4 (acc ++ [(z1, z2)]).length (flat (acc ++ [(z1, z2)]))) := by
              unfold Hid; rw [List.length_append, flat_append]; exact hown4
            clear hgrow4 hnil4 hgr4 hown4
            go_roundg kk
            case measure => omega
            case rel => exact ⟨q + 1, acc ++ [(z1, z2)], by omega, by simp, by rw [List.length_append, haq]; rfl, HE, HO4, HB4⟩

theorem rJoin_L (w : World) (f g : List T) (u v : Value) (hu : IsL f u w) (hv : IsL g v w) (hn : f.length ≤ 900) (hm : g.length ≤ 900) :
    Calls Try.prog 22 #[u, v] w fun e w' => ∃ x, e = .returned x ∧ IsJoin f g x w' ∧ Below w.heap.size w w' := by
  have h1 := hu
  have h2 := hv
  obtain ⟨a, c, rfl, _⟩ := hu
  obtain ⟨a', c', rfl, _⟩ := hv
  exact rJoin_any w f g a a' c c' _ _ rfl rfl h1 h2 hn hm

end Go.Proofs.Ytaadbjnfnmjkfaa
