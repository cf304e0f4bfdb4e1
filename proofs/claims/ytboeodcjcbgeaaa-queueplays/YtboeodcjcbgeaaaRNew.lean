/-
  What is proved here: New of the document: the least times, in strict order; a set of least times are steps.
-/
import Derived.Test.YtboeodcjcbgeaaaEq
namespace Go.Proofs.Ytboeodcjcbgeaaa
open Go.RowKit Go.Proofs
set_option linter.unusedVariables false
set_option linter.unusedSimpArgs false

set_option maxRecDepth 100000 in
/-- An operation whose guard was itself passed over. -/
theorem PT.pass_undef {ops : Array Oper} {o : Oper} {a : Act} {j d : Nat} {b : Bool} (h : o.guard = some (j, b)) (hd : (ops[j]?).bind (·.dst) = some d) (hs : PB.slot a d = undef) : Region.wanted o (yielded ops a.tmps) = false := by
  unfold PB.slot at hs
  rw [Array.getD_eq_getD_getElem?] at hs
  cases hh : a.tmps[d]? with
  | none => simp [Region.wanted, h, yielded, hd, hh]
  | some x =>
    rw [hh] at hs
    simp only [Option.getD_some] at hs
    subst hs
    simp [Region.wanted, h, yielded, hd, hh, undef]

set_option maxRecDepth 100000 in
theorem exists_first : ∀ (l : List T), l ≠ [] → ∃ m ∈ l, ∀ x ∈ l, ¬ ltT x m
  | [], h => absurd rfl h
  | [y], _ => ⟨y, by simp, fun x hx => by simp at hx; subst hx; exact ltT_irrefl _⟩
  | y :: z :: r, _ => by
    obtain ⟨m, hm, hl⟩ := exists_first (z :: r) (by simp)
    by_cases h : ltT y m
    · refine ⟨y, by simp, fun x hx => ?_⟩
      rcases List.mem_cons.1 hx with rfl | hx
      · exact ltT_irrefl _
      · exact fun hc => hl x hx (ltT_trans hc h)
    · refine ⟨m, by simp at hm ⊢; exact .inr hm, fun x hx => ?_⟩
      rcases List.mem_cons.1 hx with rfl | hx
      · exact h
      · exact hl x hx

set_option maxRecDepth 100000 in
theorem least_below {l : List T} {y : T} (hy : y ∈ l) : ∃ x, Least l x ∧ le2 x y = true := by
  obtain ⟨m, hm, hl⟩ := exists_first (l.filter fun z => le2 z y) (by
    intro e
    have : y ∈ l.filter fun z => le2 z y := List.mem_filter.2 ⟨hy, le2_refl y⟩
    rw [e] at this; simp at this)
  obtain ⟨h1, h2⟩ := List.mem_filter.1 hm
  refine ⟨m, ⟨h1, fun z hz hc => ?_⟩, h2⟩
  have hn := hl z (List.mem_filter.2 ⟨hz, le2_trans hc h2⟩)
  rw [le2_iff] at hc
  unfold ltT at hn
  obtain ⟨z1, z2⟩ := z
  obtain ⟨m1, m2⟩ := m
  simp only at hc hn
  simp only [Prod.mk.injEq]
  omega

set_option maxRecDepth 100000 in
theorem set_steps {l f : List T} (h : SetOf f (Least l)) : StepsOf l f :=
  ⟨steps_of_set h, fun x hx => ((h.mem x).1 hx).1, fun y hy => by
    obtain ⟨x, hx, hc⟩ := least_below hy
    exact ⟨x, (h.mem x).2 hx, hc⟩⟩

set_option maxRecDepth 100000 in
theorem set_addT {acc : List T} {p q : T → Prop} {t : T} (h : SetOf acc p) (e : ∀ x, q x ↔ x = t ∨ p x) : SetOf (addT acc t) q :=
  ⟨sl_addT acc t h.sl, fun x => by rw [mem_addT, h.mem, e]⟩

set_option maxRecDepth 100000 in
theorem addT_length (l : List T) (t : T) : (addT l t).length ≤ l.length + 1 := by
  rw [addT_place]
  split
  · omega
  · simp; omega

/-- No other one of the first k is LessEq to x. -/
def None (l : List T) (k : Nat) (x : T) : Prop := ∀ y ∈ l.take k, y = x ∨ le2 y x = false

set_option maxRecDepth 100000 in
theorem none_step {l : List T} {k : Nat} (hk : k < l.length) (x : T) : None l (k + 1) x ↔ None l k x ∧ (l.getD k (0, 0) = x ∨ le2 (l.getD k (0, 0)) x = false) := by
  unfold None
  have e : l.take (k + 1) = l.take k ++ [l.getD k (0, 0)] := by rw [List.take_add_one]; simp [List.getD, List.getElem?_eq_getElem hk]
  rw [e]
  constructor
  · intro h; exact ⟨fun y hy => h y (by simp [hy]), h _ (by simp)⟩
  · rintro ⟨h1, h2⟩ y hy
    rcases List.mem_append.1 hy with hy | hy
    · exact h1 y hy
    · simp at hy; subst hy; exact h2

set_option maxRecDepth 100000 in
theorem none_least {l : List T} {x : T} (hx : x ∈ l) : None l l.length x ↔ Least l x := by
  unfold None Least
  rw [List.take_length]
  constructor
  · intro h; refine ⟨hx, fun y hy hc => ?_⟩
    rcases h y hy with e | e
    · exact e
    · rw [hc] at e; cases e
  · rintro ⟨_, h⟩ y hy
    cases hc : le2 y x
    · exact .inr rfl
    · exact .inl (h y hy hc)

/-- The least ones among the first j. -/
def LeastTo (l : List T) (j : Nat) (x : T) : Prop := x ∈ l.take j ∧ Least l x

set_option maxRecDepth 100000 in
theorem leastTo_step {l : List T} {j : Nat} (hj : j < l.length) (x : T) : LeastTo l (j + 1) x ↔ (x = l.getD j (0, 0) ∧ Least l x) ∨ LeastTo l j x := by
  unfold LeastTo
  have e : l.take (j + 1) = l.take j ++ [l.getD j (0, 0)] := by rw [List.take_add_one]; simp [List.getD, List.getElem?_eq_getElem hj]
  rw [e]
  simp only [List.mem_append, List.mem_singleton]
  constructor
  · rintro ⟨h | h, hl⟩
    · exact .inr ⟨h, hl⟩
    · exact .inl ⟨h, hl⟩
  · rintro (⟨h, hl⟩ | ⟨h, hl⟩)
    · exact ⟨.inr h, hl⟩
    · exact ⟨.inl h, hl⟩

/-- A slice that reads as times, at a place of its own. -/
def IsAcc (acc : List T) : Value → World → Prop := fun v w => ∃ a c, v = .slice a acc.length c ∧ acc.length ≤ c ∧ Sl a c ∧ Ts w.heap.size w a acc

set_option maxRecDepth 100000 in
theorem IsAcc.on {acc : List T} {v : Value} {w w' : World} (h : IsAcc acc v w) (hb : Below w.heap.size w w') : IsAcc acc v w' := by
  obtain ⟨a, c, rfl, hc, hs, ht⟩ := h
  exact ⟨a, c, rfl, hc, hs, ht.on hb⟩

set_option maxRecDepth 100000 in
theorem IsAcc.isL {acc : List T} {v : Value} {w : World} (h : IsAcc acc v w) : IsL acc v w := by
  obtain ⟨a, c, rfl, hc, hs, ht⟩ := h
  refine ⟨a, c, rfl, hc, ?_, ht⟩
  rcases hs with h | ⟨b, off, h⟩
  · exact .inl h
  · exact .inr ⟨_, h⟩

set_option maxRecDepth 100000 in
theorem add_acc (acc : List T) (t : T) (v : Value) (w : World) (h : IsAcc acc v w) (ht : RT t) (hl : acc.length ≤ 1000000) : Calls Try.prog 34 #[v, .agg #[.int .i64 t.1, .int .i64 t.2]] w fun e w' => ∃ u, e = .returned u ∧ Below w.heap.size w w' ∧ IsAcc (addT acc t) u w' := by
  obtain ⟨a, c, rfl, hc, hs, hts⟩ := h
  refine (add_any w a c acc t hts hc hs ht hl).mono ?_
  rintro e w' ⟨a', c', rfl, hc', hs', hts', hb'⟩
  exact ⟨_, rfl, hb', a', c', rfl, hc', hs', hts'⟩

set_option maxRecDepth 20000 in
set_option maxHeartbeats 4000000 in
theorem rNew_any (w : World) (a : Option Addr) (cap : Nat) (l : List T) (h : Ts w.heap.size w a l) (hl : l.length ≤ 1000000) :
    Calls Try.prog 26 #[.slice a l.length cap] w fun e w' => ∃ u f, e = .returned u ∧ StepsOf l f ∧ f.length ≤ l.length ∧ IsL f u w' ∧ Below w.heap.size w w' := by
  have mixed : Try.prog.follows .mixedOrders = true := by kernel_rfl
  obtain ⟨n, hn⟩ : ∃ n, l.length = n := ⟨_, rfl⟩
  have HN := hid' hn
  have HTS := hid' h
  rw [hn] at hl ⊢
  clear hn h
  go_enter Try.func26, Try.ntmps26
  go_wp2
  go_loopg [3, 4] n (fun k v i wr => ∃ (j : Nat) (acc : List T), j + k = n ∧ i = .int .i64 (j : Int) ∧ acc.length ≤ j ∧ Hid (IsAcc acc v wr) ∧ Hid (SetOf acc (LeastTo l j)) ∧ Hid (Below w.heap.size w wr))
  case atStart => exact ⟨0, [], by omega, rfl, by simp, ⟨none, 0, rfl, Nat.le_refl _, .inl ⟨rfl, rfl⟩, Ts.nil _ _ _⟩, ⟨List.Pairwise.nil, fun x => by simp [LeastTo]⟩, Below.refl _ _⟩
  case round =>
    obtain ⟨j, acc, hj, rfl, haj, hacc, hset, hbel⟩ := hrel
    cases gk with
    | zero =>
      obtain rfl : j = n := by omega
      have HS : Hid (SetOf acc (Least l)) := ⟨hset.out.sl, fun x => by
        rw [hset.out.mem]
        unfold LeastTo
        rw [List.take_of_length_le (Nat.le_of_eq HN.out)]
        exact ⟨fun h => h.2, fun h => ⟨h.1, h⟩⟩⟩
      go_wp2
      go_ret
      exact ⟨_, acc, rfl, set_steps HS.out, haj, hacc.out.isL, hbel.out⟩
    | succ k =>
      have hjn : j < n := by omega
      have hjl : j < l.length := by rw [HN.out]; exact hjn
      obtain ⟨b, off, rfl, hBb, hc⟩ := HTS.out.cells (by rintro rfl; simp at hjl)
      have HC := hid' hc
      have HX : Hid (w.cell? ⟨b, off + j * 2, none⟩ = some (.int .i64 (l.getD j (0, 0)).1) ∧ w.cell? ⟨b, off + j * 2 + 1, none⟩ = some (.int .i64 (l.getD j (0, 0)).2)) := hc j hjl
      have HNL := hid' (none_least (getD_mem hjl))
      have HST := hid' (leastTo_step hjl)
      have HRT : Hid (RT (l.getD j (0, 0))) := HTS.out.range _ (getD_mem hjl)
      rw [HN.out] at HNL
      generalize l.getD j (0, 0) = x at HX HNL HST HRT
      obtain ⟨x1, x2⟩ := x
      simp only at HX
      clear hc hjl
      obtain ⟨wO, hwO⟩ : ∃ x, x = wr := ⟨wr, rfl⟩
      subst hwO
      go_wp2
      go_loopg [5, 6] n (fun k v i wr => ∃ (m : Nat) (lb : Bool), m + k = n ∧ i = .int .i64 (m : Int) ∧ v = .bool lb ∧ Hid (lb = true ↔ None l m (x1, x2)) ∧ Hid (Below wO.heap.size wO wr))
      case atStart => exact ⟨0, true, by omega, rfl, rfl, ⟨fun _ y hy => (by simp at hy), fun _ => rfl⟩, Below.refl _ _⟩
      case round =>
        obtain ⟨m, lb, hm, rfl, rfl, hlb, hbl⟩ := hrel
        have hbw : Below w.heap.size w wr := hbel.out.trans (hbl.out.mono hbel.out.size)
        have HBW := hid' hbw
        clear hbw
        cases gk with
        | zero =>
          obtain rfl : m = n := by omega
          cases lb with
          | false =>
            have HS2 : Hid (SetOf acc (LeastTo l (j + 1))) := ⟨hset.out.sl, fun y => by
              rw [hset.out.mem, HST.out]
              constructor
              · exact fun h => .inr h
              · rintro (⟨rfl, hy⟩ | h)
                · have := hlb.out.2 (HNL.out.2 hy); cases this
                · exact h⟩
            have HAC2 := hid' (hacc.out.on hbl.out)
            go_wp2
            go_roundg k
            case measure => omega
            case rel => exact ⟨j + 1, acc, by omega, by simp, by omega, HAC2, HS2, HBW⟩
          | true =>
            have HLS : Hid (Least l (x1, x2)) := HNL.out.1 (hlb.out.1 rfl)
            have HS2 : Hid (SetOf (addT acc (x1, x2)) (LeastTo l (j + 1))) := set_addT hset.out (fun y => by
              rw [HST.out]
              constructor
              · rintro (⟨h, _⟩ | h)
                · exact .inl h
                · exact .inr h
              · rintro (h | h)
                · exact .inl ⟨h, by rw [h]; exact HLS.out⟩
                · exact .inr h)
            have hlen := addT_length acc (x1, x2)
            have HAD := hid' (add_acc acc (x1, x2) _ wr (hacc.out.on hbl.out) HRT.out (by omega))
            have p1 := (HBW.out.cell (p := ⟨b, off + j * 2, none⟩) hBb).trans HX.out.1
            have p2 := (HBW.out.cell (p := ⟨b, off + j * 2 + 1, none⟩) hBb).trans HX.out.2
            go_wp2_with fail
            refine HAD.out.mono ?_
            rintro e w2 ⟨u2, rfl, hb2, hac2⟩
            have HAC2 := hid' hac2
            have HB2 : Hid (Below w.heap.size w w2) := HBW.out.trans (hb2.mono HBW.out.size)
            clear p1 p2 HAD hac2 hb2
            generalize addT acc (x1, x2) = acc2 at HAC2 HS2 hlen
            go_wp2
            go_roundg k
            case measure => omega
            case rel => exact ⟨j + 1, acc2, by omega, by simp, by omega, HAC2, HS2, HB2⟩
        | succ kk =>
          have hmn : m < n := by omega
          have hml : m < l.length := by rw [HN.out]; exact hmn
          have HY : Hid (w.cell? ⟨b, off + m * 2, none⟩ = some (.int .i64 (l.getD m (0, 0)).1) ∧ w.cell? ⟨b, off + m * 2 + 1, none⟩ = some (.int .i64 (l.getD m (0, 0)).2)) := HC.out m hml
          have HNS := hid' (none_step hml (x1, x2))
          generalize l.getD m (0, 0) = y at HY HNS
          obtain ⟨y1, y2⟩ := y
          simp only at HY
          clear hml
          go_wp2_with fail
          cases lb with
          | false =>
            have HRES : Hid (false = true ↔ None l (m + 1) (x1, x2)) := ⟨fun h => (by cases h), fun h => hlb.out.2 ((HNS.out.1 h).1)⟩
            refine PT.wp_region_tail 24 (PB.phi [PB.E (.bool false), PB.E (.bool false), PB.E undef, PB.E undef, PB.E undef, PB.E undef, PB.E undef, PB.E undef, PB.E undef, PB.E undef, PB.E undef, PB.E undef, PB.E undef, PB.E undef, PB.E undef, PB.E undef, PB.E undef, PB.E undef, PB.E undef, PB.E undef, PB.E undef, PB.E undef, PB.E undef, PB.E (.bool false)]) mixed (by kernel_rfl)
              (PB.phi_lasts _ ⟨PB.E_lasts _, PB.E_lasts _, PB.E_lasts _, PB.E_lasts _, PB.E_lasts _, PB.E_lasts _, PB.E_lasts _, PB.E_lasts _, PB.E_lasts _, PB.E_lasts _, PB.E_lasts _, PB.E_lasts _, PB.E_lasts _, PB.E_lasts _, PB.E_lasts _, PB.E_lasts _, PB.E_lasts _, PB.E_lasts _, PB.E_lasts _, PB.E_lasts _, PB.E_lasts _, PB.E_lasts _, PB.E_lasts _, PB.E_lasts _, trivial⟩) ?_ ?_
            · refine ⟨?_, ?_, ?_, ?_, ?_, ?_, ?_, ?_, ?_, ?_, ?_, ?_, ?_, ?_, ?_, ?_, ?_, ?_, ?_, ?_, ?_, ?_, ?_, ?_, trivial⟩ <;> intro A W hB hS hA hF
              · exact Or.inl (PB.does_move (PB.wanted_free rfl) rfl (hS.slots 5 rfl))
              · exact Or.inl (PB.does_move (PB.wanted_free rfl) rfl (hA 0 rfl))
              · exact Or.inr ⟨PT.pass_by rfl rfl (hA 1 rfl) (by decide), rfl⟩
              · exact Or.inr ⟨PT.pass_by rfl rfl (hA 1 rfl) (by decide), rfl⟩
              · exact Or.inr ⟨PT.pass_by rfl rfl (hA 1 rfl) (by decide), rfl⟩
              · exact Or.inr ⟨PT.pass_by rfl rfl (hA 1 rfl) (by decide), rfl⟩
              · exact Or.inr ⟨PT.pass_by rfl rfl (hA 1 rfl) (by decide), rfl⟩
              · exact Or.inr ⟨PT.pass_by rfl rfl (hA 1 rfl) (by decide), rfl⟩
              · exact Or.inr ⟨PT.pass_by rfl rfl (hA 1 rfl) (by decide), rfl⟩
              · exact Or.inr ⟨PT.pass_by rfl rfl (hA 1 rfl) (by decide), rfl⟩
              · exact Or.inr ⟨PT.pass_by rfl rfl (hA 1 rfl) (by decide), rfl⟩
              · exact Or.inr ⟨PT.pass_by rfl rfl (hA 1 rfl) (by decide), rfl⟩
              · exact Or.inr ⟨PT.pass_undef rfl rfl (hA 11 rfl), rfl⟩
              · exact Or.inr ⟨PT.pass_undef rfl rfl (hA 11 rfl), rfl⟩
              · exact Or.inr ⟨PT.pass_undef rfl rfl (hA 11 rfl), rfl⟩
              · exact Or.inr ⟨PT.pass_undef rfl rfl (hA 11 rfl), rfl⟩
              · exact Or.inr ⟨PT.pass_undef rfl rfl (hA 11 rfl), rfl⟩
              · exact Or.inr ⟨PT.pass_undef rfl rfl (hA 11 rfl), rfl⟩
              · exact Or.inr ⟨PT.pass_undef rfl rfl (hA 11 rfl), rfl⟩
              · exact Or.inr ⟨PT.pass_undef rfl rfl (hA 11 rfl), rfl⟩
              · exact Or.inr ⟨PT.pass_undef rfl rfl (hA 11 rfl), rfl⟩
              · exact Or.inr ⟨PT.pass_undef rfl rfl (hA 11 rfl), rfl⟩
              · exact Or.inr ⟨PT.pass_by rfl rfl (hA 1 rfl) (by decide), rfl⟩
              · exact Or.inl (PB.does_run (PB.wanted_free rfl) (run_pick_elseC W (hA 1 rfl)) rfl)
            · intro A W hB hS hL
              have h_19 : PB.slot A 19 = .bool false := hL 0 (by decide)
              have h_20 : PB.slot A 20 = .bool false := hL 1 (by decide)
              have h_21 : PB.slot A 21 = undef := hL 2 (by decide)
              have h_22 : PB.slot A 22 = undef := hL 3 (by decide)
              have h_23 : PB.slot A 23 = undef := hL 4 (by decide)
              have h_24 : PB.slot A 24 = undef := hL 5 (by decide)
              have h_25 : PB.slot A 25 = undef := hL 6 (by decide)
              have h_26 : PB.slot A 26 = undef := hL 7 (by decide)
              have h_27 : PB.slot A 27 = undef := hL 8 (by decide)
              have h_28 : PB.slot A 28 = undef := hL 9 (by decide)
              have h_29 : PB.slot A 29 = undef := hL 10 (by decide)
              have h_30 : PB.slot A 30 = undef := hL 11 (by decide)
              have h_31 : PB.slot A 31 = undef := hL 12 (by decide)
              have h_32 : PB.slot A 32 = undef := hL 13 (by decide)
              have h_33 : PB.slot A 33 = undef := hL 14 (by decide)
              have h_34 : PB.slot A 34 = undef := hL 15 (by decide)
              have h_35 : PB.slot A 35 = undef := hL 16 (by decide)
              have h_36 : PB.slot A 36 = undef := hL 17 (by decide)
              have h_37 : PB.slot A 37 = undef := hL 18 (by decide)
              have h_38 : PB.slot A 38 = undef := hL 19 (by decide)
              have h_39 : PB.slot A 39 = undef := hL 20 (by decide)
              have h_40 : PB.slot A 40 = undef := hL 21 (by decide)
              have h_41 : PB.slot A 41 = undef := hL 22 (by decide)
              have h_42 : PB.slot A 42 = .bool false := hL 23 (by decide)
              have q_0 : PB.slot A 0 = .slice (some ⟨b, off, none⟩) n cap := hS.slots 0 rfl
              have q_4 : PB.slot A 4 = .int .i64 (j : Int) := hS.slots 4 rfl
              have q_6 : PB.slot A 6 = .int .i64 (m : Int) := hS.slots 6 rfl
              have q_5 : PB.slot A 5 = .bool false := hS.slots 5 rfl
              have q_1 := hS.slots 1 rfl
              have q_2 := hS.slots 2 rfl
              have q_3 := hS.slots 3 rfl
              have q_7 := hS.slots 7 rfl
              have q_8 := hS.slots 8 rfl
              have q_9 := hS.slots 9 rfl
              have q_10 := hS.slots 10 rfl
              have q_11 := hS.slots 11 rfl
              have q_12 := hS.slots 12 rfl
              have q_13 := hS.slots 13 rfl
              have q_14 := hS.slots 14 rfl
              have q_15 := hS.slots 15 rfl
              have q_16 := hS.slots 16 rfl
              have q_17 := hS.slots 17 rfl
              have q_18 := hS.slots 18 rfl
              have q_43 := hS.slots 43 rfl
              have q_44 := hS.slots 44 rfl
              have q_45 := hS.slots 45 rfl
              have q_46 := hS.slots 46 rfl
              have q_47 := hS.slots 47 rfl
              have q_48 := hS.slots 48 rfl
              have q_49 := hS.slots 49 rfl
              have q_50 := hS.slots 50 rfl
              simp only [PB.slot, Array.getD_eq_getD_getElem?, List.getElem?_toArray, List.getElem?_cons_succ, List.getElem?_cons_zero, Option.getD_some] at q_1 q_2 q_3 q_7 q_8 q_9 q_10 q_11 q_12 q_13 q_14 q_15 q_16 q_17 q_18 q_43 q_44 q_45 q_46 q_47 q_48 q_49 q_50
              have q_1 := (PT.slot_get A 1).trans q_1
              have q_2 := (PT.slot_get A 2).trans q_2
              have q_3 := (PT.slot_get A 3).trans q_3
              have q_7 := (PT.slot_get A 7).trans q_7
              have q_8 := (PT.slot_get A 8).trans q_8
              have q_9 := (PT.slot_get A 9).trans q_9
              have q_10 := (PT.slot_get A 10).trans q_10
              have q_11 := (PT.slot_get A 11).trans q_11
              have q_12 := (PT.slot_get A 12).trans q_12
              have q_13 := (PT.slot_get A 13).trans q_13
              have q_14 := (PT.slot_get A 14).trans q_14
              have q_15 := (PT.slot_get A 15).trans q_15
              have q_16 := (PT.slot_get A 16).trans q_16
              have q_17 := (PT.slot_get A 17).trans q_17
              have q_18 := (PT.slot_get A 18).trans q_18
              have q_43 := (PT.slot_get A 43).trans q_43
              have q_44 := (PT.slot_get A 44).trans q_44
              have q_45 := (PT.slot_get A 45).trans q_45
              have q_46 := (PT.slot_get A 46).trans q_46
              have q_47 := (PT.slot_get A 47).trans q_47
              have q_48 := (PT.slot_get A 48).trans q_48
              have q_49 := (PT.slot_get A 49).trans q_49
              have q_50 := (PT.slot_get A 50).trans q_50
              have hA := PT.frame_of (A := A) (n := 51) hS.size
              have hd : A.defers = [] := hS.defers
              rw [hd] at hA
              obtain ⟨fr, hf⟩ : ∃ f, PB.slot A = f := ⟨_, rfl⟩
              rw [hf] at hA h_19 h_20 h_21 h_22 h_23 h_24 h_25 h_26 h_27 h_28 h_29 h_30 h_31 h_32 h_33 h_34 h_35 h_36 h_37 h_38 h_39 h_40 h_41 h_42 q_0 q_4 q_6 q_5 q_1 q_2 q_3 q_7 q_8 q_9 q_10 q_11 q_12 q_13 q_14 q_15 q_16 q_17 q_18 q_43 q_44 q_45 q_46 q_47 q_48 q_49 q_50
              rw [hA]
              clear hA hf hd hL hS
              simp only [List.range, List.range.loop, List.map_cons, List.map_nil, List.drop_succ_cons, List.drop_zero, h_19, h_20, h_21, h_22, h_23, h_24, h_25, h_26, h_27, h_28, h_29, h_30, h_31, h_32, h_33, h_34, h_35, h_36, h_37, h_38, h_39, h_40, h_41, h_42, q_0, q_4, q_6, q_5, q_1, q_2, q_3, q_7, q_8, q_9, q_10, q_11, q_12, q_13, q_14, q_15, q_16, q_17, q_18, q_43, q_44, q_45, q_46, q_47, q_48, q_49, q_50]
              clear h_19 h_20 h_21 h_22 h_23 h_24 h_25 h_26 h_27 h_28 h_29 h_30 h_31 h_32 h_33 h_34 h_35 h_36 h_37 h_38 h_39 h_40 h_41 h_42 q_0 q_4 q_6 q_5 q_1 q_2 q_3 q_7 q_8 q_9 q_10 q_11 q_12 q_13 q_14 q_15 q_16 q_17 q_18 q_43 q_44 q_45 q_46 q_47 q_48 q_49 q_50
              have HB2 : Hid (Below wO.heap.size wO W) := hbl.out.trans (hB.mono hbl.out.size)
              clear hB
              go_wp2
              go_roundg kk
              case measure => omega
              case rel => exact ⟨m + 1, false, by omega, by simp, rfl, HRES, HB2⟩
          | true =>
            by_cases heq : (y1, y2) = (x1, x2)
            · have HEQ := hid' heq
              clear heq
              have HRES : Hid (None l (m + 1) (x1, x2)) := HNS.out.2 ⟨hlb.out.1 rfl, .inl HEQ.out⟩
              refine PT.wp_region_tail 24 (PB.phi [PB.E (.bool true), PB.E (.bool true), PB.E (.slice (some ⟨b, off, none⟩) n cap), PB.E (.int .i64 (m : Int)), PB.E (.pointer (some ⟨b, off + m * 2, none⟩)), PB.E (.agg #[.int .i64 y1, .int .i64 y2]), PB.E (.slice (some ⟨b, off, none⟩) n cap), PB.E (.int .i64 (j : Int)), PB.E (.pointer (some ⟨b, off + j * 2, none⟩)), PB.E (.agg #[.int .i64 x1, .int .i64 x2]), PB.E (.bool true), PB.E (.bool true), PB.E undef, PB.E undef, PB.E undef, PB.E undef, PB.E undef, PB.E undef, PB.E undef, PB.E undef, PB.E undef, PB.E undef, PB.E (.bool true), PB.E (.bool true)]) mixed (by kernel_rfl)
                (PB.phi_lasts _ ⟨PB.E_lasts _, PB.E_lasts _, PB.E_lasts _, PB.E_lasts _, PB.E_lasts _, PB.E_lasts _, PB.E_lasts _, PB.E_lasts _, PB.E_lasts _, PB.E_lasts _, PB.E_lasts _, PB.E_lasts _, PB.E_lasts _, PB.E_lasts _, PB.E_lasts _, PB.E_lasts _, PB.E_lasts _, PB.E_lasts _, PB.E_lasts _, PB.E_lasts _, PB.E_lasts _, PB.E_lasts _, PB.E_lasts _, PB.E_lasts _, trivial⟩) ?_ ?_
              · refine ⟨?_, ?_, ?_, ?_, ?_, ?_, ?_, ?_, ?_, ?_, ?_, ?_, ?_, ?_, ?_, ?_, ?_, ?_, ?_, ?_, ?_, ?_, ?_, ?_, trivial⟩ <;> intro A W hB hS hA hF
                · exact Or.inl (PB.does_move (PB.wanted_free rfl) rfl (hS.slots 5 rfl))
                · exact Or.inl (PB.does_move (PB.wanted_free rfl) rfl (hA 0 rfl))
                · exact Or.inl (PB.does_move (PB.wanted_by rfl rfl (hA 1 rfl)) rfl (hS.slots 0 rfl))
                · exact Or.inl (PB.does_move (PB.wanted_by rfl rfl (hA 1 rfl)) rfl (hS.slots 6 rfl))
                · exact Or.inl (PB.does_run (PB.wanted_by rfl rfl (hA 1 rfl)) (run_index W (hA 2 rfl) (hA 3 rfl) hmn (by omega)) rfl)
                · exact Or.inl (PB.does_run (PB.wanted_by rfl rfl (hA 1 rfl)) (run_load W (hA 4 rfl) (((HBW.out.trans (hB.mono HBW.out.size)).cell (p := ⟨b, off + m * 2, none⟩) hBb).trans HY.out.1) (((HBW.out.trans (hB.mono HBW.out.size)).cell (p := ⟨b, off + m * 2 + 1, none⟩) hBb).trans HY.out.2)) rfl)
                · exact Or.inl (PB.does_move (PB.wanted_by rfl rfl (hA 1 rfl)) rfl (hS.slots 0 rfl))
                · exact Or.inl (PB.does_move (PB.wanted_by rfl rfl (hA 1 rfl)) rfl (hS.slots 4 rfl))
                · exact Or.inl (PB.does_run (PB.wanted_by rfl rfl (hA 1 rfl)) (run_index W (hA 6 rfl) (hA 7 rfl) hjn (by omega)) rfl)
                · exact Or.inl (PB.does_run (PB.wanted_by rfl rfl (hA 1 rfl)) (run_load W (hA 8 rfl) (((HBW.out.trans (hB.mono HBW.out.size)).cell (p := ⟨b, off + j * 2, none⟩) hBb).trans HX.out.1) (((HBW.out.trans (hB.mono HBW.out.size)).cell (p := ⟨b, off + j * 2 + 1, none⟩) hBb).trans HX.out.2)) rfl)
                · exact Or.inl (PB.does_bin (PB.wanted_by rfl rfl (hA 1 rfl)) rfl (hA 5 rfl) (hA 9 rfl) ((run_eqT W (y1, y2) (x1, x2) _ _).trans (by rw [decide_eq_true HEQ.out])) rfl)
                · exact Or.inl (PB.does_move (PB.wanted_by rfl rfl (hA 1 rfl)) rfl (hA 10 rfl))
                · exact Or.inr ⟨PT.pass_by rfl rfl (hA 11 rfl) (by decide), rfl⟩
                · exact Or.inr ⟨PT.pass_by rfl rfl (hA 11 rfl) (by decide), rfl⟩
                · exact Or.inr ⟨PT.pass_by rfl rfl (hA 11 rfl) (by decide), rfl⟩
                · exact Or.inr ⟨PT.pass_by rfl rfl (hA 11 rfl) (by decide), rfl⟩
                · exact Or.inr ⟨PT.pass_by rfl rfl (hA 11 rfl) (by decide), rfl⟩
                · exact Or.inr ⟨PT.pass_by rfl rfl (hA 11 rfl) (by decide), rfl⟩
                · exact Or.inr ⟨PT.pass_by rfl rfl (hA 11 rfl) (by decide), rfl⟩
                · exact Or.inr ⟨PT.pass_by rfl rfl (hA 11 rfl) (by decide), rfl⟩
                · exact Or.inr ⟨PT.pass_by rfl rfl (hA 11 rfl) (by decide), rfl⟩
                · exact Or.inr ⟨PT.pass_by rfl rfl (hA 11 rfl) (by decide), rfl⟩
                · exact Or.inl (PB.does_run (PB.wanted_by rfl rfl (hA 1 rfl)) (run_pick_const W (hA 11 rfl)) rfl)
                · exact Or.inl (PB.does_run (PB.wanted_free rfl) (run_pick_then W (hA 1 rfl) (hA 22 rfl)) rfl)
              · intro A W hB hS hL
                have h_19 : PB.slot A 19 = .bool true := hL 0 (by decide)
                have h_20 : PB.slot A 20 = .bool true := hL 1 (by decide)
                have h_21 : PB.slot A 21 = .slice (some ⟨b, off, none⟩) n cap := hL 2 (by decide)
                have h_22 : PB.slot A 22 = .int .i64 (m : Int) := hL 3 (by decide)
                have h_23 : PB.slot A 23 = .pointer (some ⟨b, off + m * 2, none⟩) := hL 4 (by decide)
                have h_24 : PB.slot A 24 = .agg #[.int .i64 y1, .int .i64 y2] := hL 5 (by decide)
                have h_25 : PB.slot A 25 = .slice (some ⟨b, off, none⟩) n cap := hL 6 (by decide)
                have h_26 : PB.slot A 26 = .int .i64 (j : Int) := hL 7 (by decide)
                have h_27 : PB.slot A 27 = .pointer (some ⟨b, off + j * 2, none⟩) := hL 8 (by decide)
                have h_28 : PB.slot A 28 = .agg #[.int .i64 x1, .int .i64 x2] := hL 9 (by decide)
                have h_29 : PB.slot A 29 = .bool true := hL 10 (by decide)
                have h_30 : PB.slot A 30 = .bool true := hL 11 (by decide)
                have h_31 : PB.slot A 31 = undef := hL 12 (by decide)
                have h_32 : PB.slot A 32 = undef := hL 13 (by decide)
                have h_33 : PB.slot A 33 = undef := hL 14 (by decide)
                have h_34 : PB.slot A 34 = undef := hL 15 (by decide)
                have h_35 : PB.slot A 35 = undef := hL 16 (by decide)
                have h_36 : PB.slot A 36 = undef := hL 17 (by decide)
                have h_37 : PB.slot A 37 = undef := hL 18 (by decide)
                have h_38 : PB.slot A 38 = undef := hL 19 (by decide)
                have h_39 : PB.slot A 39 = undef := hL 20 (by decide)
                have h_40 : PB.slot A 40 = undef := hL 21 (by decide)
                have h_41 : PB.slot A 41 = .bool true := hL 22 (by decide)
                have h_42 : PB.slot A 42 = .bool true := hL 23 (by decide)
                have q_0 : PB.slot A 0 = .slice (some ⟨b, off, none⟩) n cap := hS.slots 0 rfl
                have q_4 : PB.slot A 4 = .int .i64 (j : Int) := hS.slots 4 rfl
                have q_6 : PB.slot A 6 = .int .i64 (m : Int) := hS.slots 6 rfl
                have q_5 : PB.slot A 5 = .bool true := hS.slots 5 rfl
                have q_1 := hS.slots 1 rfl
                have q_2 := hS.slots 2 rfl
                have q_3 := hS.slots 3 rfl
                have q_7 := hS.slots 7 rfl
                have q_8 := hS.slots 8 rfl
                have q_9 := hS.slots 9 rfl
                have q_10 := hS.slots 10 rfl
                have q_11 := hS.slots 11 rfl
                have q_12 := hS.slots 12 rfl
                have q_13 := hS.slots 13 rfl
                have q_14 := hS.slots 14 rfl
                have q_15 := hS.slots 15 rfl
                have q_16 := hS.slots 16 rfl
                have q_17 := hS.slots 17 rfl
                have q_18 := hS.slots 18 rfl
                have q_43 := hS.slots 43 rfl
                have q_44 := hS.slots 44 rfl
                have q_45 := hS.slots 45 rfl
                have q_46 := hS.slots 46 rfl
                have q_47 := hS.slots 47 rfl
                have q_48 := hS.slots 48 rfl
                have q_49 := hS.slots 49 rfl
                have q_50 := hS.slots 50 rfl
                simp only [PB.slot, Array.getD_eq_getD_getElem?, List.getElem?_toArray, List.getElem?_cons_succ, List.getElem?_cons_zero, Option.getD_some] at q_1 q_2 q_3 q_7 q_8 q_9 q_10 q_11 q_12 q_13 q_14 q_15 q_16 q_17 q_18 q_43 q_44 q_45 q_46 q_47 q_48 q_49 q_50
                have q_1 := (PT.slot_get A 1).trans q_1
                have q_2 := (PT.slot_get A 2).trans q_2
                have q_3 := (PT.slot_get A 3).trans q_3
                have q_7 := (PT.slot_get A 7).trans q_7
                have q_8 := (PT.slot_get A 8).trans q_8
                have q_9 := (PT.slot_get A 9).trans q_9
                have q_10 := (PT.slot_get A 10).trans q_10
                have q_11 := (PT.slot_get A 11).trans q_11
                have q_12 := (PT.slot_get A 12).trans q_12
                have q_13 := (PT.slot_get A 13).trans q_13
                have q_14 := (PT.slot_get A 14).trans q_14
                have q_15 := (PT.slot_get A 15).trans q_15
                have q_16 := (PT.slot_get A 16).trans q_16
                have q_17 := (PT.slot_get A 17).trans q_17
                have q_18 := (PT.slot_get A 18).trans q_18
                have q_43 := (PT.slot_get A 43).trans q_43
                have q_44 := (PT.slot_get A 44).trans q_44
                have q_45 := (PT.slot_get A 45).trans q_45
                have q_46 := (PT.slot_get A 46).trans q_46
                have q_47 := (PT.slot_get A 47).trans q_47
                have q_48 := (PT.slot_get A 48).trans q_48
                have q_49 := (PT.slot_get A 49).trans q_49
                have q_50 := (PT.slot_get A 50).trans q_50
                have hA := PT.frame_of (A := A) (n := 51) hS.size
                have hd : A.defers = [] := hS.defers
                rw [hd] at hA
                obtain ⟨fr, hf⟩ : ∃ f, PB.slot A = f := ⟨_, rfl⟩
                rw [hf] at hA h_19 h_20 h_21 h_22 h_23 h_24 h_25 h_26 h_27 h_28 h_29 h_30 h_31 h_32 h_33 h_34 h_35 h_36 h_37 h_38 h_39 h_40 h_41 h_42 q_0 q_4 q_6 q_5 q_1 q_2 q_3 q_7 q_8 q_9 q_10 q_11 q_12 q_13 q_14 q_15 q_16 q_17 q_18 q_43 q_44 q_45 q_46 q_47 q_48 q_49 q_50
                rw [hA]
                clear hA hf hd hL hS
                simp only [List.range, List.range.loop, List.map_cons, List.map_nil, List.drop_succ_cons, List.drop_zero, h_19, h_20, h_21, h_22, h_23, h_24, h_25, h_26, h_27, h_28, h_29, h_30, h_31, h_32, h_33, h_34, h_35, h_36, h_37, h_38, h_39, h_40, h_41, h_42, q_0, q_4, q_6, q_5, q_1, q_2, q_3, q_7, q_8, q_9, q_10, q_11, q_12, q_13, q_14, q_15, q_16, q_17, q_18, q_43, q_44, q_45, q_46, q_47, q_48, q_49, q_50]
                clear h_19 h_20 h_21 h_22 h_23 h_24 h_25 h_26 h_27 h_28 h_29 h_30 h_31 h_32 h_33 h_34 h_35 h_36 h_37 h_38 h_39 h_40 h_41 h_42 q_0 q_4 q_6 q_5 q_1 q_2 q_3 q_7 q_8 q_9 q_10 q_11 q_12 q_13 q_14 q_15 q_16 q_17 q_18 q_43 q_44 q_45 q_46 q_47 q_48 q_49 q_50
                have HB2 : Hid (Below wO.heap.size wO W) := hbl.out.trans (hB.mono hbl.out.size)
                clear hB
                go_wp2
                go_roundg kk
                case measure => omega
                case rel => exact ⟨m + 1, true, by omega, by simp, rfl, ⟨fun _ => HRES.out, fun _ => rfl⟩, HB2⟩
            · have HEQ := hid' heq
              clear heq
              obtain ⟨le, hle⟩ : ∃ q, le2 (y1, y2) (x1, x2) = q := ⟨_, rfl⟩
              have HLE := hid' hle
              clear hle
              cases le with
              | false =>
                have HRES : Hid (None l (m + 1) (x1, x2)) := HNS.out.2 ⟨hlb.out.1 rfl, .inr HLE.out⟩
                refine PT.wp_region_tail 24 (PB.phi [PB.E (.bool true), PB.E (.bool true), PB.E (.slice (some ⟨b, off, none⟩) n cap), PB.E (.int .i64 (m : Int)), PB.E (.pointer (some ⟨b, off + m * 2, none⟩)), PB.E (.agg #[.int .i64 y1, .int .i64 y2]), PB.E (.slice (some ⟨b, off, none⟩) n cap), PB.E (.int .i64 (j : Int)), PB.E (.pointer (some ⟨b, off + j * 2, none⟩)), PB.E (.agg #[.int .i64 x1, .int .i64 x2]), PB.E (.bool false), PB.E (.bool false), PB.E (.slice (some ⟨b, off, none⟩) n cap), PB.E (.int .i64 (m : Int)), PB.E (.pointer (some ⟨b, off + m * 2, none⟩)), PB.E (.agg #[.int .i64 y1, .int .i64 y2]), PB.E (.slice (some ⟨b, off, none⟩) n cap), PB.E (.int .i64 (j : Int)), PB.E (.pointer (some ⟨b, off + j * 2, none⟩)), PB.E (.agg #[.int .i64 x1, .int .i64 x2]), PB.E (.bool false), PB.E (.bool true), PB.E (.bool true), PB.E (.bool true)]) mixed (by kernel_rfl)
                  (PB.phi_lasts _ ⟨PB.E_lasts _, PB.E_lasts _, PB.E_lasts _, PB.E_lasts _, PB.E_lasts _, PB.E_lasts _, PB.E_lasts _, PB.E_lasts _, PB.E_lasts _, PB.E_lasts _, PB.E_lasts _, PB.E_lasts _, PB.E_lasts _, PB.E_lasts _, PB.E_lasts _, PB.E_lasts _, PB.E_lasts _, PB.E_lasts _, PB.E_lasts _, PB.E_lasts _, PB.E_lasts _, PB.E_lasts _, PB.E_lasts _, PB.E_lasts _, trivial⟩) ?_ ?_
                · refine ⟨?_, ?_, ?_, ?_, ?_, ?_, ?_, ?_, ?_, ?_, ?_, ?_, ?_, ?_, ?_, ?_, ?_, ?_, ?_, ?_, ?_, ?_, ?_, ?_, trivial⟩ <;> intro A W hB hS hA hF
                  · exact Or.inl (PB.does_move (PB.wanted_free rfl) rfl (hS.slots 5 rfl))
                  · exact Or.inl (PB.does_move (PB.wanted_free rfl) rfl (hA 0 rfl))
                  · exact Or.inl (PB.does_move (PB.wanted_by rfl rfl (hA 1 rfl)) rfl (hS.slots 0 rfl))
                  · exact Or.inl (PB.does_move (PB.wanted_by rfl rfl (hA 1 rfl)) rfl (hS.slots 6 rfl))
                  · exact Or.inl (PB.does_run (PB.wanted_by rfl rfl (hA 1 rfl)) (run_index W (hA 2 rfl) (hA 3 rfl) hmn (by omega)) rfl)
                  · exact Or.inl (PB.does_run (PB.wanted_by rfl rfl (hA 1 rfl)) (run_load W (hA 4 rfl) (((HBW.out.trans (hB.mono HBW.out.size)).cell (p := ⟨b, off + m * 2, none⟩) hBb).trans HY.out.1) (((HBW.out.trans (hB.mono HBW.out.size)).cell (p := ⟨b, off + m * 2 + 1, none⟩) hBb).trans HY.out.2)) rfl)
                  · exact Or.inl (PB.does_move (PB.wanted_by rfl rfl (hA 1 rfl)) rfl (hS.slots 0 rfl))
                  · exact Or.inl (PB.does_move (PB.wanted_by rfl rfl (hA 1 rfl)) rfl (hS.slots 4 rfl))
                  · exact Or.inl (PB.does_run (PB.wanted_by rfl rfl (hA 1 rfl)) (run_index W (hA 6 rfl) (hA 7 rfl) hjn (by omega)) rfl)
                  · exact Or.inl (PB.does_run (PB.wanted_by rfl rfl (hA 1 rfl)) (run_load W (hA 8 rfl) (((HBW.out.trans (hB.mono HBW.out.size)).cell (p := ⟨b, off + j * 2, none⟩) hBb).trans HX.out.1) (((HBW.out.trans (hB.mono HBW.out.size)).cell (p := ⟨b, off + j * 2 + 1, none⟩) hBb).trans HX.out.2)) rfl)
                  · exact Or.inl (PB.does_bin (PB.wanted_by rfl rfl (hA 1 rfl)) rfl (hA 5 rfl) (hA 9 rfl) ((run_eqT W (y1, y2) (x1, x2) _ _).trans (by rw [decide_eq_false HEQ.out])) rfl)
                  · exact Or.inl (PB.does_move (PB.wanted_by rfl rfl (hA 1 rfl)) rfl (hA 10 rfl))
                  · exact Or.inl (PB.does_move (PB.wanted_by rfl rfl (hA 11 rfl)) rfl (hS.slots 0 rfl))
                  · exact Or.inl (PB.does_move (PB.wanted_by rfl rfl (hA 11 rfl)) rfl (hS.slots 6 rfl))
                  · exact Or.inl (PB.does_run (PB.wanted_by rfl rfl (hA 11 rfl)) (run_index W (hA 12 rfl) (hA 13 rfl) hmn (by omega)) rfl)
                  · exact Or.inl (PB.does_run (PB.wanted_by rfl rfl (hA 11 rfl)) (run_load W (hA 14 rfl) (((HBW.out.trans (hB.mono HBW.out.size)).cell (p := ⟨b, off + m * 2, none⟩) hBb).trans HY.out.1) (((HBW.out.trans (hB.mono HBW.out.size)).cell (p := ⟨b, off + m * 2 + 1, none⟩) hBb).trans HY.out.2)) rfl)
                  · exact Or.inl (PB.does_move (PB.wanted_by rfl rfl (hA 11 rfl)) rfl (hS.slots 0 rfl))
                  · exact Or.inl (PB.does_move (PB.wanted_by rfl rfl (hA 11 rfl)) rfl (hS.slots 4 rfl))
                  · exact Or.inl (PB.does_run (PB.wanted_by rfl rfl (hA 11 rfl)) (run_index W (hA 16 rfl) (hA 17 rfl) hjn (by omega)) rfl)
                  · exact Or.inl (PB.does_run (PB.wanted_by rfl rfl (hA 11 rfl)) (run_load W (hA 18 rfl) (((HBW.out.trans (hB.mono HBW.out.size)).cell (p := ⟨b, off + j * 2, none⟩) hBb).trans HX.out.1) (((HBW.out.trans (hB.mono HBW.out.size)).cell (p := ⟨b, off + j * 2 + 1, none⟩) hBb).trans HX.out.2)) rfl)
                  · exact Or.inl (PB.does_call #[.agg #[.int .i64 y1, .int .i64 y2], .agg #[.int .i64 x1, .int .i64 x2]] (PB.wanted_by rfl rfl (hA 11 rfl)) rfl Try.func33 rfl rfl (by show [PB.slot A 34, PB.slot A 38] = _; rw [show PB.slot A 34 = .agg #[.int .i64 y1, .int .i64 y2] from (hA 15 rfl), show PB.slot A 38 = .agg #[.int .i64 x1, .int .i64 x2] from (hA 19 rfl)]) (by have := rle_newB (y1, y2) (x1, x2) W; rw [HLE.out] at this; exact this))
                  · exact Or.inl (PB.does_run (PB.wanted_by rfl rfl (hA 11 rfl)) (run_not W (hA 20 rfl)) rfl)
                  · exact Or.inl (PB.does_run (PB.wanted_by rfl rfl (hA 1 rfl)) (run_pick_else W (hA 11 rfl) (hA 21 rfl)) rfl)
                  · exact Or.inl (PB.does_run (PB.wanted_free rfl) (run_pick_then W (hA 1 rfl) (hA 22 rfl)) rfl)
                · intro A W hB hS hL
                  have h_19 : PB.slot A 19 = .bool true := hL 0 (by decide)
                  have h_20 : PB.slot A 20 = .bool true := hL 1 (by decide)
                  have h_21 : PB.slot A 21 = .slice (some ⟨b, off, none⟩) n cap := hL 2 (by decide)
                  have h_22 : PB.slot A 22 = .int .i64 (m : Int) := hL 3 (by decide)
                  have h_23 : PB.slot A 23 = .pointer (some ⟨b, off + m * 2, none⟩) := hL 4 (by decide)
                  have h_24 : PB.slot A 24 = .agg #[.int .i64 y1, .int .i64 y2] := hL 5 (by decide)
                  have h_25 : PB.slot A 25 = .slice (some ⟨b, off, none⟩) n cap := hL 6 (by decide)
                  have h_26 : PB.slot A 26 = .int .i64 (j : Int) := hL 7 (by decide)
                  have h_27 : PB.slot A 27 = .pointer (some ⟨b, off + j * 2, none⟩) := hL 8 (by decide)
                  have h_28 : PB.slot A 28 = .agg #[.int .i64 x1, .int .i64 x2] := hL 9 (by decide)
                  have h_29 : PB.slot A 29 = .bool false := hL 10 (by decide)
                  have h_30 : PB.slot A 30 = .bool false := hL 11 (by decide)
                  have h_31 : PB.slot A 31 = .slice (some ⟨b, off, none⟩) n cap := hL 12 (by decide)
                  have h_32 : PB.slot A 32 = .int .i64 (m : Int) := hL 13 (by decide)
                  have h_33 : PB.slot A 33 = .pointer (some ⟨b, off + m * 2, none⟩) := hL 14 (by decide)
                  have h_34 : PB.slot A 34 = .agg #[.int .i64 y1, .int .i64 y2] := hL 15 (by decide)
                  have h_35 : PB.slot A 35 = .slice (some ⟨b, off, none⟩) n cap := hL 16 (by decide)
                  have h_36 : PB.slot A 36 = .int .i64 (j : Int) := hL 17 (by decide)
                  have h_37 : PB.slot A 37 = .pointer (some ⟨b, off + j * 2, none⟩) := hL 18 (by decide)
                  have h_38 : PB.slot A 38 = .agg #[.int .i64 x1, .int .i64 x2] := hL 19 (by decide)
                  have h_39 : PB.slot A 39 = .bool false := hL 20 (by decide)
                  have h_40 : PB.slot A 40 = .bool true := hL 21 (by decide)
                  have h_41 : PB.slot A 41 = .bool true := hL 22 (by decide)
                  have h_42 : PB.slot A 42 = .bool true := hL 23 (by decide)
                  have q_0 : PB.slot A 0 = .slice (some ⟨b, off, none⟩) n cap := hS.slots 0 rfl
                  have q_4 : PB.slot A 4 = .int .i64 (j : Int) := hS.slots 4 rfl
                  have q_6 : PB.slot A 6 = .int .i64 (m : Int) := hS.slots 6 rfl
                  have q_5 : PB.slot A 5 = .bool true := hS.slots 5 rfl
                  have q_1 := hS.slots 1 rfl
                  have q_2 := hS.slots 2 rfl
                  have q_3 := hS.slots 3 rfl
                  have q_7 := hS.slots 7 rfl
                  have q_8 := hS.slots 8 rfl
                  have q_9 := hS.slots 9 rfl
                  have q_10 := hS.slots 10 rfl
                  have q_11 := hS.slots 11 rfl
                  have q_12 := hS.slots 12 rfl
                  have q_13 := hS.slots 13 rfl
                  have q_14 := hS.slots 14 rfl
                  have q_15 := hS.slots 15 rfl
                  have q_16 := hS.slots 16 rfl
                  have q_17 := hS.slots 17 rfl
                  have q_18 := hS.slots 18 rfl
                  have q_43 := hS.slots 43 rfl
                  have q_44 := hS.slots 44 rfl
                  have q_45 := hS.slots 45 rfl
                  have q_46 := hS.slots 46 rfl
                  have q_47 := hS.slots 47 rfl
                  have q_48 := hS.slots 48 rfl
                  have q_49 := hS.slots 49 rfl
                  have q_50 := hS.slots 50 rfl
                  simp only [PB.slot, Array.getD_eq_getD_getElem?, List.getElem?_toArray, List.getElem?_cons_succ, List.getElem?_cons_zero, Option.getD_some] at q_1 q_2 q_3 q_7 q_8 q_9 q_10 q_11 q_12 q_13 q_14 q_15 q_16 q_17 q_18 q_43 q_44 q_45 q_46 q_47 q_48 q_49 q_50
                  have q_1 := (PT.slot_get A 1).trans q_1
                  have q_2 := (PT.slot_get A 2).trans q_2
                  have q_3 := (PT.slot_get A 3).trans q_3
                  have q_7 := (PT.slot_get A 7).trans q_7
                  have q_8 := (PT.slot_get A 8).trans q_8
                  have q_9 := (PT.slot_get A 9).trans q_9
                  have q_10 := (PT.slot_get A 10).trans q_10
                  have q_11 := (PT.slot_get A 11).trans q_11
                  have q_12 := (PT.slot_get A 12).trans q_12
                  have q_13 := (PT.slot_get A 13).trans q_13
                  have q_14 := (PT.slot_get A 14).trans q_14
                  have q_15 := (PT.slot_get A 15).trans q_15
                  have q_16 := (PT.slot_get A 16).trans q_16
                  have q_17 := (PT.slot_get A 17).trans q_17
                  have q_18 := (PT.slot_get A 18).trans q_18
                  have q_43 := (PT.slot_get A 43).trans q_43
                  have q_44 := (PT.slot_get A 44).trans q_44
                  have q_45 := (PT.slot_get A 45).trans q_45
                  have q_46 := (PT.slot_get A 46).trans q_46
                  have q_47 := (PT.slot_get A 47).trans q_47
                  have q_48 := (PT.slot_get A 48).trans q_48
                  have q_49 := (PT.slot_get A 49).trans q_49
                  have q_50 := (PT.slot_get A 50).trans q_50
                  have hA := PT.frame_of (A := A) (n := 51) hS.size
                  have hd : A.defers = [] := hS.defers
                  rw [hd] at hA
                  obtain ⟨fr, hf⟩ : ∃ f, PB.slot A = f := ⟨_, rfl⟩
                  rw [hf] at hA h_19 h_20 h_21 h_22 h_23 h_24 h_25 h_26 h_27 h_28 h_29 h_30 h_31 h_32 h_33 h_34 h_35 h_36 h_37 h_38 h_39 h_40 h_41 h_42 q_0 q_4 q_6 q_5 q_1 q_2 q_3 q_7 q_8 q_9 q_10 q_11 q_12 q_13 q_14 q_15 q_16 q_17 q_18 q_43 q_44 q_45 q_46 q_47 q_48 q_49 q_50
                  rw [hA]
                  clear hA hf hd hL hS
                  simp only [List.range, List.range.loop, List.map_cons, List.map_nil, List.drop_succ_cons, List.drop_zero, h_19, h_20, h_21, h_22, h_23, h_24, h_25, h_26, h_27, h_28, h_29, h_30, h_31, h_32, h_33, h_34, h_35, h_36, h_37, h_38, h_39, h_40, h_41, h_42, q_0, q_4, q_6, q_5, q_1, q_2, q_3, q_7, q_8, q_9, q_10, q_11, q_12, q_13, q_14, q_15, q_16, q_17, q_18, q_43, q_44, q_45, q_46, q_47, q_48, q_49, q_50]
                  clear h_19 h_20 h_21 h_22 h_23 h_24 h_25 h_26 h_27 h_28 h_29 h_30 h_31 h_32 h_33 h_34 h_35 h_36 h_37 h_38 h_39 h_40 h_41 h_42 q_0 q_4 q_6 q_5 q_1 q_2 q_3 q_7 q_8 q_9 q_10 q_11 q_12 q_13 q_14 q_15 q_16 q_17 q_18 q_43 q_44 q_45 q_46 q_47 q_48 q_49 q_50
                  have HB2 : Hid (Below wO.heap.size wO W) := hbl.out.trans (hB.mono hbl.out.size)
                  clear hB
                  go_wp2
                  go_roundg kk
                  case measure => omega
                  case rel => exact ⟨m + 1, true, by omega, by simp, rfl, ⟨fun _ => HRES.out, fun _ => rfl⟩, HB2⟩
              | true =>
                have HRES : Hid (false = true ↔ None l (m + 1) (x1, x2)) := ⟨fun h => (by cases h), fun h => by
                  rcases (HNS.out.1 h).2 with e | e
                  · exact absurd e HEQ.out
                  · rw [HLE.out] at e; cases e⟩
                refine PT.wp_region_tail 24 (PB.phi [PB.E (.bool true), PB.E (.bool true), PB.E (.slice (some ⟨b, off, none⟩) n cap), PB.E (.int .i64 (m : Int)), PB.E (.pointer (some ⟨b, off + m * 2, none⟩)), PB.E (.agg #[.int .i64 y1, .int .i64 y2]), PB.E (.slice (some ⟨b, off, none⟩) n cap), PB.E (.int .i64 (j : Int)), PB.E (.pointer (some ⟨b, off + j * 2, none⟩)), PB.E (.agg #[.int .i64 x1, .int .i64 x2]), PB.E (.bool false), PB.E (.bool false), PB.E (.slice (some ⟨b, off, none⟩) n cap), PB.E (.int .i64 (m : Int)), PB.E (.pointer (some ⟨b, off + m * 2, none⟩)), PB.E (.agg #[.int .i64 y1, .int .i64 y2]), PB.E (.slice (some ⟨b, off, none⟩) n cap), PB.E (.int .i64 (j : Int)), PB.E (.pointer (some ⟨b, off + j * 2, none⟩)), PB.E (.agg #[.int .i64 x1, .int .i64 x2]), PB.E (.bool true), PB.E (.bool false), PB.E (.bool false), PB.E (.bool false)]) mixed (by kernel_rfl)
                  (PB.phi_lasts _ ⟨PB.E_lasts _, PB.E_lasts _, PB.E_lasts _, PB.E_lasts _, PB.E_lasts _, PB.E_lasts _, PB.E_lasts _, PB.E_lasts _, PB.E_lasts _, PB.E_lasts _, PB.E_lasts _, PB.E_lasts _, PB.E_lasts _, PB.E_lasts _, PB.E_lasts _, PB.E_lasts _, PB.E_lasts _, PB.E_lasts _, PB.E_lasts _, PB.E_lasts _, PB.E_lasts _, PB.E_lasts _, PB.E_lasts _, PB.E_lasts _, trivial⟩) ?_ ?_
                · refine ⟨?_, ?_, ?_, ?_, ?_, ?_, ?_, ?_, ?_, ?_, ?_, ?_, ?_, ?_, ?_, ?_, ?_, ?_, ?_, ?_, ?_, ?_, ?_, ?_, trivial⟩ <;> intro A W hB hS hA hF
                  · exact Or.inl (PB.does_move (PB.wanted_free rfl) rfl (hS.slots 5 rfl))
                  · exact Or.inl (PB.does_move (PB.wanted_free rfl) rfl (hA 0 rfl))
                  · exact Or.inl (PB.does_move (PB.wanted_by rfl rfl (hA 1 rfl)) rfl (hS.slots 0 rfl))
                  · exact Or.inl (PB.does_move (PB.wanted_by rfl rfl (hA 1 rfl)) rfl (hS.slots 6 rfl))
                  · exact Or.inl (PB.does_run (PB.wanted_by rfl rfl (hA 1 rfl)) (run_index W (hA 2 rfl) (hA 3 rfl) hmn (by omega)) rfl)
                  · exact Or.inl (PB.does_run (PB.wanted_by rfl rfl (hA 1 rfl)) (run_load W (hA 4 rfl) (((HBW.out.trans (hB.mono HBW.out.size)).cell (p := ⟨b, off + m * 2, none⟩) hBb).trans HY.out.1) (((HBW.out.trans (hB.mono HBW.out.size)).cell (p := ⟨b, off + m * 2 + 1, none⟩) hBb).trans HY.out.2)) rfl)
                  · exact Or.inl (PB.does_move (PB.wanted_by rfl rfl (hA 1 rfl)) rfl (hS.slots 0 rfl))
                  · exact Or.inl (PB.does_move (PB.wanted_by rfl rfl (hA 1 rfl)) rfl (hS.slots 4 rfl))
                  · exact Or.inl (PB.does_run (PB.wanted_by rfl rfl (hA 1 rfl)) (run_index W (hA 6 rfl) (hA 7 rfl) hjn (by omega)) rfl)
                  · exact Or.inl (PB.does_run (PB.wanted_by rfl rfl (hA 1 rfl)) (run_load W (hA 8 rfl) (((HBW.out.trans (hB.mono HBW.out.size)).cell (p := ⟨b, off + j * 2, none⟩) hBb).trans HX.out.1) (((HBW.out.trans (hB.mono HBW.out.size)).cell (p := ⟨b, off + j * 2 + 1, none⟩) hBb).trans HX.out.2)) rfl)
                  · exact Or.inl (PB.does_bin (PB.wanted_by rfl rfl (hA 1 rfl)) rfl (hA 5 rfl) (hA 9 rfl) ((run_eqT W (y1, y2) (x1, x2) _ _).trans (by rw [decide_eq_false HEQ.out])) rfl)
                  · exact Or.inl (PB.does_move (PB.wanted_by rfl rfl (hA 1 rfl)) rfl (hA 10 rfl))
                  · exact Or.inl (PB.does_move (PB.wanted_by rfl rfl (hA 11 rfl)) rfl (hS.slots 0 rfl))
                  · exact Or.inl (PB.does_move (PB.wanted_by rfl rfl (hA 11 rfl)) rfl (hS.slots 6 rfl))
                  · exact Or.inl (PB.does_run (PB.wanted_by rfl rfl (hA 11 rfl)) (run_index W (hA 12 rfl) (hA 13 rfl) hmn (by omega)) rfl)
                  · exact Or.inl (PB.does_run (PB.wanted_by rfl rfl (hA 11 rfl)) (run_load W (hA 14 rfl) (((HBW.out.trans (hB.mono HBW.out.size)).cell (p := ⟨b, off + m * 2, none⟩) hBb).trans HY.out.1) (((HBW.out.trans (hB.mono HBW.out.size)).cell (p := ⟨b, off + m * 2 + 1, none⟩) hBb).trans HY.out.2)) rfl)
                  · exact Or.inl (PB.does_move (PB.wanted_by rfl rfl (hA 11 rfl)) rfl (hS.slots 0 rfl))
                  · exact Or.inl (PB.does_move (PB.wanted_by rfl rfl (hA 11 rfl)) rfl (hS.slots 4 rfl))
                  · exact Or.inl (PB.does_run (PB.wanted_by rfl rfl (hA 11 rfl)) (run_index W (hA 16 rfl) (hA 17 rfl) hjn (by omega)) rfl)
                  · exact Or.inl (PB.does_run (PB.wanted_by rfl rfl (hA 11 rfl)) (run_load W (hA 18 rfl) (((HBW.out.trans (hB.mono HBW.out.size)).cell (p := ⟨b, off + j * 2, none⟩) hBb).trans HX.out.1) (((HBW.out.trans (hB.mono HBW.out.size)).cell (p := ⟨b, off + j * 2 + 1, none⟩) hBb).trans HX.out.2)) rfl)
                  · exact Or.inl (PB.does_call #[.agg #[.int .i64 y1, .int .i64 y2], .agg #[.int .i64 x1, .int .i64 x2]] (PB.wanted_by rfl rfl (hA 11 rfl)) rfl Try.func33 rfl rfl (by show [PB.slot A 34, PB.slot A 38] = _; rw [show PB.slot A 34 = .agg #[.int .i64 y1, .int .i64 y2] from (hA 15 rfl), show PB.slot A 38 = .agg #[.int .i64 x1, .int .i64 x2] from (hA 19 rfl)]) (by have := rle_newB (y1, y2) (x1, x2) W; rw [HLE.out] at this; exact this))
                  · exact Or.inl (PB.does_run (PB.wanted_by rfl rfl (hA 11 rfl)) (run_not W (hA 20 rfl)) rfl)
                  · exact Or.inl (PB.does_run (PB.wanted_by rfl rfl (hA 1 rfl)) (run_pick_else W (hA 11 rfl) (hA 21 rfl)) rfl)
                  · exact Or.inl (PB.does_run (PB.wanted_free rfl) (run_pick_then W (hA 1 rfl) (hA 22 rfl)) rfl)
                · intro A W hB hS hL
                  have h_19 : PB.slot A 19 = .bool true := hL 0 (by decide)
                  have h_20 : PB.slot A 20 = .bool true := hL 1 (by decide)
                  have h_21 : PB.slot A 21 = .slice (some ⟨b, off, none⟩) n cap := hL 2 (by decide)
                  have h_22 : PB.slot A 22 = .int .i64 (m : Int) := hL 3 (by decide)
                  have h_23 : PB.slot A 23 = .pointer (some ⟨b, off + m * 2, none⟩) := hL 4 (by decide)
                  have h_24 : PB.slot A 24 = .agg #[.int .i64 y1, .int .i64 y2] := hL 5 (by decide)
                  have h_25 : PB.slot A 25 = .slice (some ⟨b, off, none⟩) n cap := hL 6 (by decide)
                  have h_26 : PB.slot A 26 = .int .i64 (j : Int) := hL 7 (by decide)
                  have h_27 : PB.slot A 27 = .pointer (some ⟨b, off + j * 2, none⟩) := hL 8 (by decide)
                  have h_28 : PB.slot A 28 = .agg #[.int .i64 x1, .int .i64 x2] := hL 9 (by decide)
                  have h_29 : PB.slot A 29 = .bool false := hL 10 (by decide)
                  have h_30 : PB.slot A 30 = .bool false := hL 11 (by decide)
                  have h_31 : PB.slot A 31 = .slice (some ⟨b, off, none⟩) n cap := hL 12 (by decide)
                  have h_32 : PB.slot A 32 = .int .i64 (m : Int) := hL 13 (by decide)
                  have h_33 : PB.slot A 33 = .pointer (some ⟨b, off + m * 2, none⟩) := hL 14 (by decide)
                  have h_34 : PB.slot A 34 = .agg #[.int .i64 y1, .int .i64 y2] := hL 15 (by decide)
                  have h_35 : PB.slot A 35 = .slice (some ⟨b, off, none⟩) n cap := hL 16 (by decide)
                  have h_36 : PB.slot A 36 = .int .i64 (j : Int) := hL 17 (by decide)
                  have h_37 : PB.slot A 37 = .pointer (some ⟨b, off + j * 2, none⟩) := hL 18 (by decide)
                  have h_38 : PB.slot A 38 = .agg #[.int .i64 x1, .int .i64 x2] := hL 19 (by decide)
                  have h_39 : PB.slot A 39 = .bool true := hL 20 (by decide)
                  have h_40 : PB.slot A 40 = .bool false := hL 21 (by decide)
                  have h_41 : PB.slot A 41 = .bool false := hL 22 (by decide)
                  have h_42 : PB.slot A 42 = .bool false := hL 23 (by decide)
                  have q_0 : PB.slot A 0 = .slice (some ⟨b, off, none⟩) n cap := hS.slots 0 rfl
                  have q_4 : PB.slot A 4 = .int .i64 (j : Int) := hS.slots 4 rfl
                  have q_6 : PB.slot A 6 = .int .i64 (m : Int) := hS.slots 6 rfl
                  have q_5 : PB.slot A 5 = .bool true := hS.slots 5 rfl
                  have q_1 := hS.slots 1 rfl
                  have q_2 := hS.slots 2 rfl
                  have q_3 := hS.slots 3 rfl
                  have q_7 := hS.slots 7 rfl
                  have q_8 := hS.slots 8 rfl
                  have q_9 := hS.slots 9 rfl
                  have q_10 := hS.slots 10 rfl
                  have q_11 := hS.slots 11 rfl
                  have q_12 := hS.slots 12 rfl
                  have q_13 := hS.slots 13 rfl
                  have q_14 := hS.slots 14 rfl
                  have q_15 := hS.slots 15 rfl
                  have q_16 := hS.slots 16 rfl
                  have q_17 := hS.slots 17 rfl
                  have q_18 := hS.slots 18 rfl
                  have q_43 := hS.slots 43 rfl
                  have q_44 := hS.slots 44 rfl
                  have q_45 := hS.slots 45 rfl
                  have q_46 := hS.slots 46 rfl
                  have q_47 := hS.slots 47 rfl
                  have q_48 := hS.slots 48 rfl
                  have q_49 := hS.slots 49 rfl
                  have q_50 := hS.slots 50 rfl
                  simp only [PB.slot, Array.getD_eq_getD_getElem?, List.getElem?_toArray, List.getElem?_cons_succ, List.getElem?_cons_zero, Option.getD_some] at q_1 q_2 q_3 q_7 q_8 q_9 q_10 q_11 q_12 q_13 q_14 q_15 q_16 q_17 q_18 q_43 q_44 q_45 q_46 q_47 q_48 q_49 q_50
                  have q_1 := (PT.slot_get A 1).trans q_1
                  have q_2 := (PT.slot_get A 2).trans q_2
                  have q_3 := (PT.slot_get A 3).trans q_3
                  have q_7 := (PT.slot_get A 7).trans q_7
                  have q_8 := (PT.slot_get A 8).trans q_8
                  have q_9 := (PT.slot_get A 9).trans q_9
                  have q_10 := (PT.slot_get A 10).trans q_10
                  have q_11 := (PT.slot_get A 11).trans q_11
                  have q_12 := (PT.slot_get A 12).trans q_12
                  have q_13 := (PT.slot_get A 13).trans q_13
                  have q_14 := (PT.slot_get A 14).trans q_14
                  have q_15 := (PT.slot_get A 15).trans q_15
                  have q_16 := (PT.slot_get A 16).trans q_16
                  have q_17 := (PT.slot_get A 17).trans q_17
                  have q_18 := (PT.slot_get A 18).trans q_18
                  have q_43 := (PT.slot_get A 43).trans q_43
                  have q_44 := (PT.slot_get A 44).trans q_44
                  have q_45 := (PT.slot_get A 45).trans q_45
                  have q_46 := (PT.slot_get A 46).trans q_46
                  have q_47 := (PT.slot_get A 47).trans q_47
                  have q_48 := (PT.slot_get A 48).trans q_48
                  have q_49 := (PT.slot_get A 49).trans q_49
                  have q_50 := (PT.slot_get A 50).trans q_50
                  have hA := PT.frame_of (A := A) (n := 51) hS.size
                  have hd : A.defers = [] := hS.defers
                  rw [hd] at hA
                  obtain ⟨fr, hf⟩ : ∃ f, PB.slot A = f := ⟨_, rfl⟩
                  rw [hf] at hA h_19 h_20 h_21 h_22 h_23 h_24 h_25 h_26 h_27 h_28 h_29 h_30 h_31 h_32 h_33 h_34 h_35 h_36 h_37 h_38 h_39 h_40 h_41 h_42 q_0 q_4 q_6 q_5 q_1 q_2 q_3 q_7 q_8 q_9 q_10 q_11 q_12 q_13 q_14 q_15 q_16 q_17 q_18 q_43 q_44 q_45 q_46 q_47 q_48 q_49 q_50
                  rw [hA]
                  clear hA hf hd hL hS
                  simp only [List.range, List.range.loop, List.map_cons, List.map_nil, List.drop_succ_cons, List.drop_zero, h_19, h_20, h_21, h_22, h_23, h_24, h_25, h_26, h_27, h_28, h_29, h_30, h_31, h_32, h_33, h_34, h_35, h_36, h_37, h_38, h_39, h_40, h_41, h_42, q_0, q_4, q_6, q_5, q_1, q_2, q_3, q_7, q_8, q_9, q_10, q_11, q_12, q_13, q_14, q_15, q_16, q_17, q_18, q_43, q_44, q_45, q_46, q_47, q_48, q_49, q_50]
                  clear h_19 h_20 h_21 h_22 h_23 h_24 h_25 h_26 h_27 h_28 h_29 h_30 h_31 h_32 h_33 h_34 h_35 h_36 h_37 h_38 h_39 h_40 h_41 h_42 q_0 q_4 q_6 q_5 q_1 q_2 q_3 q_7 q_8 q_9 q_10 q_11 q_12 q_13 q_14 q_15 q_16 q_17 q_18 q_43 q_44 q_45 q_46 q_47 q_48 q_49 q_50
                  have HB2 : Hid (Below wO.heap.size wO W) := hbl.out.trans (hB.mono hbl.out.size)
                  clear hB
                  go_wp2
                  go_roundg kk
                  case measure => omega
                  case rel => exact ⟨m + 1, false, by omega, by simp, rfl, HRES, HB2⟩

set_option maxRecDepth 100000 in
theorem rNew_L (w : World) (l : List T) (v : Value) (h : IsL l v w) (hl : l.length ≤ 1000000) : Calls Try.prog 26 #[v] w fun e w' => ∃ u f, e = .returned u ∧ StepsOf l f ∧ f.length ≤ l.length ∧ IsL f u w' ∧ Below w.heap.size w w' := by
  obtain ⟨a, c, rfl, hc, hs, ht⟩ := h
  exact rNew_any w a c l ht hl

end Go.Proofs.Ytboeodcjcbgeaaa
