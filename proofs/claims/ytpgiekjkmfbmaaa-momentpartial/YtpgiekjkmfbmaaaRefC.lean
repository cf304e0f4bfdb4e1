/-
  What is proved here: the document's Closure.
-/
import Derived.Test.YtpgiekjkmfbmaaaRefU
import Derived.Test.YtpgiekjkmfbmaaaPlanB
namespace Go.Proofs.Ytpgiekjkmfbmaaa
open Go.RowKit Go.Proofs
set_option linter.unusedVariables false
set_option linter.unusedSimpArgs false

/-- The joins of the first i times with all, and of one more with the first k. -/
def PJ (l : List T) (i k : Nat) (x : T) : Prop := (∃ a ∈ l.take i, ∃ b ∈ l, x = joinT a b) ∨ ∃ b ∈ l.take k, x = joinT (l.getD i (0, 0)) b

theorem pj_step (l : List T) (i k : Nat) (hk : k < l.length) (x : T) : PJ l i (k + 1) x ↔ PJ l i k x ∨ x = joinT (l.getD i (0, 0)) (l.getD k (0, 0)) := by
  unfold PJ
  rw [take_snoc l k (0, 0) hk]
  constructor
  · rintro (h | ⟨b, hb, rfl⟩)
    · exact .inl (.inl h)
    · rcases List.mem_append.1 hb with hb | hb
      · exact .inl (.inr ⟨b, hb, rfl⟩)
      · simp only [List.mem_singleton] at hb; rw [hb]; exact .inr rfl
  · rintro ((h | ⟨b, hb, rfl⟩) | h)
    · exact .inl h
    · exact .inr ⟨b, by simp [hb], rfl⟩
    · exact .inr ⟨_, by simp, h⟩

theorem pj_next (l : List T) (i : Nat) (hi : i < l.length) (x : T) : PJ l (i + 1) 0 x ↔ PJ l i l.length x := by
  unfold PJ
  rw [take_snoc l i (0, 0) hi, List.take_length]
  simp only [List.take_zero]
  constructor
  · rintro (⟨a, ha, b, hb, rfl⟩ | ⟨b, hb, _⟩)
    · rcases List.mem_append.1 ha with ha | ha
      · exact .inl ⟨a, ha, b, hb, rfl⟩
      · simp only [List.mem_singleton] at ha; subst ha; exact .inr ⟨b, hb, rfl⟩
    · simp at hb
  · rintro (⟨a, ha, b, hb, rfl⟩ | ⟨b, hb, rfl⟩)
    · exact .inl ⟨a, by simp [ha], b, hb, rfl⟩
    · exact .inl ⟨_, by simp, b, hb, rfl⟩

theorem pj_all (l : List T) (x : T) : PJ l l.length 0 x ↔ Joins l x := by
  unfold PJ Joins
  rw [List.take_length]
  simp

/-- A slice that reads as a set of times. -/
def IsAcc (acc : List T) : Value → World → Prop := fun v w => ∃ a c, v = .slice a acc.length c ∧ acc.length ≤ c ∧ Sl a c ∧ Ts w.heap.size w a acc

theorem isAcc_lasts (acc : List T) : PB.Lasts (IsAcc acc) := by
  rintro v w w' ⟨a, c, rfl, hc, hs, ht⟩ hb
  exact ⟨a, c, rfl, hc, hs, ht.on hb⟩

theorem join_newB (x1 x2 y1 y2 : Int) (w : World) : Calls Try.prog 12 #[.agg #[.int .i64 x1, .int .i64 x2], .agg #[.int .i64 y1, .int .i64 y2]] w fun e w' => ∃ v, e = .returned v ∧ Below w.heap.size w w' ∧ PB.E (tv (joinT (x1, x2) (y1, y2))) v w' := by
  refine (refJoin_any (x1, x2) (y1, y2) w).mono ?_
  rintro e w' ⟨rfl, hg⟩
  exact ⟨_, rfl, hg.below, rfl⟩

theorem add_newB (acc : List T) (t : T) (v : Value) (w : World) (h : IsAcc acc v w) (ht : RT t) (hl : acc.length ≤ 1000000) : Calls Try.prog 26 #[v, tv t] w fun e w' => ∃ u, e = .returned u ∧ Below w.heap.size w w' ∧ IsAcc (addT acc t) u w' := by
  obtain ⟨a, c, rfl, hc, hs, hts⟩ := h
  refine (add_any w a c acc t hts hc hs ht hl).mono ?_
  rintro e w' ⟨a', c', rfl, hc', hs', hts', hb'⟩
  exact ⟨_, rfl, hb', a', c', rfl, hc', hs', hts'⟩

section
variable {a : Act} {t u : Nat} {dst : Option Tmp} {ty : TypeId} {pos : String} {aft : Array Edge} {guard : Option (Nat × Bool)}

theorem run_index31 {b off n cap i : Nat} (w : World) (h : PB.slot a t = .slice (some ⟨b, off, none⟩) n cap) (h' : PB.slot a u = .int .i64 (i : Int)) (hi : i < n) (hn : n ≤ 1000000) :
    (execOp a.eval { dst := dst, op := .indexAddr 31 (.tmp t) (.tmp u), type := ty, pos := pos, after := aft, guard := guard }).run Try.prog w = .ok (.value (.pointer (some ⟨b, off + i * 2, none⟩))) w := by
  have h1 : a.tmps[t]?.getD undef = .slice (some ⟨b, off, none⟩) n cap := by rw [← Array.getD_eq_getD_getElem?]; exact h
  have h2 : a.tmps[u]?.getD undef = .int .i64 (i : Int) := by rw [← Array.getD_eq_getD_getElem?]; exact h'
  go_simp

theorem run_load23 {b o : Nat} {x1 x2 : Int} (w : World) (h : PB.slot a t = .pointer (some ⟨b, o, none⟩)) (h1 : w.cell? ⟨b, o, none⟩ = some (.int .i64 x1)) (h2 : w.cell? ⟨b, o + 1, none⟩ = some (.int .i64 x2)) :
    (execOp a.eval { dst := dst, op := .load 23 (.tmp t), type := ty, pos := pos, after := aft, guard := guard }).run Try.prog w = .ok (.value (.agg #[.int .i64 x1, .int .i64 x2])) w := by
  have h0 : a.tmps[t]?.getD undef = .pointer (some ⟨b, o, none⟩) := by rw [← Array.getD_eq_getD_getElem?]; exact h
  go_simp
end

set_option maxHeartbeats 2000000 in
theorem refClosure_any (w : World) (a : Option Addr) (cap : Nat) (l : List T) (h : Ts w.heap.size w a l) (hl : l.length ≤ 900) :
    Calls Try.prog 22 #[.slice a l.length cap] w fun e w' => ∃ a' c' u, e = .returned (.slice a' u.length c') ∧ u.length ≤ l.length * l.length ∧ SetOf u (Joins l) ∧ Ts w'.heap.size w' a' u ∧ Below w.heap.size w w' := by
  obtain ⟨n, hn⟩ : ∃ n, l.length = n := ⟨_, rfl⟩
  have mixed : Try.prog.follows .mixedOrders = true := by kernel_rfl
  have HTS := hid' h
  have HN := hid' hn
  rw [hn] at hl ⊢
  clear hn h
  go_enter Try.func22, Try.ntmps22
  go_wp2
  go_loopg [3, 4] n (fun k v i wr => ∃ (j : Nat) (acc : List T) (a3 : Option Addr) (c3 : Nat), j + k = n ∧ i = .int .i64 (j : Int) ∧ v = .slice a3 acc.length c3 ∧ acc.length ≤ c3 ∧ acc.length ≤ j * n ∧ Sl a3 c3 ∧ Ts wr.heap.size wr a3 acc ∧ SetOf acc (PJ l j 0) ∧ Below w.heap.size w wr)
  case atStart => exact ⟨0, [], none, 0, by omega, rfl, rfl, Nat.le_refl _, Nat.zero_le _, .inl ⟨rfl, rfl⟩, Ts.nil _ _ _, ⟨List.Pairwise.nil, fun x => by simp [PJ]⟩, Below.refl _ _⟩
  case round =>
    obtain ⟨j, acc, a3, c3, hj, rfl, rfl, hc3, haj, hsl, hts, hset, hbel⟩ := hrel
    cases gk with
    | zero =>
      obtain rfl : j = n := by omega
      have HS : Hid (SetOf acc (Joins l)) := ⟨hset.sl, fun x => by rw [hset.mem, ← HN.out, pj_all]⟩
      clear hset
      go_wp2
      go_ret
      exact ⟨a3, c3, acc, rfl, haj, HS.out, hts, hbel⟩
    | succ k =>
      have hjn : j < n := by omega
      have hjl : j < l.length := by rw [HN.out]; exact hjn
      obtain ⟨b, off, rfl, hB, hc⟩ := HTS.out.cells (by rintro rfl; simp at hjl)
      have HC := hid' hc
      obtain ⟨M, hM⟩ : ∃ M, j * n = M := ⟨_, rfl⟩
      have hM2 : M ≤ 900 * 900 := by rw [← hM]; exact Nat.mul_le_mul (by omega) hl
      have HM := hid' hM
      have HS := hid' hset
      rw [hM] at haj
      clear hM hset hc hjl
      go_wp2
      go_loopg [3, 5] n (fun k v i wr => ∃ (m : Nat) (acc : List T) (a3 : Option Addr) (c3 : Nat), m + k = n ∧ i = .int .i64 (m : Int) ∧ v = .slice a3 acc.length c3 ∧ acc.length ≤ c3 ∧ acc.length ≤ M + m ∧ Sl a3 c3 ∧ Ts wr.heap.size wr a3 acc ∧ SetOf acc (PJ l j m) ∧ Below w.heap.size w wr)
      case atStart => exact ⟨0, acc, a3, c3, by omega, rfl, rfl, hc3, by omega, hsl, hts, HS.out, hbel⟩
      case round =>
        obtain ⟨m, acc, a3, c3, hm, rfl, rfl, hc3, haj, hsl, hts, hset, hbel⟩ := hrel
        cases gk with
        | zero =>
          obtain rfl : m = n := by omega
          have HS2 : Hid (SetOf acc (PJ l (j + 1) 0)) := ⟨hset.sl, fun x => by rw [hset.mem, pj_next l j (by rw [HN.out]; exact hjn), HN.out]⟩
          clear hset
          go_wp2
          go_roundg k
          case measure => omega
          case rel => exact ⟨j + 1, acc, a3, c3, by omega, by simp, rfl, hc3, by rw [Nat.add_mul, HM.out, Nat.one_mul]; exact haj, hsl, hts, HS2.out, hbel⟩
        | succ kk =>
          have hmn : m < n := by omega
          have hml : m < l.length := by rw [HN.out]; exact hmn
          have hjl : j < l.length := by rw [HN.out]; exact hjn
          have HS2 : Hid (SetOf (addT acc (joinT (l.getD j (0, 0)) (l.getD m (0, 0)))) (PJ l j (m + 1))) := set_addT hset (fun x => pj_step l j m hml x)
          have HRT : Hid (RT (joinT (l.getD j (0, 0)) (l.getD m (0, 0)))) := RT.join (HTS.out.range _ (by simp [List.getD, List.getElem?_eq_getElem hjl])) (HTS.out.range _ (by simp [List.getD, List.getElem?_eq_getElem hml]))
          have K1 : Hid (∀ W, Below wr.heap.size wr W → W.cell? ⟨b, off + j * 2, none⟩ = some (.int .i64 (l.getD j (0, 0)).1) ∧ W.cell? ⟨b, off + j * 2 + 1, none⟩ = some (.int .i64 (l.getD j (0, 0)).2)) := fun W hW =>
            have hh := hbel.trans (hW.mono hbel.size)
            ⟨(hh.cell (p := ⟨b, off + j * 2, none⟩) hB).trans (HC.out j hjl).1, (hh.cell (p := ⟨b, off + j * 2 + 1, none⟩) hB).trans (HC.out j hjl).2⟩
          have K2 : Hid (∀ W, Below wr.heap.size wr W → W.cell? ⟨b, off + m * 2, none⟩ = some (.int .i64 (l.getD m (0, 0)).1) ∧ W.cell? ⟨b, off + m * 2 + 1, none⟩ = some (.int .i64 (l.getD m (0, 0)).2)) := fun W hW =>
            have hh := hbel.trans (hW.mono hbel.size)
            ⟨(hh.cell (p := ⟨b, off + m * 2, none⟩) hB).trans (HC.out m hml).1, (hh.cell (p := ⟨b, off + m * 2 + 1, none⟩) hB).trans (HC.out m hml).2⟩
          have HAC : Hid (∀ W, Below wr.heap.size wr W → IsAcc acc (.slice a3 acc.length c3) W) := fun W hW => ⟨a3, c3, rfl, hc3, hsl, hts.on hW⟩
          generalize l.getD j (0, 0) = x at HS2 HRT K1
          generalize l.getD m (0, 0) = y at HS2 HRT K2
          obtain ⟨x1, x2⟩ := x
          obtain ⟨y1, y2⟩ := y
          have hacc : acc.length ≤ 1000000 := by omega
          have hlen := addT_length acc (joinT (x1, x2) (y1, y2))
          clear hset hts hml hjl
          go_wp2_with fail
          refine PB.wp_region_plan (PB.phi [PB.E (.slice a3 acc.length c3), PB.E (.slice (some ⟨b, off, none⟩) n cap), PB.E (.int .i64 (j : Int)), PB.E (.pointer (some ⟨b, off + j * 2, none⟩)), PB.E (.agg #[.int .i64 x1, .int .i64 x2]),
              PB.E (.slice (some ⟨b, off, none⟩) n cap), PB.E (.int .i64 (m : Int)), PB.E (.pointer (some ⟨b, off + m * 2, none⟩)), PB.E (.agg #[.int .i64 y1, .int .i64 y2]), PB.E (tv (joinT (x1, x2) (y1, y2))),
              IsAcc (addT acc (joinT (x1, x2) (y1, y2))), IsAcc (addT acc (joinT (x1, x2) (y1, y2)))]) (by kernel_rfl) (by kernel_rfl)
            (PB.phi_lasts _ ⟨PB.E_lasts _, PB.E_lasts _, PB.E_lasts _, PB.E_lasts _, PB.E_lasts _, PB.E_lasts _, PB.E_lasts _, PB.E_lasts _, PB.E_lasts _, PB.E_lasts _, isAcc_lasts _, isAcc_lasts _, trivial⟩) ?_ ?_
          · refine ⟨?_, ?_, ?_, ?_, ?_, ?_, ?_, ?_, ?_, ?_, ?_, ?_, trivial⟩ <;> intro A W hB' hS hA hF
            · exact PB.does_move (PB.wanted_free rfl) rfl (hF 11 _ 3 rfl rfl rfl)
            · exact PB.does_move (PB.wanted_free rfl) rfl (hS.slots 0 rfl)
            · exact PB.does_move (PB.wanted_free rfl) rfl (hS.slots 4 rfl)
            · exact PB.does_run (PB.wanted_free rfl) (run_index31 W (hA 1 rfl) (hA 2 rfl) hjn (by omega)) rfl
            · exact PB.does_run (PB.wanted_free rfl) (run_load23 W (hA 3 rfl) (K1.out W hB').1 (K1.out W hB').2) rfl
            · exact PB.does_move (PB.wanted_free rfl) rfl (hS.slots 0 rfl)
            · exact PB.does_move (PB.wanted_free rfl) rfl (hS.slots 5 rfl)
            · exact PB.does_run (PB.wanted_free rfl) (run_index31 W (hA 5 rfl) (hA 6 rfl) hmn (by omega)) rfl
            · exact PB.does_run (PB.wanted_free rfl) (run_load23 W (hA 7 rfl) (K2.out W hB').1 (K2.out W hB').2) rfl
            · exact PB.does_call #[.agg #[.int .i64 x1, .int .i64 x2], .agg #[.int .i64 y1, .int .i64 y2]] (PB.wanted_free rfl) rfl Try.func12 rfl rfl (by show [PB.slot A 22, PB.slot A 26] = _; rw [show PB.slot A 22 = .agg #[.int .i64 x1, .int .i64 x2] from hA 4 rfl, show PB.slot A 26 = .agg #[.int .i64 y1, .int .i64 y2] from hA 8 rfl]) (join_newB x1 x2 y1 y2 W)
            · exact PB.does_call #[.slice a3 acc.length c3, tv (joinT (x1, x2) (y1, y2))] (PB.wanted_free rfl) rfl Try.func26 rfl rfl (by show [PB.slot A 18, PB.slot A 27] = _; rw [show PB.slot A 18 = .slice a3 acc.length c3 from hA 0 rfl, show PB.slot A 27 = tv (joinT (x1, x2) (y1, y2)) from hA 9 rfl]) (add_newB acc _ _ W (HAC.out W hB') HRT.out hacc)
            · exact PB.does_assign (PB.wanted_free rfl) rfl (hA 10 rfl)
          · intro A W hB' hS hL
            have h3 : IsAcc (addT acc (joinT (x1, x2) (y1, y2))) (PB.slot A 3) W := hL 11 (by decide)
            obtain ⟨acc', hacc'⟩ : ∃ acc', addT acc (joinT (x1, x2) (y1, y2)) = acc' := ⟨_, rfl⟩
            rw [hacc'] at h3 hlen HS2
            clear hacc' hL
            obtain ⟨⟨tl⟩, defers⟩ := A
            have hd : defers = [] := hS.defers
            subst hd
            have hsz : tl.length = 30 := hS.size
            match tl, hsz with
            | [s0, s1, s2, s3, s4, s5, s6, s7, s8, s9, s10, s11, s12, s13, s14, s15, s16, s17, s18, s19, s20, s21, s22, s23, s24, s25, s26, s27, s28, s29], _ =>
              obtain rfl : s0 = .slice (some ⟨b, off, none⟩) n cap := hS.slots 0 rfl
              obtain rfl : s1 = undef := hS.slots 1 rfl
              obtain rfl : s2 = .slice none 0 0 := hS.slots 2 rfl
              obtain rfl : s4 = .int .i64 (j : Int) := hS.slots 4 rfl
              obtain rfl : s5 = .int .i64 (m : Int) := hS.slots 5 rfl
              obtain rfl : s6 = .int .i64 (j : Int) := hS.slots 6 rfl
              obtain rfl : s7 = .slice (some ⟨b, off, none⟩) n cap := hS.slots 7 rfl
              obtain rfl : s8 = .int .i64 (n : Int) := hS.slots 8 rfl
              obtain rfl : s9 = .bool true := hS.slots 9 rfl
              obtain rfl : s10 = u10 := hS.slots 10 rfl
              obtain rfl : s11 = u11 := hS.slots 11 rfl
              obtain rfl : s29 = undef := hS.slots 29 rfl
              obtain ⟨a4, c4, e4, hc4, hs4, ht4⟩ := h3
              obtain rfl : s3 = .slice a4 acc'.length c4 := e4
              clear hS
              go_wp2
              go_roundg kk
              case measure => omega
              case rel => exact ⟨m + 1, acc', a4, c4, by omega, by simp, rfl, hc4, by omega, hs4, ht4, HS2.out, hbel.trans (hB'.mono hbel.size)⟩

end Go.Proofs.Ytpgiekjkmfbmaaa
