/-
  What is proved here: the document's order of rows at rows that are alike.
-/
import Derived.Test.YtgalmkhgbokidaaWL
namespace Go.Proofs.Ytgalmkhgbokidaa
open Go.RowKit Go.Proofs
set_option maxRecDepth 20000
set_option linter.unusedVariables false
set_option linter.unusedSimpArgs false

/-- Two values that are the same but for fields that play no part. -/
def AlV (x y : V) : Prop := x.1 = y.1 ∧ (x.1 = 0 → x.2.1 = y.2.1) ∧ (x.1 = 1 → x.2.2 = y.2.2)

theorem AlV.refl (x : V) : AlV x x := ⟨rfl, fun _ => rfl, fun _ => rfl⟩
theorem AlV.ofNorm (x : V) : AlV (norm x) x := by
  unfold norm
  by_cases h : x.1 = 1
  · rw [if_pos h]; exact ⟨h.symm, fun h0 => by simp at h0, fun _ => rfl⟩
  · rw [if_neg h]; exact ⟨rfl, fun _ => rfl, fun h1 => absurd h1 h⟩

/-- Two rows. -/
def AlR (l r : List V) : Prop := l.length = r.length ∧ ∀ i, i < l.length → AlV (l.getD i d0) (r.getD i d0)

theorem AlR.refl (l : List V) : AlR l l := ⟨rfl, fun i _ => AlV.refl _⟩
theorem AlR.ofNorm (l : List V) : AlR (l.map norm) l := ⟨by simp, fun i hi => by
  have hi' : i < l.length := by simpa using hi
  have e : (l.map norm).getD i d0 = norm (l.getD i d0) := by simp [List.getD, List.getElem?_eq_getElem hi']
  rw [e]; exact AlV.ofNorm _⟩

theorem less_self : ∀ l : List UInt8, Op.bytesLess l l = false
  | [] => by unfold Op.bytesLess; rfl
  | a :: l => by
    unfold Op.bytesLess
    rw [less_self l]
    simp

theorem run_gtr (s : ByteArray) (w : World) : (binOp .gtr 9 (.string s) (.string s)).run Try.prog w = .ok (.bool false) w := by
  have h := less_self s.toList
  show (Op.stringOp .gtr s s).run Try.prog w = _
  unfold Op.stringOp
  simp only [h]
  simp

set_option maxHeartbeats 2000000 in
theorem oCmp_alike (x y : V) (h : AlV x y) (w : World) : Calls Try.prog 75 #[.agg #[.int .i64 x.1, .int .i64 x.2.1, .string x.2.2], .agg #[.int .i64 y.1, .int .i64 y.2.1, .string y.2.2]] w fun e w' => e = .returned (.int .i64 0) ∧ Below w.heap.size w w' := by
  obtain ⟨k, i, s⟩ := x
  obtain ⟨k', i', s'⟩ := y
  obtain ⟨e1, e2, e3⟩ := h
  simp only at e1 e2 e3 ⊢
  subst e1
  have hB : ∀ o o', Below w.heap.size w ((w.alloc o).alloc o') := fun o o' => bel_alloc ((Below.refl _ _).alloc (Nat.le_refl _) o) o'
  by_cases h0 : k = 0
  · subst h0
    obtain rfl := e2 rfl
    clear e2 e3
    go_enter Try.func75, Try.ntmps75
    go_wp2
    go_ret
    exact ⟨rfl, hB _ _⟩
  · by_cases h1 : k = 1
    · subst h1
      obtain rfl := e3 rfl
      clear e2 e3
      go_enter Try.func75, Try.ntmps75
      have hl := less_self s.toList
      have hg := fun w => run_gtr s w
      go_wp2
      go_ret
      exact ⟨rfl, hB _ _⟩
    · have b0 : (k == 0) = false := by simpa using h0
      have b1 : (k == 1) = false := by simpa using h1
      clear e2 e3
      go_enter Try.func75, Try.ntmps75
      go_wp2
      go_ret
      exact ⟨rfl, hB _ _⟩

section
variable {a : Act} {t u c : Nat} {dst : Option Tmp} {ty : TypeId} {pos : String} {aft : Array Edge} {guard : Option (Nat × Bool)}
theorem run_ixV {b off n cap i : Nat} (w : World) (h : PB.slot a t = .slice (some ⟨b, off, none⟩) n cap) (h' : PB.slot a u = .int .i64 (i : Int)) (hi : i < n) (hn : n ≤ 1000000000) :
    (execOp a.eval { dst := dst, op := .indexAddr 24 (.tmp t) (.tmp u), type := ty, pos := pos, after := aft, guard := guard }).run Try.prog w = .ok (.value (.pointer (some ⟨b, off + i * 3, none⟩))) w := by
  have h1 : a.tmps[t]?.getD undef = .slice (some ⟨b, off, none⟩) n cap := by rw [← Array.getD_eq_getD_getElem?]; exact h
  have h2 : a.tmps[u]?.getD undef = .int .i64 (i : Int) := by rw [← Array.getD_eq_getD_getElem?]; exact h'
  go_simp
theorem run_ldV {b o : Nat} {k i : Int} {s : ByteArray} (w : World) (h : PB.slot a t = .pointer (some ⟨b, o, none⟩)) (hc : w.cell? ⟨b, o, none⟩ = some (.int .i64 k) ∧ w.cell? ⟨b, o + 1, none⟩ = some (.int .i64 i) ∧ w.cell? ⟨b, o + 2, none⟩ = some (.string s)) :
    (execOp a.eval { dst := dst, op := .load 78 (.tmp t), type := ty, pos := pos, after := aft, guard := guard }).run Try.prog w = .ok (.value (.agg #[.int .i64 k, .int .i64 i, .string s])) w := by
  have h0 : a.tmps[t]?.getD undef = .pointer (some ⟨b, o, none⟩) := by rw [← Array.getD_eq_getD_getElem?]; exact h
  obtain ⟨h1, h2, h3⟩ := hc
  go_simp
end

def aV (x : V) : Value := .agg #[.int .i64 x.1, .int .i64 x.2.1, .string x.2.2]

def orVal (b1 o1 b2 o2 n ca cb j : Nat) (x y : V) (i : Nat) : Option Value :=
  [some (.slice (some ⟨b1, o1, none⟩) n ca), some (.int .i64 (j : Int)), some (.pointer (some ⟨b1, o1 + j * 3, none⟩)), some (aV x), some (.slice (some ⟨b2, o2, none⟩) n cb), some (.int .i64 (j : Int)), some (.pointer (some ⟨b2, o2 + j * 3, none⟩)), some (aV y), none, none].getD i none

def orInv (w : World) (vs : List Value) (W : World) : Prop :=
  Below w.heap.size w W ∧ match vs with
    | [] => True
    | [p] => p = .int .i64 0
    | [p, q] => p = .int .i64 0 ∧ q = .int .i64 0
    | _ => False

set_option maxHeartbeats 4000000 in
theorem oOrder_alike (P Q : Nat → Prop) (w : World) (a b : Option Addr) (ca cb : Nat) (l r : List V) (h1 : VP P w a l) (h2 : VP Q w b r) (hal : AlR l r) (hl : l.length ≤ 1000) :
    Calls Try.prog 60 #[.slice a l.length ca, .slice b r.length cb] w fun e w' => e = .returned (.int .i64 0) ∧ Below w.heap.size w w' := by
  have H1 := hid' h1
  have H2 := hid' h2
  have HAL := hid' hal
  rw [← hal.1]
  obtain ⟨n, hn⟩ : ∃ n, l.length = n := ⟨_, rfl⟩
  have HN := hid' hn
  rw [hn] at hl ⊢
  clear h1 h2 hn hal
  go_enter Try.func60, Try.ntmps60
  go_wp2
  go_loopg [5] n (fun k i wr => ∃ j : Nat, j + k = n ∧ i = .int .i64 (j : Int) ∧ Hid (Below w.heap.size w wr))
  case atStart => exact ⟨0, by omega, rfl, Below.refl _ _⟩
  case round =>
    obtain ⟨j, hj, rfl, HB⟩ := hrel
    cases gk with
    | zero =>
      obtain rfl : j = n := by omega
      go_wp2
      go_ret
      exact ⟨rfl, HB.out⟩
    | succ k =>
      have hjl : j < l.length := by rw [HN.out]; omega
      have hjr : j < r.length := by rw [← HAL.out.1]; exact hjl
      obtain ⟨b1, o1, rfl⟩ := SP.lt H1.out (by rintro rfl; simp at hjl)
      obtain ⟨b2, o2, rfl⟩ := SP.lt H2.out (by rintro rfl; simp at hjr)
      have HC1 := hid' (fun W (hW : Below w.heap.size w W) => VP.at (SP.on H1.out hW) hjl)
      have HC2 := hid' (fun W (hW : Below w.heap.size w W) => VP.at (SP.on H2.out hW) hjr)
      have HCM := hid' (oCmp_alike (l.getD j d0) (r.getD j d0) (HAL.out.2 j hjl))
      generalize l.getD j d0 = x at *
      generalize r.getD j d0 = y at *
      clear hjl hjr
      go_wp2_with fail
      refine PQ.wp_region_quiet (orVal b1 o1 b2 o2 n ca cb j x y) (orInv w) mixed' (by kernel_rfl) ⟨HB.out.drew, trivial⟩ ?_ ?_
      · refine ⟨?_, ?_, ?_, ?_, ?_, ?_, ?_, ?_, ?_, ?_, trivial⟩
        · intro vs A W hI hC
          exact ⟨PB.wanted_free rfl, run_moveD W (hC.outer 0 rfl)⟩
        · intro vs A W hI hC
          exact ⟨PB.wanted_free rfl, run_moveD W (hC.outer 5 rfl)⟩
        · intro vs A W hI hC
          exact ⟨PB.wanted_free rfl, run_ixV W (hC.left 0 rfl) (hC.left 1 rfl) (by omega) (by omega)⟩
        · intro vs A W hI hC
          exact ⟨PB.wanted_free rfl, run_ldV W (hC.left 2 rfl) (HC1.out W hI.1)⟩
        · intro vs A W hI hC
          exact ⟨PB.wanted_free rfl, run_moveD W (hC.outer 1 rfl)⟩
        · intro vs A W hI hC
          exact ⟨PB.wanted_free rfl, run_moveD W (hC.outer 5 rfl)⟩
        · intro vs A W hI hC
          exact ⟨PB.wanted_free rfl, run_ixV W (hC.left 4 rfl) (hC.left 5 rfl) (by omega) (by omega)⟩
        · intro vs A W hI hC
          exact ⟨PB.wanted_free rfl, run_ldV W (hC.left 6 rfl) (HC2.out W hI.1)⟩
        · intro vs A W hk hI hC
          obtain rfl : vs = [] := List.length_eq_zero_iff.1 hk
          refine ⟨PB.wanted_free rfl, PQ.loud_call #[aV x, aV y] rfl Try.func75 rfl rfl ?_ ?_⟩
          · show [PB.slot A 22, PB.slot A 26] = _
            rw [show PB.slot A 22 = aV x from hC.left 3 rfl, show PB.slot A 26 = aV y from hC.left 7 rfl]
          · refine (HCM.out W).mono ?_
            rintro e W2 ⟨rfl, hb⟩
            exact ⟨_, rfl, bel_trans' hI.1 hb, rfl⟩
        · intro vs A W hk hI hC
          match vs, hk, hI, hC with
          | [p], _, hI, hC =>
            exact ⟨PB.wanted_free rfl, PQ.loud_value (run_assD W (hC.left 8 rfl)) ⟨hI.1, hI.2, hI.2⟩⟩
      · intro vs A W hk hI hE
        match vs, hk, hI, hE with
        | [p, q], _, hI, hE =>
          obtain ⟨hB, rfl, rfl⟩ := hI
          have HB2 := hid' hB
          clear hB
          have h_19 : PB.slot A 19 = .slice (some ⟨b1, o1, none⟩) n ca := hE.left 0
          have h_20 : PB.slot A 20 = .int .i64 (j : Int) := hE.left 1
          have h_21 : PB.slot A 21 = .pointer (some ⟨b1, o1 + j * 3, none⟩) := hE.left 2
          have h_22 : PB.slot A 22 = aV x := hE.left 3
          have h_23 : PB.slot A 23 = .slice (some ⟨b2, o2, none⟩) n cb := hE.left 4
          have h_24 : PB.slot A 24 = .int .i64 (j : Int) := hE.left 5
          have h_25 : PB.slot A 25 = .pointer (some ⟨b2, o2 + j * 3, none⟩) := hE.left 6
          have h_26 : PB.slot A 26 = aV y := hE.left 7
          have h_27 : PB.slot A 27 = .int .i64 0 := hE.left 8
          have h_6 : PB.slot A 6 = .int .i64 0 := hE.left 9
          have hA := PQ.frame_puts hE.defers hE.size [19, 20, 21, 22, 23, 24, 25, 26, 27, 6] (fun t ht => hE.outer t (by simp only [List.mem_cons, List.not_mem_nil, or_false, not_or] at ht; simp [PB.outer]; omega))
          obtain ⟨fr, hf⟩ : ∃ f, PB.slot A = f := ⟨_, rfl⟩
          rw [hA]
          simp only [PQ.puts]
          rw [hf] at h_19 h_20 h_21 h_22 h_23 h_24 h_25 h_26 h_27 h_6 ⊢
          clear hA hf hE
          simp only [h_19, h_20, h_21, h_22, h_23, h_24, h_25, h_26, h_27, h_6, Act.put, List.setIfInBounds_toArray, List.set_cons_succ, List.set_cons_zero]
          clear h_19 h_20 h_21 h_22 h_23 h_24 h_25 h_26 h_27 h_6
          clear HC1 HC2 HCM HB
          unfold aV
          go_wp2
          go_roundg k
          case measure => omega
          case rel => exact ⟨j + 1, by omega, by simp, HB2⟩

theorem oSame_alike (P Q : Nat → Prop) (w : World) (a b : Option Addr) (ca cb : Nat) (l r : List V) (h1 : VP P w a l) (h2 : VP Q w b r) (hal : AlR l r) (hl : l.length ≤ 1000) :
    Calls Try.prog 36 #[.slice a l.length ca, .slice b r.length cb] w fun e w' => e = .returned (.bool true) ∧ Below w.heap.size w w' := by
  have H := hid' (oOrder_alike P Q w a b ca cb l r h1 h2 hal hl)
  generalize l.length = n at *
  generalize r.length = m at *
  clear h1 h2 hal
  go_enter Try.func36, Try.ntmps36
  go_wp2_with fail
  refine H.out.mono ?_
  rintro e w1 ⟨rfl, hb⟩
  go_wp2
  go_ret
  exact ⟨rfl, hb⟩

end Go.Proofs.Ytgalmkhgbokidaa
