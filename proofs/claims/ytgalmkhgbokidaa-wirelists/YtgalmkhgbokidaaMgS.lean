/-
  What is proved here: the document's bytes of a row.
  What is proved here: the document's bytes of a command.
-/
import Derived.Test.YtgalmkhgbokidaaMgH
import Derived.Test.YtgalmkhgbokidaaMgF

namespace Go.Proofs.Ytgalmkhgbokidaa
open Go.RowKit Go.Proofs
set_option maxRecDepth 20000
set_option linter.unusedVariables false
set_option linter.unusedSimpArgs false

section
variable {a : Act} {t u c : Nat} {dst : Option Tmp} {ty : TypeId} {pos : String} {aft : Array Edge} {guard : Option (Nat × Bool)}
theorem run_ixR {b off n cap i : Nat} (w : World) (h : PB.slot a t = .slice (some ⟨b, off, none⟩) n cap) (h' : PB.slot a u = .int .i64 (i : Int)) (hi : i < n) (hn : n ≤ 1000000000) :
    (execOp a.eval { dst := dst, op := .indexAddr 24 (.tmp t) (.tmp u), type := ty, pos := pos, after := aft, guard := guard }).run Try.prog w = .ok (.value (.pointer (some ⟨b, off + i * 3, none⟩))) w := by
  have h1 : a.tmps[t]?.getD undef = .slice (some ⟨b, off, none⟩) n cap := by rw [← Array.getD_eq_getD_getElem?]; exact h
  have h2 : a.tmps[u]?.getD undef = .int .i64 (i : Int) := by rw [← Array.getD_eq_getD_getElem?]; exact h'
  go_simp
theorem run_faV1 {g o : Nat} (w : World) (h : PB.slot a t = .pointer (some ⟨g, o, none⟩)) : (execOp a.eval { dst := dst, op := .fieldAddr 78 (.tmp t) 1, type := ty, pos := pos, after := aft, guard := guard }).run Try.prog w = .ok (.value (.pointer (some ⟨g, o + 1, none⟩))) w := by
  have h1 : a.tmps[t]?.getD undef = .pointer (some ⟨g, o, none⟩) := by rw [← Array.getD_eq_getD_getElem?]; exact h
  go_simp
theorem run_faV2 {g o : Nat} (w : World) (h : PB.slot a t = .pointer (some ⟨g, o, none⟩)) : (execOp a.eval { dst := dst, op := .fieldAddr 78 (.tmp t) 2, type := ty, pos := pos, after := aft, guard := guard }).run Try.prog w = .ok (.value (.pointer (some ⟨g, o + 2, none⟩))) w := by
  have h1 : a.tmps[t]?.getD undef = .pointer (some ⟨g, o, none⟩) := by rw [← Array.getD_eq_getD_getElem?]; exact h
  go_simp
theorem run_bsB {z : Int} (w : World) : (execOp a.eval { dst := dst, op := .buildSlice 22 1 #[(0, .const (.int .u8 z))], type := ty, pos := pos, after := aft, guard := guard }).run Try.prog w = .ok (.value (.slice (some ⟨w.heap.size, 0, none⟩) 1 1)) (w.alloc (.cells #[.int .u8 z] 5)) := by
  go_simp
end

theorem newB_one (W : World) (z : Int) : NewB [z] (.slice (some ⟨W.heap.size, 0, none⟩) 1 1) (W.alloc (.cells #[.int .u8 z] 5)) :=
  ⟨W.heap.size, 1, rfl, by rw [World.size_alloc]; omega, fun j u hj => by
    rw [addr_add, Nat.zero_add, (Bx.new W #[.int .u8 z] 5).cell j]
    simpa [B8] using hj⟩

def obVal (bv : Value) (b off n cap j o : Nat) (x : Value) (i : Nat) : Option Value :=
  [some bv, none, none, some (.slice (some ⟨b, off, none⟩) n cap), some (.int .i64 (j : Int)), some (.pointer (some ⟨b, off + j * 3, none⟩)), some (.pointer (some ⟨b, off + j * 3 + o, none⟩)), some x, none, none, none, none].getD i none

/-- What holds while a number is put. -/
def obA (w : World) (L : List Int) (z : Int) (bv : Value) (vs : List Value) (W : World) : Prop :=
  Below w.heap.size w W ∧ match vs with
    | [] => Own w.heap.size W bv L
    | [p] => Own w.heap.size W bv L ∧ NewB [0] p W
    | [_, q] => Own w.heap.size W q (L ++ [0])
    | [_, q, r] => Own w.heap.size W q (L ++ [0]) ∧ r = .int .u64 (zig z)
    | [_, q, _, s] => Own w.heap.size W q (L ++ [0]) ∧ NewB (oneB z) s W
    | [_, _, _, _, t] => Own w.heap.size W t ((L ++ [0]) ++ oneB z)
    | [_, _, _, _, t, u] => u = t ∧ Own w.heap.size W t ((L ++ [0]) ++ oneB z)
    | _ => False

/-- What holds while a text is put. -/
def obT (w : World) (L : List Int) (st : ByteArray) (bv : Value) (vs : List Value) (W : World) : Prop :=
  Below w.heap.size w W ∧ match vs with
    | [] => Own w.heap.size W bv L
    | [p] => Own w.heap.size W bv L ∧ NewB [1] p W
    | [_, q] => Own w.heap.size W q (L ++ [1])
    | [_, q, s] => Own w.heap.size W q (L ++ [1]) ∧ NewB (strB st) s W
    | [_, _, _, t] => Own w.heap.size W t ((L ++ [1]) ++ strB st)
    | [_, _, _, t, u] => u = t ∧ Own w.heap.size W t ((L ++ [1]) ++ strB st)
    | _ => False

def obInv (w : World) (xs : List V) (n k : Nat) (b i : Value) (wr : World) : Prop :=
  ∃ j : Nat, j + k = n ∧ i = .int .i64 (j : Int) ∧ Own w.heap.size wr b ([] ++ (bytesOf xs.length ++ (xs.take j).flatMap valB)) ∧ Below w.heap.size w wr

theorem strB_ne (s : ByteArray) : bytesOf s.size ++ nums s ≠ [] := by
  intro h
  have h1 := (List.append_eq_nil_iff.1 h).1
  have := sz_pos s.size
  rw [← length_bytesOf, h1] at this
  simp at this

set_option maxHeartbeats 8000000 in
theorem oBytes_any (P : Nat → Prop) (w : World) (ra : Option Addr) (rc : Nat) (xs : List V) (hx : VP P w ra xs) (hok : chkR xs = 0) (hr : ∀ v ∈ xs, R64 v.1 ∧ R64 v.2.1) :
    Calls Try.prog 43 #[.slice ra xs.length rc] w (NewAns (rowB xs) w) := by
  obtain ⟨hxs, hch⟩ := chkR_ok hok
  have HX := hid' hx
  have HOK : Hid (∀ v ∈ xs, chkV v = 0 ∧ R64 v.1 ∧ R64 v.2.1) := fun v hv => ⟨hch v hv, hr v hv⟩
  have HL : Hid (([] ++ listB valB xs).length ≤ 1000000000) := (by
    have := len_row hok hr
    unfold rowB at this
    rw [List.nil_append]; omega : _ ≤ _)
  have HA : Hid (∀ v' wr, Own w.heap.size wr v' ([] ++ (bytesOf xs.length ++ (xs.take xs.length).flatMap valB)) → Below w.heap.size w wr → NewAns (rowB xs) w (.returned v') wr) := fun v' wr h k => ⟨v', rfl, by rw [List.take_length, List.nil_append] at h; exact h, k⟩
  obtain ⟨n, hn⟩ : ∃ n, xs.length = n := ⟨_, rfl⟩
  have HI : Hid (∀ k b i wr, obInv w xs n k b i wr → ∃ j : Nat, j + k = n ∧ i = .int .i64 (j : Int) ∧ Own w.heap.size wr b ([] ++ (bytesOf xs.length ++ (xs.take j).flatMap valB)) ∧ Below w.heap.size w wr) := fun k b i wr h => h
  rw [hn] at HA hxs ⊢
  have HP := hid' (bytes_own w n (by omega))
  have HN := hid' hn
  clear hx hok hn hch hr
  go_enter Try.func43, Try.ntmps43
  go_wp2_with fail
  refine HP.out.mono ?_
  rintro e w2 ⟨v0, rfl, hown, hbel⟩
  have H0 : Hid (obInv w xs n n v0 (.int .i64 0) w2) := ⟨0, by omega, rfl, by rw [HN.out]; simpa using hown, hbel⟩
  clear hown hbel HP
  go_wp2
  go_loopg [3, 4] n (fun k b i wr => obInv w xs n k b i wr)
  case atStart => exact H0.out
  case round =>
    obtain ⟨j, hj, rfl, hown, hbel⟩ := HI.out _ _ _ _ hrel
    cases gk with
    | zero =>
      obtain rfl : j = n := by omega
      have HF := hid' (HA.out _ _ (by rw [HN.out] at hown; exact hown) hbel)
      clear hrel hown hbel
      go_wp2
      go_ret
      exact HF.out
    | succ k =>
      have hjl : j < xs.length := by rw [HN.out]; omega
      obtain ⟨b1, o1, rfl⟩ := SP.lt HX.out (by rintro rfl; simp at hjl)
      have hb1 : b1 < w.heap.size := by
        obtain ⟨b', off', e', _, hb', _⟩ := HX.out.cells (by rintro rfl; simp at hjl)
        cases e'; exact hb'
      have hx1 := SP.on HX.out hbel
      obtain ⟨c1, c2, c3⟩ := VP.at hx1 hjl
      obtain ⟨_, e2, e3⟩ := VP.at HX.out hjl
      have HC2 := hid' e2
      have HC3 := hid' e3
      have hjn : j < n := by omega
      clear e2 e3
      obtain ⟨hck, hR1, hR2⟩ := HOK.out _ (getD_mem (d := d0) hjl)
      have HST := hid' (flat_step valB xs [] j d0 hjl)
      have HLT := hid' (len_take valB xs [] j d0 hjl HL.out)
      have HB := hid' hbel
      have HO := hid' hown
      clear hown hbel hx1 hrel hjl
      generalize xs.getD j d0 = v at *
      obtain ⟨kd, z, st⟩ := v
      simp only at c1 c2 c3 hck hR1 hR2 HC2 HC3
      by_cases h0 : kd = 0
      · subst h0
        have HLEN : Hid (([] ++ (bytesOf xs.length ++ (xs.take j).flatMap valB)).length + (valB (0, z, st)).length ≤ 1000000000) := (by have := HLT.out; rw [List.length_append] at this; omega : _ ≤ _)
        have HP : Hid (∀ q W, Own w.heap.size W q (([] ++ (bytesOf xs.length ++ (xs.take j).flatMap valB)) ++ valB (0, z, st)) → Below w.heap.size w W → obInv w xs n k q (.int .i64 ((j : Int) + 1)) W) := fun q W h1 h2 => ⟨j + 1, by omega, by simp, by rw [← HST.out]; exact h1, h2⟩
        generalize ([] ++ (bytesOf xs.length ++ (xs.take j).flatMap valB)) = L at *
        have HS0 : Hid (obA w L z u3 [] wr.drew) := ⟨HB.out.drew, HO.out.below (Below.refl _ _).drew⟩
        clear HST HLT HB HO
        go_wp2_with fail
        refine PQ.wp_region_quiet (obVal u3 b1 o1 n rc j 1 (.int .i64 z)) (obA w L z u3) mixed' (by kernel_rfl) HS0.out ?_ ?_
        · refine ⟨?_, ?_, ?_, ?_, ?_, ?_, ?_, ?_, ?_, ?_, ?_, ?_, trivial⟩
          · intro vs A W hI hC
            exact ⟨PB.wanted_free rfl, run_moveD W (hC.fresh 11 _ 3 rfl rfl rfl)⟩
          · intro vs A W hk hI hC
            obtain rfl : vs = [] := List.length_eq_zero_iff.1 hk
            exact ⟨PB.wanted_free rfl, PQ.loud_value (run_bsB W) ⟨bel_alloc hI.1 _, hI.2.below ((Below.refl _ _).alloc (Nat.le_refl _) _), newB_one W 0⟩⟩
          · intro vs A W hk hI hC
            match vs, hk, hI, hC with
            | [p], _, hI, hC =>
              refine ⟨PB.wanted_free rfl, wp_appB (.tmp 21) (.tmp 22) rfl w.heap.size u3 _ (hC.left 0 rfl) hI.2.1 p _ (hC.left 1 rfl) hI.2.2 (by have := HLEN.out; unfold valB at this; simp at this ⊢; omega) hI.1.size ?_⟩
              intro v' w' h1 h2
              exact ⟨v', rfl, hI.1.trans (h2.below hI.1.size), h1⟩
          · intro vs A W hI hC
            exact ⟨PB.wanted_free rfl, run_moveD W (hC.outer 0 rfl)⟩
          · intro vs A W hI hC
            exact ⟨PB.wanted_free rfl, run_moveD W (hC.outer 4 rfl)⟩
          · intro vs A W hI hC
            exact ⟨PB.wanted_free rfl, run_ixR W (hC.left 3 rfl) (hC.left 4 rfl) hjn (by omega)⟩
          · intro vs A W hI hC
            exact ⟨PB.wanted_free rfl, run_faV1 W (hC.left 5 rfl)⟩
          · intro vs A W hI hC
            exact ⟨PB.wanted_free rfl, run_loadZ W (hC.left 6 rfl) ((hI.1.cell (p := ⟨b1, o1 + j * 3 + 1, none⟩) hb1).trans HC2.out)⟩
          · intro vs A W hk hI hC
            match vs, hk, hI, hC with
            | [p, q], _, hI, hC =>
              refine ⟨PB.wanted_free rfl, PQ.loud_call #[.int .i64 z] rfl Try.func69 rfl rfl (congrArg (fun x => [x]) (hC.left 7 rfl)) ?_⟩
              refine (signed_any z W hR2.1 hR2.2).mono ?_
              rintro e W2 ⟨rfl, rfl⟩
              exact ⟨_, rfl, hI.1, hI.2, rfl⟩
          · intro vs A W hk hI hC
            match vs, hk, hI, hC with
            | [p, q, r], _, hI, hC =>
              obtain ⟨hB, hO, rfl⟩ := hI
              refine ⟨PB.wanted_free rfl, PQ.loud_call #[.int .u64 (zig z)] rfl Try.func54 rfl rfl (congrArg (fun x => [x]) (hC.left 8 rfl)) ?_⟩
              obtain ⟨z0, z1⟩ := zig_range z hR2.1 hR2.2
              have hn : ((zig z).toNat : Int) = zig z := by omega
              have hb := bytes_own W (zig z).toNat (by omega)
              rw [hn] at hb
              refine hb.mono ?_
              rintro e W2 ⟨s, rfl, o1, k1⟩
              exact ⟨s, rfl, bel_trans' hB k1, hO.below k1, o1.newB (oneB_ne z)⟩
          · intro vs A W hk hI hC
            match vs, hk, hI, hC with
            | [p, q, r, s], _, hI, hC =>
              refine ⟨PB.wanted_free rfl, wp_appB (.tmp 23) (.tmp 30) rfl w.heap.size q _ (hC.left 2 rfl) hI.2.1 s _ (hC.left 9 rfl) hI.2.2 (by have := HLEN.out; unfold valB at this; simp at this ⊢; omega) hI.1.size ?_⟩
              intro v' w' h1 h2
              exact ⟨v', rfl, hI.1.trans (h2.below hI.1.size), h1⟩
          · intro vs A W hk hI hC
            match vs, hk, hI, hC with
            | [p, q, r, s, t], _, hI, hC =>
              exact ⟨PB.wanted_free rfl, PQ.loud_value (run_assD W (hC.left 10 rfl)) ⟨hI.1, rfl, hI.2⟩⟩
        · intro vs A W hk hI hE
          match vs, hk, hI, hE with
          | [p, q, r, s, t, u], _, hI, hE =>
            obtain ⟨hB, hr, hO⟩ := hI
            subst hr
            have H3 := hid' (HP.out _ W (by unfold valB; simpa [List.append_assoc] using hO) hB)
            clear hB hO HP HLEN HS0
            have h_21 : PB.slot A 21 = u3 := hE.left 0
            have h_22 : PB.slot A 22 = p := hE.left 1
            have h_23 : PB.slot A 23 = q := hE.left 2
            have h_24 : PB.slot A 24 = .slice (some ⟨b1, o1, none⟩) n rc := hE.left 3
            have h_25 : PB.slot A 25 = .int .i64 (j : Int) := hE.left 4
            have h_26 : PB.slot A 26 = .pointer (some ⟨b1, o1 + j * 3, none⟩) := hE.left 5
            have h_27 : PB.slot A 27 = .pointer (some ⟨b1, o1 + j * 3 + 1, none⟩) := hE.left 6
            have h_28 : PB.slot A 28 = .int .i64 z := hE.left 7
            have h_29 : PB.slot A 29 = r := hE.left 8
            have h_30 : PB.slot A 30 = s := hE.left 9
            have h_31 : PB.slot A 31 = u := hE.left 10
            have h_3 : PB.slot A 3 = u := hE.left 11
            have hA := PQ.frame_puts hE.defers hE.size [21, 22, 23, 24, 25, 26, 27, 28, 29, 30, 31, 3] (fun t ht => hE.outer t (by simp only [List.mem_cons, List.not_mem_nil, or_false, not_or] at ht; simp [PB.outer]; omega))
            obtain ⟨fr, hf⟩ : ∃ f, PB.slot A = f := ⟨_, rfl⟩
            rw [hA]
            simp only [PQ.puts]
            rw [hf] at h_21 h_22 h_23 h_24 h_25 h_26 h_27 h_28 h_29 h_30 h_31 h_3 ⊢
            clear hA hf hE
            simp only [h_21, h_22, h_23, h_24, h_25, h_26, h_27, h_28, h_29, h_30, h_31, h_3, Act.put, List.setIfInBounds_toArray, List.set_cons_succ, List.set_cons_zero]
            clear h_21 h_22 h_23 h_24 h_25 h_26 h_27 h_28 h_29 h_30 h_31 h_3
            go_wp2
            go_roundg k
            case measure => omega
            case rel => exact H3.out
      · have h1 : kd = 1 := by
          unfold chkV at hck
          simp only at hck
          by_cases h : kd = 1
          · exact h
          · rw [if_neg h, if_neg h0] at hck; omega
        subst h1
        have hst : st.size ≤ 1000000 := by
          unfold chkV at hck
          by_cases h : 4096 < st.size
          · simp [h] at hck
          · omega
        have HLEN : Hid (([] ++ (bytesOf xs.length ++ (xs.take j).flatMap valB)).length + (valB (1, z, st)).length ≤ 1000000000) := (by have := HLT.out; rw [List.length_append] at this; omega : _ ≤ _)
        have HP : Hid (∀ q W, Own w.heap.size W q (([] ++ (bytesOf xs.length ++ (xs.take j).flatMap valB)) ++ valB (1, z, st)) → Below w.heap.size w W → obInv w xs n k q (.int .i64 ((j : Int) + 1)) W) := fun q W h1 h2 => ⟨j + 1, by omega, by simp, by rw [← HST.out]; exact h1, h2⟩
        generalize ([] ++ (bytesOf xs.length ++ (xs.take j).flatMap valB)) = L at *
        have HS0 : Hid (obT w L st u3 [] wr.drew) := ⟨HB.out.drew, HO.out.below (Below.refl _ _).drew⟩
        clear HST HLT HB HO
        go_wp2_with fail
        refine PQ.wp_region_quiet (obVal u3 b1 o1 n rc j 2 (.string st)) (obT w L st u3) mixed' (by kernel_rfl) HS0.out ?_ ?_
        · refine ⟨?_, ?_, ?_, ?_, ?_, ?_, ?_, ?_, ?_, ?_, ?_, trivial⟩
          · intro vs A W hI hC
            exact ⟨PB.wanted_free rfl, run_moveD W (hC.fresh 10 _ 3 rfl rfl rfl)⟩
          · intro vs A W hk hI hC
            obtain rfl : vs = [] := List.length_eq_zero_iff.1 hk
            exact ⟨PB.wanted_free rfl, PQ.loud_value (run_bsB W) ⟨bel_alloc hI.1 _, hI.2.below ((Below.refl _ _).alloc (Nat.le_refl _) _), newB_one W 1⟩⟩
          · intro vs A W hk hI hC
            match vs, hk, hI, hC with
            | [p], _, hI, hC =>
              refine ⟨PB.wanted_free rfl, wp_appB (.tmp 32) (.tmp 33) rfl w.heap.size u3 _ (hC.left 0 rfl) hI.2.1 p _ (hC.left 1 rfl) hI.2.2 (by have := HLEN.out; unfold valB at this; simp at this ⊢; omega) hI.1.size ?_⟩
              intro v' w' h1 h2
              exact ⟨v', rfl, hI.1.trans (h2.below hI.1.size), h1⟩
          · intro vs A W hI hC
            exact ⟨PB.wanted_free rfl, run_moveD W (hC.outer 0 rfl)⟩
          · intro vs A W hI hC
            exact ⟨PB.wanted_free rfl, run_moveD W (hC.outer 4 rfl)⟩
          · intro vs A W hI hC
            exact ⟨PB.wanted_free rfl, run_ixR W (hC.left 3 rfl) (hC.left 4 rfl) hjn (by omega)⟩
          · intro vs A W hI hC
            exact ⟨PB.wanted_free rfl, run_faV2 W (hC.left 5 rfl)⟩
          · intro vs A W hI hC
            exact ⟨PB.wanted_free rfl, run_loadS W (hC.left 6 rfl) ((hI.1.cell (p := ⟨b1, o1 + j * 3 + 2, none⟩) hb1).trans HC3.out)⟩
          · intro vs A W hk hI hC
            match vs, hk, hI, hC with
            | [p, q], _, hI, hC =>
              refine ⟨PB.wanted_free rfl, PQ.loud_call #[.string st] rfl Try.func41 rfl rfl (congrArg (fun x => [x]) (hC.left 7 rfl)) ?_⟩
              refine (text_new W st hst).mono ?_
              rintro e W2 ⟨s, rfl, k1, g, c, rfl, o1⟩
              exact ⟨_, rfl, bel_trans' hI.1 k1, hI.2.below k1, NewB.of_bts o1 (strB_ne st)⟩
          · intro vs A W hk hI hC
            match vs, hk, hI, hC with
            | [p, q, s], _, hI, hC =>
              refine ⟨PB.wanted_free rfl, wp_appB (.tmp 34) (.tmp 40) rfl w.heap.size q _ (hC.left 2 rfl) hI.2.1 s _ (hC.left 8 rfl) hI.2.2 (by have := HLEN.out; unfold valB at this; simp at this ⊢; omega) hI.1.size ?_⟩
              intro v' w' h1 h2
              exact ⟨v', rfl, hI.1.trans (h2.below hI.1.size), h1⟩
          · intro vs A W hk hI hC
            match vs, hk, hI, hC with
            | [p, q, s, t], _, hI, hC =>
              exact ⟨PB.wanted_free rfl, PQ.loud_value (run_assD W (hC.left 9 rfl)) ⟨hI.1, rfl, hI.2⟩⟩
        · intro vs A W hk hI hE
          match vs, hk, hI, hE with
          | [p, q, s, t, u], _, hI, hE =>
            obtain ⟨hB, hr, hO⟩ := hI
            subst hr
            have H3 := hid' (HP.out _ W (by unfold valB; simpa [List.append_assoc] using hO) hB)
            clear hB hO HP HLEN HS0
            have h_32 : PB.slot A 32 = u3 := hE.left 0
            have h_33 : PB.slot A 33 = p := hE.left 1
            have h_34 : PB.slot A 34 = q := hE.left 2
            have h_35 : PB.slot A 35 = .slice (some ⟨b1, o1, none⟩) n rc := hE.left 3
            have h_36 : PB.slot A 36 = .int .i64 (j : Int) := hE.left 4
            have h_37 : PB.slot A 37 = .pointer (some ⟨b1, o1 + j * 3, none⟩) := hE.left 5
            have h_38 : PB.slot A 38 = .pointer (some ⟨b1, o1 + j * 3 + 2, none⟩) := hE.left 6
            have h_39 : PB.slot A 39 = .string st := hE.left 7
            have h_40 : PB.slot A 40 = s := hE.left 8
            have h_41 : PB.slot A 41 = u := hE.left 9
            have h_3 : PB.slot A 3 = u := hE.left 10
            have hA := PQ.frame_puts hE.defers hE.size [32, 33, 34, 35, 36, 37, 38, 39, 40, 41, 3] (fun t ht => hE.outer t (by simp only [List.mem_cons, List.not_mem_nil, or_false, not_or] at ht; simp [PB.outer]; omega))
            obtain ⟨fr, hf⟩ : ∃ f, PB.slot A = f := ⟨_, rfl⟩
            rw [hA]
            simp only [PQ.puts]
            rw [hf] at h_32 h_33 h_34 h_35 h_36 h_37 h_38 h_39 h_40 h_41 h_3 ⊢
            clear hA hf hE
            simp only [h_32, h_33, h_34, h_35, h_36, h_37, h_38, h_39, h_40, h_41, h_3, Act.put, List.setIfInBounds_toArray, List.set_cons_succ, List.set_cons_zero]
            clear h_32 h_33 h_34 h_35 h_36 h_37 h_38 h_39 h_40 h_41 h_3
            go_wp2
            go_roundg k
            case measure => omega
            case rel => exact H3.out

end Go.Proofs.Ytgalmkhgbokidaa

namespace Go.Proofs.Ytgalmkhgbokidaa
open Go.RowKit Go.Proofs
set_option maxRecDepth 20000
set_option linter.unusedVariables false
set_option linter.unusedSimpArgs false

theorem frB_ne (l : List T) : frontB l ≠ [] := by
  unfold frontB listB
  intro h
  have h1 := (List.append_eq_nil_iff.1 h).1
  have := sz_pos l.length
  rw [← length_bytesOf, h1] at this
  simp at this

theorem TS.told {P : Nat → Prop} {w : World} {c : Cm} {s : CmS} {v : Value} {l : List Int} {W : World} (h : TS P w c s v l W) (e : l = cmdB c) : NewAns (cmdB c) w (.returned v) W := ⟨v, rfl, by rw [← e]; exact h.own, h.below⟩
theorem TS.on {P : Nat → Prop} {w : World} {c : Cm} {s : CmS} {v : Value} {l : List Int} {W W' : World} (h : TS P w c s v l W) (hb : Below W.heap.size W W') : TS P w c s v l W' := ⟨h.own.below hb, h.byt, h.kb.trans (Kb.of_below hb), h.bx.keep hb, h.cm⟩

set_option maxHeartbeats 8000000 in
theorem rb0 (P : Nat → Prop) (w : World) (node : Int) (row : List V) (t1 t2 diff : Int) (front : List T) (fuel : Int) (sheet : List Int) (ra : Option Addr) (rc : Nat) (fa : Option Addr) (fc : Nat) (sa : Option Addr) (sc : Nat) (h : CmR P w ⟨0, node, row, (t1, t2), diff, front, fuel, sheet⟩ ⟨ra, rc, fa, fc, sa, sc⟩) (hn : CmN ⟨0, node, row, (t1, t2), diff, front, fuel, sheet⟩) (hc : chk ⟨0, node, row, (t1, t2), diff, front, fuel, sheet⟩ = 0) :
    Calls Try.prog 18 #[cmV ⟨0, node, row, (t1, t2), diff, front, fuel, sheet⟩ ⟨ra, rc, fa, fc, sa, sc⟩] w (NewAns (cmdB ⟨0, node, row, (t1, t2), diff, front, fuel, sheet⟩) w) := by
  have hlen := len_cmd hc hn
  have TS0 := hid' (TS.start h 0 (by omega))
  have RN := hid' hn.node
  have HBY := hid' h.byt
  have hcv := (BP.bts (SP.on h.sheet TS0.out.below) h.byt).conv sheet.length sc rfl
  have hsn : sheet.length ≤ 65536 := chk_sheet hc rfl
  have HT := hid' (fun W => text_new W (strOfNums sheet) (by rw [strOfNums_size]; omega))
  rw [nums_str HBY.out, strOfNums_size] at HT
  have HF : Hid (([0] ++ (bytesOf sheet.length ++ sheet)) = cmdB ⟨0, node, row, (t1, t2), diff, front, fuel, sheet⟩) := rfl
  have HLEN : Hid (([0] ++ (bytesOf sheet.length ++ sheet)).length ≤ 66000) := by unfold Hid; rw [HF.out]; exact hlen
  have HNE : Hid (bytesOf sheet.length ++ sheet ≠ []) := fun h => by
    have h1 := (List.append_eq_nil_iff.1 h).1
    have := sz_pos sheet.length
    rw [← length_bytesOf, h1] at this
    simp at this
  have HB2 : Hid (Byt (bytesOf sheet.length ++ sheet)) := Byt.app (bytesOf_range _) HBY.out
  obtain ⟨rb, hrb⟩ : ∃ r, bytesOf sheet.length ++ sheet = r := ⟨_, rfl⟩
  rw [hrb] at HT HF HLEN HNE HB2
  clear hrb
  unfold cmO at TS0 hcv
  unfold cmV
  unfold cmA at TS0 hcv ⊢
  simp only at TS0 hcv ⊢
  clear h hn hc hlen
  generalize strOfNums sheet = st at *
  go_enter Try.func18, Try.ntmps18
  go_wp2_with fail
  refine (HT.out _).mono ?_
  rintro e w1 ⟨u1, rfl, hb1, g1, c1, rfl, hbt1⟩
  obtain ⟨g1', c1', e1, hg1, hcell1⟩ := NewB.of_bts (c := c1) hbt1 HNE.out
  cases e1
  have HSR1 := hid' (Src.of_new (c := c1) hcell1)
  have TT1 := hid' (TS0.out.on hb1)
  have HLL1 : Hid (([0] : List Int).length + rb.length ≤ 1000000000) := (by have := HLEN.out; simp only [List.length_append] at this ⊢; omega : _ ≤ _)
  clear hcell1 hb1 hbt1 HT
  go_wp2_with (at_builtin; refine wpList_appB rfl (.tmp 11) (.tmp 15) rfl w.heap.size _ [0] rfl TT1.out.own (some ⟨g1, 0, none⟩) rb.length c1 rb rfl rfl HSR1.out HLL1.out TT1.out.size ?_; intro v1' w1' o1' k1')
  have TS1 := hid' (TT1.out.put o1' HB2.out k1')
  clear o1' k1' TT1 HSR1 HLL1
  have HR := hid' (TS1.out.told HF.out)
  clear TS1 HLEN HF
  go_wp2
  go_ret
  exact HR.out

set_option maxHeartbeats 8000000 in
theorem rb2 (P : Nat → Prop) (w : World) (node : Int) (row : List V) (t1 t2 diff : Int) (front : List T) (fuel : Int) (sheet : List Int) (ra : Option Addr) (rc : Nat) (fa : Option Addr) (fc : Nat) (sa : Option Addr) (sc : Nat) (h : CmR P w ⟨2, node, row, (t1, t2), diff, front, fuel, sheet⟩ ⟨ra, rc, fa, fc, sa, sc⟩) (hn : CmN ⟨2, node, row, (t1, t2), diff, front, fuel, sheet⟩) (hc : chk ⟨2, node, row, (t1, t2), diff, front, fuel, sheet⟩ = 0) :
    Calls Try.prog 18 #[cmV ⟨2, node, row, (t1, t2), diff, front, fuel, sheet⟩ ⟨ra, rc, fa, fc, sa, sc⟩] w (NewAns (cmdB ⟨2, node, row, (t1, t2), diff, front, fuel, sheet⟩) w) := by
  have hlen := len_cmd hc hn
  have TS0 := hid' (TS.start h 2 (by omega))
  have RN := hid' hn.node
  have RF := hid' hn.front
  have hfl : front.length ≤ 1000000 := by
    have h3 : front.length ≤ 16 := chk_front hc (by simp)
    omega
  have HF : Hid ((([2] ++ oneB node) ++ frontB front) = cmdB ⟨2, node, row, (t1, t2), diff, front, fuel, sheet⟩) := by unfold Hid; simp [cmdB, tailB]
  have HLEN : Hid (((([2] ++ oneB node) ++ frontB front)).length ≤ 66000) := by unfold Hid; rw [HF.out]; exact hlen
  unfold cmO at TS0
  unfold cmV
  unfold cmA at TS0 ⊢
  simp only at TS0 ⊢
  clear h hn hc hlen
  go_enter Try.func18, Try.ntmps18
  go_wp2_with fail
  refine (rone_any node _ RN.out).mono ?_
  rintro e w1 ⟨u1, rfl, o1, hb1⟩
  obtain ⟨g1, c1, rfl, hg1, hcell1⟩ := o1.newB (oneB_ne node)
  have HSR1 := hid' (Src.of_new (c := c1) hcell1)
  have TT1 := hid' (TS0.out.on hb1)
  have HLL1 : Hid (([2]).length + (oneB node).length ≤ 1000000000) := (by have := HLEN.out; simp only [List.length_append] at this ⊢; omega : _ ≤ _)
  clear o1 hcell1 hb1
  go_wp2_with (at_builtin; refine wpList_appB rfl (.tmp 17) (.tmp 20) rfl w.heap.size _ ([2]) rfl TT1.out.own (some ⟨g1, 0, none⟩) (oneB node).length c1 (oneB node) rfl rfl HSR1.out HLL1.out TT1.out.size ?_; intro v1' w1' o1' k1'; have TS1 := hid' (TT1.out.put o1' (byt_one _) k1'); have q1_0 : w1'.cell? ⟨w.heap.size, 0, none⟩ = some (.int .i64 2) := TS1.out.bx.cell 0; have q1_6 : w1'.cell? ⟨w.heap.size, 6, none⟩ = some (.slice fa front.length fc) := TS1.out.bx.cell 6)
  clear o1' k1' TT1 HSR1 HLL1
  go_wp2_with fail
  refine (rFront_any P _ fa fc front TS1.out.tp RF.out hfl).mono ?_
  rintro e w2 ⟨u2, rfl, o2, hb2⟩
  obtain ⟨g2, c2, rfl, hg2, hcell2⟩ := o2.newB (frB_ne front)
  have HSR2 := hid' (Src.of_new (c := c2) hcell2)
  have TT2 := hid' (TS1.out.on hb2)
  have HLL2 : Hid (([2] ++ oneB node).length + (frontB front).length ≤ 1000000000) := (by have := HLEN.out; simp only [List.length_append] at this ⊢; omega : _ ≤ _)
  clear o2 hcell2 hb2
  go_wp2_with (at_builtin; refine wpList_appB rfl (.tmp 45) (.tmp 48) rfl w.heap.size _ ([2] ++ oneB node) rfl TT2.out.own (some ⟨g2, 0, none⟩) (frontB front).length c2 (frontB front) rfl rfl HSR2.out HLL2.out TT2.out.size ?_; intro v2' w2' o2' k2'; have TS2 := hid' (TT2.out.put o2' (byt_front _) k2'))
  clear o2' k2' TT2 HSR2 HLL2
  have HR := hid' (TS2.out.told HF.out)
  clear TS2 HLEN HF
  go_wp2
  go_ret
  exact HR.out

set_option maxHeartbeats 8000000 in
theorem rb4 (P : Nat → Prop) (w : World) (node : Int) (row : List V) (t1 t2 diff : Int) (front : List T) (fuel : Int) (sheet : List Int) (ra : Option Addr) (rc : Nat) (fa : Option Addr) (fc : Nat) (sa : Option Addr) (sc : Nat) (h : CmR P w ⟨4, node, row, (t1, t2), diff, front, fuel, sheet⟩ ⟨ra, rc, fa, fc, sa, sc⟩) (hn : CmN ⟨4, node, row, (t1, t2), diff, front, fuel, sheet⟩) (hc : chk ⟨4, node, row, (t1, t2), diff, front, fuel, sheet⟩ = 0) :
    Calls Try.prog 18 #[cmV ⟨4, node, row, (t1, t2), diff, front, fuel, sheet⟩ ⟨ra, rc, fa, fc, sa, sc⟩] w (NewAns (cmdB ⟨4, node, row, (t1, t2), diff, front, fuel, sheet⟩) w) := by
  have hlen := len_cmd hc hn
  have TS0 := hid' (TS.start h 4 (by omega))
  have RN := hid' hn.node
  have RF := hid' hn.front
  have hfl : front.length ≤ 1000000 := by
    have h3 : front.length ≤ 16 := chk_front hc (by simp)
    omega
  have HF : Hid ((([4] ++ oneB node) ++ frontB front) = cmdB ⟨4, node, row, (t1, t2), diff, front, fuel, sheet⟩) := by unfold Hid; simp [cmdB, tailB]
  have HLEN : Hid (((([4] ++ oneB node) ++ frontB front)).length ≤ 66000) := by unfold Hid; rw [HF.out]; exact hlen
  unfold cmO at TS0
  unfold cmV
  unfold cmA at TS0 ⊢
  simp only at TS0 ⊢
  clear h hn hc hlen
  go_enter Try.func18, Try.ntmps18
  go_wp2_with fail
  refine (rone_any node _ RN.out).mono ?_
  rintro e w1 ⟨u1, rfl, o1, hb1⟩
  obtain ⟨g1, c1, rfl, hg1, hcell1⟩ := o1.newB (oneB_ne node)
  have HSR1 := hid' (Src.of_new (c := c1) hcell1)
  have TT1 := hid' (TS0.out.on hb1)
  have HLL1 : Hid (([4]).length + (oneB node).length ≤ 1000000000) := (by have := HLEN.out; simp only [List.length_append] at this ⊢; omega : _ ≤ _)
  clear o1 hcell1 hb1
  go_wp2_with (at_builtin; refine wpList_appB rfl (.tmp 17) (.tmp 20) rfl w.heap.size _ ([4]) rfl TT1.out.own (some ⟨g1, 0, none⟩) (oneB node).length c1 (oneB node) rfl rfl HSR1.out HLL1.out TT1.out.size ?_; intro v1' w1' o1' k1'; have TS1 := hid' (TT1.out.put o1' (byt_one _) k1'); have q1_0 : w1'.cell? ⟨w.heap.size, 0, none⟩ = some (.int .i64 4) := TS1.out.bx.cell 0; have q1_6 : w1'.cell? ⟨w.heap.size, 6, none⟩ = some (.slice fa front.length fc) := TS1.out.bx.cell 6)
  clear o1' k1' TT1 HSR1 HLL1
  go_wp2_with fail
  refine (rFront_any P _ fa fc front TS1.out.tp RF.out hfl).mono ?_
  rintro e w2 ⟨u2, rfl, o2, hb2⟩
  obtain ⟨g2, c2, rfl, hg2, hcell2⟩ := o2.newB (frB_ne front)
  have HSR2 := hid' (Src.of_new (c := c2) hcell2)
  have TT2 := hid' (TS1.out.on hb2)
  have HLL2 : Hid (([4] ++ oneB node).length + (frontB front).length ≤ 1000000000) := (by have := HLEN.out; simp only [List.length_append] at this ⊢; omega : _ ≤ _)
  clear o2 hcell2 hb2
  go_wp2_with (at_builtin; refine wpList_appB rfl (.tmp 45) (.tmp 48) rfl w.heap.size _ ([4] ++ oneB node) rfl TT2.out.own (some ⟨g2, 0, none⟩) (frontB front).length c2 (frontB front) rfl rfl HSR2.out HLL2.out TT2.out.size ?_; intro v2' w2' o2' k2'; have TS2 := hid' (TT2.out.put o2' (byt_front _) k2'))
  clear o2' k2' TT2 HSR2 HLL2
  have HR := hid' (TS2.out.told HF.out)
  clear TS2 HLEN HF
  go_wp2
  go_ret
  exact HR.out

set_option maxHeartbeats 8000000 in
theorem rb3 (P : Nat → Prop) (w : World) (node : Int) (row : List V) (t1 t2 diff : Int) (front : List T) (fuel : Int) (sheet : List Int) (ra : Option Addr) (rc : Nat) (fa : Option Addr) (fc : Nat) (sa : Option Addr) (sc : Nat) (h : CmR P w ⟨3, node, row, (t1, t2), diff, front, fuel, sheet⟩ ⟨ra, rc, fa, fc, sa, sc⟩) (hn : CmN ⟨3, node, row, (t1, t2), diff, front, fuel, sheet⟩) (hc : chk ⟨3, node, row, (t1, t2), diff, front, fuel, sheet⟩ = 0) :
    Calls Try.prog 18 #[cmV ⟨3, node, row, (t1, t2), diff, front, fuel, sheet⟩ ⟨ra, rc, fa, fc, sa, sc⟩] w (NewAns (cmdB ⟨3, node, row, (t1, t2), diff, front, fuel, sheet⟩) w) := by
  have hlen := len_cmd hc hn
  have TS0 := hid' (TS.start h 3 (by omega))
  have RN := hid' hn.node
  have RF := hid' hn.fuel
  have HF : Hid ((([3] ++ oneB node) ++ oneB fuel) = cmdB ⟨3, node, row, (t1, t2), diff, front, fuel, sheet⟩) := by unfold Hid; simp [cmdB, tailB]
  have HLEN : Hid (((([3] ++ oneB node) ++ oneB fuel)).length ≤ 66000) := by unfold Hid; rw [HF.out]; exact hlen
  unfold cmO at TS0
  unfold cmV
  unfold cmA at TS0 ⊢
  simp only at TS0 ⊢
  clear h hn hc hlen
  go_enter Try.func18, Try.ntmps18
  go_wp2_with fail
  refine (rone_any node _ RN.out).mono ?_
  rintro e w1 ⟨u1, rfl, o1, hb1⟩
  obtain ⟨g1, c1, rfl, hg1, hcell1⟩ := o1.newB (oneB_ne node)
  have HSR1 := hid' (Src.of_new (c := c1) hcell1)
  have TT1 := hid' (TS0.out.on hb1)
  have HLL1 : Hid (([3]).length + (oneB node).length ≤ 1000000000) := (by have := HLEN.out; simp only [List.length_append] at this ⊢; omega : _ ≤ _)
  clear o1 hcell1 hb1
  go_wp2_with (at_builtin; refine wpList_appB rfl (.tmp 17) (.tmp 20) rfl w.heap.size _ ([3]) rfl TT1.out.own (some ⟨g1, 0, none⟩) (oneB node).length c1 (oneB node) rfl rfl HSR1.out HLL1.out TT1.out.size ?_; intro v1' w1' o1' k1'; have TS1 := hid' (TT1.out.put o1' (byt_one _) k1'); have q1_0 : w1'.cell? ⟨w.heap.size, 0, none⟩ = some (.int .i64 3) := TS1.out.bx.cell 0; have q1_7 : w1'.cell? ⟨w.heap.size, 7, none⟩ = some (.int .i64 fuel) := TS1.out.bx.cell 7)
  clear o1' k1' TT1 HSR1 HLL1
  go_wp2_with fail
  refine (rone_any fuel _ RF.out).mono ?_
  rintro e w2 ⟨u2, rfl, o2, hb2⟩
  obtain ⟨g2, c2, rfl, hg2, hcell2⟩ := o2.newB (oneB_ne fuel)
  have HSR2 := hid' (Src.of_new (c := c2) hcell2)
  have TT2 := hid' (TS1.out.on hb2)
  have HLL2 : Hid (([3] ++ oneB node).length + (oneB fuel).length ≤ 1000000000) := (by have := HLEN.out; simp only [List.length_append] at this ⊢; omega : _ ≤ _)
  clear o2 hcell2 hb2
  go_wp2_with (at_builtin; refine wpList_appB rfl (.tmp 52) (.tmp 55) rfl w.heap.size _ ([3] ++ oneB node) rfl TT2.out.own (some ⟨g2, 0, none⟩) (oneB fuel).length c2 (oneB fuel) rfl rfl HSR2.out HLL2.out TT2.out.size ?_; intro v2' w2' o2' k2'; have TS2 := hid' (TT2.out.put o2' (byt_one _) k2'))
  clear o2' k2' TT2 HSR2 HLL2
  have HR := hid' (TS2.out.told HF.out)
  clear TS2 HLEN HF
  go_wp2
  go_ret
  exact HR.out

set_option maxHeartbeats 8000000 in
theorem rb5 (P : Nat → Prop) (w : World) (node : Int) (row : List V) (t1 t2 diff : Int) (front : List T) (fuel : Int) (sheet : List Int) (ra : Option Addr) (rc : Nat) (fa : Option Addr) (fc : Nat) (sa : Option Addr) (sc : Nat) (h : CmR P w ⟨5, node, row, (t1, t2), diff, front, fuel, sheet⟩ ⟨ra, rc, fa, fc, sa, sc⟩) (hn : CmN ⟨5, node, row, (t1, t2), diff, front, fuel, sheet⟩) (hc : chk ⟨5, node, row, (t1, t2), diff, front, fuel, sheet⟩ = 0) :
    Calls Try.prog 18 #[cmV ⟨5, node, row, (t1, t2), diff, front, fuel, sheet⟩ ⟨ra, rc, fa, fc, sa, sc⟩] w (NewAns (cmdB ⟨5, node, row, (t1, t2), diff, front, fuel, sheet⟩) w) := by
  have hlen := len_cmd hc hn
  have TS0 := hid' (TS.start h 5 (by omega))
  have RN := hid' hn.node
  have RF := hid' hn.time
  have HF : Hid ((([5] ++ oneB node) ++ timeB (t1, t2)) = cmdB ⟨5, node, row, (t1, t2), diff, front, fuel, sheet⟩) := by unfold Hid; simp [cmdB, tailB]
  have HLEN : Hid (((([5] ++ oneB node) ++ timeB (t1, t2))).length ≤ 66000) := by unfold Hid; rw [HF.out]; exact hlen
  unfold cmO at TS0
  unfold cmV
  unfold cmA at TS0 ⊢
  simp only at TS0 ⊢
  clear h hn hc hlen
  go_enter Try.func18, Try.ntmps18
  go_wp2_with fail
  refine (rone_any node _ RN.out).mono ?_
  rintro e w1 ⟨u1, rfl, o1, hb1⟩
  obtain ⟨g1, c1, rfl, hg1, hcell1⟩ := o1.newB (oneB_ne node)
  have HSR1 := hid' (Src.of_new (c := c1) hcell1)
  have TT1 := hid' (TS0.out.on hb1)
  have HLL1 : Hid (([5]).length + (oneB node).length ≤ 1000000000) := (by have := HLEN.out; simp only [List.length_append] at this ⊢; omega : _ ≤ _)
  clear o1 hcell1 hb1
  go_wp2_with (at_builtin; refine wpList_appB rfl (.tmp 17) (.tmp 20) rfl w.heap.size _ ([5]) rfl TT1.out.own (some ⟨g1, 0, none⟩) (oneB node).length c1 (oneB node) rfl rfl HSR1.out HLL1.out TT1.out.size ?_; intro v1' w1' o1' k1'; have TS1 := hid' (TT1.out.put o1' (byt_one _) k1'); have q1_0 : w1'.cell? ⟨w.heap.size, 0, none⟩ = some (.int .i64 5) := TS1.out.bx.cell 0; have q1_3 : w1'.cell? ⟨w.heap.size, 3, none⟩ = some (.int .i64 t1) := TS1.out.bx.cell 3; have q1_4 : w1'.cell? ⟨w.heap.size, 4, none⟩ = some (.int .i64 t2) := TS1.out.bx.cell 4)
  clear o1' k1' TT1 HSR1 HLL1
  go_wp2_with fail
  refine (rtime_any (t1, t2) _ RF.out).mono ?_
  rintro e w2 ⟨u2, rfl, o2, hb2⟩
  obtain ⟨g2, c2, rfl, hg2, hcell2⟩ := o2.newB (timeB_ne (t1, t2))
  have HSR2 := hid' (Src.of_new (c := c2) hcell2)
  have TT2 := hid' (TS1.out.on hb2)
  have HLL2 : Hid (([5] ++ oneB node).length + (timeB (t1, t2)).length ≤ 1000000000) := (by have := HLEN.out; simp only [List.length_append] at this ⊢; omega : _ ≤ _)
  clear o2 hcell2 hb2
  go_wp2_with (at_builtin; refine wpList_appB rfl (.tmp 59) (.tmp 63) rfl w.heap.size _ ([5] ++ oneB node) rfl TT2.out.own (some ⟨g2, 0, none⟩) (timeB (t1, t2)).length c2 (timeB (t1, t2)) rfl rfl HSR2.out HLL2.out TT2.out.size ?_; intro v2' w2' o2' k2'; have TS2 := hid' (TT2.out.put o2' (byt_time _) k2'))
  clear o2' k2' TT2 HSR2 HLL2
  have HR := hid' (TS2.out.told HF.out)
  clear TS2 HLEN HF
  go_wp2
  go_ret
  exact HR.out

set_option maxHeartbeats 8000000 in
theorem rb6 (P : Nat → Prop) (w : World) (node : Int) (row : List V) (t1 t2 diff : Int) (front : List T) (fuel : Int) (sheet : List Int) (ra : Option Addr) (rc : Nat) (fa : Option Addr) (fc : Nat) (sa : Option Addr) (sc : Nat) (h : CmR P w ⟨6, node, row, (t1, t2), diff, front, fuel, sheet⟩ ⟨ra, rc, fa, fc, sa, sc⟩) (hn : CmN ⟨6, node, row, (t1, t2), diff, front, fuel, sheet⟩) (hc : chk ⟨6, node, row, (t1, t2), diff, front, fuel, sheet⟩ = 0) :
    Calls Try.prog 18 #[cmV ⟨6, node, row, (t1, t2), diff, front, fuel, sheet⟩ ⟨ra, rc, fa, fc, sa, sc⟩] w (NewAns (cmdB ⟨6, node, row, (t1, t2), diff, front, fuel, sheet⟩) w) := by
  have hlen := len_cmd hc hn
  have TS0 := hid' (TS.start h 6 (by omega))
  have RN := hid' hn.node
  have HF : Hid (([6] ++ oneB node) = cmdB ⟨6, node, row, (t1, t2), diff, front, fuel, sheet⟩) := by unfold Hid; simp [cmdB, tailB]
  have HLEN : Hid ((([6] ++ oneB node)).length ≤ 66000) := by unfold Hid; rw [HF.out]; exact hlen
  unfold cmO at TS0
  unfold cmV
  unfold cmA at TS0 ⊢
  simp only at TS0 ⊢
  clear h hn hc hlen
  go_enter Try.func18, Try.ntmps18
  go_wp2_with fail
  refine (rone_any node _ RN.out).mono ?_
  rintro e w1 ⟨u1, rfl, o1, hb1⟩
  obtain ⟨g1, c1, rfl, hg1, hcell1⟩ := o1.newB (oneB_ne node)
  have HSR1 := hid' (Src.of_new (c := c1) hcell1)
  have TT1 := hid' (TS0.out.on hb1)
  have HLL1 : Hid (([6]).length + (oneB node).length ≤ 1000000000) := (by have := HLEN.out; simp only [List.length_append] at this ⊢; omega : _ ≤ _)
  clear o1 hcell1 hb1
  go_wp2_with (at_builtin; refine wpList_appB rfl (.tmp 17) (.tmp 20) rfl w.heap.size _ ([6]) rfl TT1.out.own (some ⟨g1, 0, none⟩) (oneB node).length c1 (oneB node) rfl rfl HSR1.out HLL1.out TT1.out.size ?_; intro v1' w1' o1' k1'; have TS1 := hid' (TT1.out.put o1' (byt_one _) k1'); have q1_0 : w1'.cell? ⟨w.heap.size, 0, none⟩ = some (.int .i64 6) := TS1.out.bx.cell 0)
  clear o1' k1' TT1 HSR1 HLL1
  have HR := hid' (TS1.out.told HF.out)
  clear TS1 HLEN HF
  go_wp2
  go_ret
  exact HR.out

def cb1Val (bv : Value) (g : Nat) (ra : Option Addr) (rn rc : Nat) (t1 t2 diff : Int) (i : Nat) : Option Value :=
  [some bv, some (.pointer (some ⟨g, 2, none⟩)), some (.pointer (some ⟨g, 2, none⟩)), some (.slice ra rn rc), none, none, some (.pointer (some ⟨g, 2, none⟩)), some (.pointer (some ⟨g, 3, none⟩)), some (.agg #[.int .i64 t1, .int .i64 t2]), none, none, some (.pointer (some ⟨g, 2, none⟩)), some (.pointer (some ⟨g, 5, none⟩)), some (.int .i64 diff), none, none, none].getD i none

/-- What holds while an insert's fields are put. -/
def cb1Inv (P : Nat → Prop) (w : World) (c : Cm) (s : CmS) (L : List Int) (bv : Value) (vs : List Value) (W : World) : Prop :=
  match vs with
    | [] => TS P w c s bv L W
    | [p] => TS P w c s bv L W ∧ NewB (rowB c.row) p W
    | [_, q] => TS P w c s q (L ++ rowB c.row) W
    | [_, q, r] => TS P w c s q (L ++ rowB c.row) W ∧ NewB (timeB c.time) r W
    | [_, _, _, t] => TS P w c s t ((L ++ rowB c.row) ++ timeB c.time) W
    | [_, _, _, t, u] => TS P w c s t ((L ++ rowB c.row) ++ timeB c.time) W ∧ NewB (oneB c.diff) u W
    | [_, _, _, _, _, x] => TS P w c s x (((L ++ rowB c.row) ++ timeB c.time) ++ oneB c.diff) W
    | [_, _, _, _, _, x, y] => y = x ∧ TS P w c s x (((L ++ rowB c.row) ++ timeB c.time) ++ oneB c.diff) W
    | _ => False

theorem cb1Inv.bx {P : Nat → Prop} {w : World} {c : Cm} {s : CmS} {L : List Int} {bv : Value} {vs : List Value} {W : World} (h : cb1Inv P w c s L bv vs W) : Bx W w.heap.size (cmA c s) 31 := by
  unfold cb1Inv at h
  split at h
  · exact h.bx
  · exact h.1.bx
  · exact h.bx
  · exact h.1.bx
  · exact h.bx
  · exact h.1.bx
  · exact h.bx
  · exact h.2.bx
  · exact h.elim

theorem rowB_ne (l : List V) : rowB l ≠ [] := by
  unfold rowB listB
  intro h
  have h1 := (List.append_eq_nil_iff.1 h).1
  have := sz_pos l.length
  rw [← length_bytesOf, h1] at this
  simp at this

set_option maxHeartbeats 8000000 in
theorem rb1 (P : Nat → Prop) (w : World) (node : Int) (row : List V) (t1 t2 diff : Int) (front : List T) (fuel : Int) (sheet : List Int) (ra : Option Addr) (rc : Nat) (fa : Option Addr) (fc : Nat) (sa : Option Addr) (sc : Nat) (h : CmR P w ⟨1, node, row, (t1, t2), diff, front, fuel, sheet⟩ ⟨ra, rc, fa, fc, sa, sc⟩) (hn : CmN ⟨1, node, row, (t1, t2), diff, front, fuel, sheet⟩) (hc : chk ⟨1, node, row, (t1, t2), diff, front, fuel, sheet⟩ = 0) :
    Calls Try.prog 18 #[cmV ⟨1, node, row, (t1, t2), diff, front, fuel, sheet⟩ ⟨ra, rc, fa, fc, sa, sc⟩] w (NewAns (cmdB ⟨1, node, row, (t1, t2), diff, front, fuel, sheet⟩) w) := by
  have hlen := len_cmd hc hn
  have TS0 := hid' (TS.start h 1 (by omega))
  have RN := hid' hn.node
  have hrow : chkR row = 0 := chk_row hc rfl
  have RR := hid' hn.row
  have RT' := hid' hn.time
  have RD := hid' hn.diff
  have HF : Hid ((((([1] ++ oneB node) ++ rowB row) ++ timeB (t1, t2)) ++ oneB diff) = cmdB ⟨1, node, row, (t1, t2), diff, front, fuel, sheet⟩) := by unfold Hid; simp [cmdB, tailB]
  have HLEN : Hid ((((([1] ++ oneB node) ++ rowB row) ++ timeB (t1, t2)) ++ oneB diff).length ≤ 66000) := by unfold Hid; rw [HF.out]; exact hlen
  unfold cmO at TS0
  unfold cmV
  unfold cmA at TS0 ⊢
  simp only at TS0 ⊢
  clear h hn hc hlen
  go_enter Try.func18, Try.ntmps18
  go_wp2_with fail
  refine (rone_any node _ RN.out).mono ?_
  rintro e w1 ⟨u1, rfl, o1, hb1⟩
  obtain ⟨g1, c1, rfl, hg1, hcell1⟩ := o1.newB (oneB_ne node)
  have HSR1 := hid' (Src.of_new (c := c1) hcell1)
  have TT1 := hid' (TS0.out.on hb1)
  have HLL1 : Hid (([1]).length + (oneB node).length ≤ 1000000000) := (by have := HLEN.out; simp only [List.length_append] at this ⊢; omega : _ ≤ _)
  clear o1 hcell1 hb1
  go_wp2_with (at_builtin; refine wpList_appB rfl (.tmp 17) (.tmp 20) rfl w.heap.size _ ([1]) rfl TT1.out.own (some ⟨g1, 0, none⟩) (oneB node).length c1 (oneB node) rfl rfl HSR1.out HLL1.out TT1.out.size ?_; intro v1' w1' o1' k1'; have TS1 := hid' (TT1.out.put o1' (byt_one _) k1'); have q1_0 : w1'.cell? ⟨w.heap.size, 0, none⟩ = some (.int .i64 1) := TS1.out.bx.cell 0)
  clear o1' k1' TT1 HSR1 HLL1
  have HS0 : Hid (cb1Inv P w ⟨1, node, row, (t1, t2), diff, front, fuel, sheet⟩ ⟨ra, rc, fa, fc, sa, sc⟩ ([1] ++ oneB node) v1' [] w1'.drew) := TS1.out.on (Below.refl _ _).drew
  have HL2 := hid' HLEN.out
  simp only [List.length_append] at HL2
  clear TS1
  go_wp2_with fail
  refine PQ.wp_region_quiet (cb1Val v1' w.heap.size ra row.length rc t1 t2 diff) (cb1Inv P w ⟨1, node, row, (t1, t2), diff, front, fuel, sheet⟩ ⟨ra, rc, fa, fc, sa, sc⟩ ([1] ++ oneB node) v1') mixed' (by kernel_rfl) HS0.out ?_ ?_
  · refine ⟨?_, ?_, ?_, ?_, ?_, ?_, ?_, ?_, ?_, ?_, ?_, ?_, ?_, ?_, ?_, ?_, ?_, trivial⟩
    · intro vs A W hI hC
      exact ⟨PB.wanted_free rfl, run_moveD W (hC.fresh 16 _ 3 rfl rfl rfl)⟩
    · intro vs A W hI hC
      exact ⟨PB.wanted_free rfl, run_faCmd2 W (hC.outer 1 rfl)⟩
    · intro vs A W hI hC
      exact ⟨PB.wanted_free rfl, run_faUp0 W (hC.left 1 rfl)⟩
    · intro vs A W hI hC
      exact ⟨PB.wanted_free rfl, run_loadRw W (hC.left 2 rfl) (hI.bx.cell 2)⟩
    · intro vs A W hk hI hC
      match vs, hk, hI, hC with
      | [], _, hI, hC =>
        refine ⟨PB.wanted_free rfl, PQ.loud_call #[.slice ra row.length rc] rfl Try.func43 rfl rfl (congrArg (fun x => [x]) (hC.left 3 rfl)) ?_⟩
        refine (oBytes_any P W ra rc row (TS.vp hI) hrow RR.out).mono ?_
        rintro e W2 ⟨z, rfl, oz, kz⟩
        exact ⟨z, rfl, TS.on hI kz, oz.newB (rowB_ne row)⟩
    · intro vs A W hk hI hC
      match vs, hk, hI, hC with
      | [p], _, hI, hC =>
        refine ⟨PB.wanted_free rfl, wp_appB (.tmp 26) (.tmp 30) rfl w.heap.size v1' _ (hC.left 0 rfl) hI.1.own _ _ (hC.left 4 rfl) hI.2 (by have := HL2.out; simp only [List.length_append]; omega) hI.1.size ?_⟩
        intro v' w' h1 h2
        exact ⟨v', rfl, hI.1.put h1 (byt_row _ hrow) h2⟩
    · intro vs A W hI hC
      exact ⟨PB.wanted_free rfl, run_faCmd2 W (hC.outer 1 rfl)⟩
    · intro vs A W hI hC
      exact ⟨PB.wanted_free rfl, run_faUp1 W (hC.left 6 rfl)⟩
    · intro vs A W hI hC
      exact ⟨PB.wanted_free rfl, run_loadT W (hC.left 7 rfl) (hI.bx.cell 3) (hI.bx.cell 4)⟩
    · intro vs A W hk hI hC
      match vs, hk, hI, hC with
      | [p, q], _, hI, hC =>
        refine ⟨PB.wanted_free rfl, PQ.loud_call #[.agg #[.int .i64 t1, .int .i64 t2]] rfl Try.func44 rfl rfl (congrArg (fun x => [x]) (hC.left 8 rfl)) ?_⟩
        refine (rtime_any (t1, t2) W RT'.out).mono ?_
        rintro e W2 ⟨z, rfl, oz, kz⟩
        exact ⟨z, rfl, TS.on hI kz, oz.newB (timeB_ne (t1, t2))⟩
    · intro vs A W hk hI hC
      match vs, hk, hI, hC with
      | [p, q, r], _, hI, hC =>
        refine ⟨PB.wanted_free rfl, wp_appB (.tmp 31) (.tmp 35) rfl w.heap.size q _ (hC.left 5 rfl) hI.1.own _ _ (hC.left 9 rfl) hI.2 (by have := HL2.out; simp only [List.length_append]; omega) hI.1.size ?_⟩
        intro v' w' h1 h2
        exact ⟨v', rfl, hI.1.put h1 (byt_time _) h2⟩
    · intro vs A W hI hC
      exact ⟨PB.wanted_free rfl, run_faCmd2 W (hC.outer 1 rfl)⟩
    · intro vs A W hI hC
      exact ⟨PB.wanted_free rfl, run_faUp2 W (hC.left 11 rfl)⟩
    · intro vs A W hI hC
      exact ⟨PB.wanted_free rfl, run_loadZ W (hC.left 12 rfl) (hI.bx.cell 5)⟩
    · intro vs A W hk hI hC
      match vs, hk, hI, hC with
      | [p, q, r, t], _, hI, hC =>
        refine ⟨PB.wanted_free rfl, PQ.loud_call #[.int .i64 diff] rfl Try.func42 rfl rfl (congrArg (fun x => [x]) (hC.left 13 rfl)) ?_⟩
        refine (rone_any diff W RD.out).mono ?_
        rintro e W2 ⟨z, rfl, oz, kz⟩
        exact ⟨z, rfl, TS.on hI kz, oz.newB (oneB_ne diff)⟩
    · intro vs A W hk hI hC
      match vs, hk, hI, hC with
      | [p, q, r, t, u], _, hI, hC =>
        refine ⟨PB.wanted_free rfl, wp_appB (.tmp 36) (.tmp 40) rfl w.heap.size t _ (hC.left 10 rfl) hI.1.own _ _ (hC.left 14 rfl) hI.2 (by have := HL2.out; simp only [List.length_append]; omega) hI.1.size ?_⟩
        intro v' w' h1 h2
        exact ⟨v', rfl, hI.1.put h1 (byt_one _) h2⟩
    · intro vs A W hk hI hC
      match vs, hk, hI, hC with
      | [p, q, r, t, u, x], _, hI, hC =>
        exact ⟨PB.wanted_free rfl, PQ.loud_value (run_assD W (hC.left 15 rfl)) ⟨rfl, hI⟩⟩
  · intro vs A W hk hI hE
    match vs, hk, hI, hE with
    | [p, q, r, t, u, x, y], _, hI, hE =>
      obtain ⟨hr, hT⟩ := hI
      subst hr
      have TS2 := hid' hT
      clear hT HS0 HL2
      have h_26 : PB.slot A 26 = v1' := hE.left 0
      have h_27 : PB.slot A 27 = .pointer (some ⟨w.heap.size, 2, none⟩) := hE.left 1
      have h_28 : PB.slot A 28 = .pointer (some ⟨w.heap.size, 2, none⟩) := hE.left 2
      have h_29 : PB.slot A 29 = .slice ra row.length rc := hE.left 3
      have h_30 : PB.slot A 30 = p := hE.left 4
      have h_31 : PB.slot A 31 = q := hE.left 5
      have h_32 : PB.slot A 32 = .pointer (some ⟨w.heap.size, 2, none⟩) := hE.left 6
      have h_33 : PB.slot A 33 = .pointer (some ⟨w.heap.size, 3, none⟩) := hE.left 7
      have h_34 : PB.slot A 34 = .agg #[.int .i64 t1, .int .i64 t2] := hE.left 8
      have h_35 : PB.slot A 35 = r := hE.left 9
      have h_36 : PB.slot A 36 = t := hE.left 10
      have h_37 : PB.slot A 37 = .pointer (some ⟨w.heap.size, 2, none⟩) := hE.left 11
      have h_38 : PB.slot A 38 = .pointer (some ⟨w.heap.size, 5, none⟩) := hE.left 12
      have h_39 : PB.slot A 39 = .int .i64 diff := hE.left 13
      have h_40 : PB.slot A 40 = u := hE.left 14
      have h_41 : PB.slot A 41 = y := hE.left 15
      have h_3 : PB.slot A 3 = y := hE.left 16
      have hA := PQ.frame_puts hE.defers hE.size [26, 27, 28, 29, 30, 31, 32, 33, 34, 35, 36, 37, 38, 39, 40, 41, 3] (fun t ht => hE.outer t (by simp only [List.mem_cons, List.not_mem_nil, or_false, not_or] at ht; simp [PB.outer]; omega))
      obtain ⟨fr, hf⟩ : ∃ f, PB.slot A = f := ⟨_, rfl⟩
      rw [hA]
      simp only [PQ.puts]
      rw [hf] at h_26 h_27 h_28 h_29 h_30 h_31 h_32 h_33 h_34 h_35 h_36 h_37 h_38 h_39 h_40 h_41 h_3 ⊢
      clear hA hf hE
      simp only [h_26, h_27, h_28, h_29, h_30, h_31, h_32, h_33, h_34, h_35, h_36, h_37, h_38, h_39, h_40, h_41, h_3, Act.put, List.setIfInBounds_toArray, List.set_cons_succ, List.set_cons_zero]
      clear h_26 h_27 h_28 h_29 h_30 h_31 h_32 h_33 h_34 h_35 h_36 h_37 h_38 h_39 h_40 h_41 h_3
      have HR := hid' (TS2.out.told HF.out)
      clear TS2 HLEN HF
      go_wp2
      go_ret
      exact HR.out

theorem rBytes_any (P : Nat → Prop) (w : World) (c : Cm) (s : CmS) (h : CmR P w c s) (hn : CmN c) (hc : chk c = 0) : Calls Try.prog 18 #[cmV c s] w (NewAns (cmdB c) w) := by
  obtain ⟨l0, l1⟩ := chk_lo hc
  obtain ⟨op, node, row, ⟨t1, t2⟩, diff, front, fuel, sheet⟩ := c
  obtain ⟨ra, rc, fa, fc, sa, sc⟩ := s
  simp only at l0 l1
  rcases op_cases l0 l1 with rfl | rfl | rfl | rfl | rfl | rfl | rfl
  · exact rb0 P w node row t1 t2 diff front fuel sheet ra rc fa fc sa sc h hn hc
  · exact rb1 P w node row t1 t2 diff front fuel sheet ra rc fa fc sa sc h hn hc
  · exact rb2 P w node row t1 t2 diff front fuel sheet ra rc fa fc sa sc h hn hc
  · exact rb3 P w node row t1 t2 diff front fuel sheet ra rc fa fc sa sc h hn hc
  · exact rb4 P w node row t1 t2 diff front fuel sheet ra rc fa fc sa sc h hn hc
  · exact rb5 P w node row t1 t2 diff front fuel sheet ra rc fa fc sa sc h hn hc
  · exact rb6 P w node row t1 t2 diff front fuel sheet ra rc fa fc sa sc h hn hc

end Go.Proofs.Ytgalmkhgbokidaa
