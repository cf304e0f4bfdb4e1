/-
  What is proved here: the document's numbers and GetFront.
  What is proved here: the document's GetFront.
  What is proved here: the document's Get of rows.
-/
import Derived.Test.YtgalmkhgbokidaaMgI
import Derived.Test.YtgalmkhgbokidaaMgH

namespace Go.Proofs.Ytgalmkhgbokidaa
open Go.RowKit Go.Proofs
set_option maxRecDepth 20000
set_option linter.unusedVariables false
set_option linter.unusedSimpArgs false

def cI (z : Int) : List Value := [.int .i64 z]
theorem cI_len (x : Int) : (cI x).length = 1 := rfl
def IP := SP 1 cI 0

theorem IP.at {P : Nat → Prop} {w : World} {b off i : Nat} {l : List Int} (h : IP P w (some ⟨b, off, none⟩) l) (hi : i < l.length) : w.cell? ⟨b, off + i, none⟩ = some (.int .i64 (l.getD i 0)) := by
  obtain ⟨b', off', e, _, _, hc⟩ := h.cells (by rintro rfl; simp at hi)
  cases e
  have := hc i 0 hi (by omega)
  simpa [cI] using this

theorem Try.info3 : (Try.prog.info? 3).map (fun i => (i.zero, i.size, i.bytes)) = some (some (.int .i64 0), 1, 8) := by kernel_rfl

/-- A list that a call has made, of elements of k cells. -/
def OwnL {α : Type} (e k : Nat) (cs : α → List Value) (base : Nat) (w : World) (v : Value) (l : List α) : Prop := w.ownsRow base e k v l.length (l.flatMap cs)

theorem OwnL.nil {α : Type} {e k : Nat} {cs : α → List Value} {base : Nat} {w : World} : OwnL e k cs base w (.slice none 0 0) ([] : List α) := ⟨by simp, .inl ⟨rfl, rfl⟩⟩
theorem OwnL.below {α : Type} {e k : Nat} {cs : α → List Value} {base : Nat} {w w' : World} {v : Value} {l : List α} (h : OwnL e k cs base w v l) (hb : Below w.heap.size w w') : OwnL e k cs base w' v l := owns_below h hb

/-- One element more, which lies in a block of its own. -/
theorem wpList_app1 {α : Type} {w : World} {ops : Array Oper} {rest : List Oper} {o : Oper} {a : Act} {Q : Exit → Act → World → Prop} (t e k bytes : Nat) (z : Value) (i : TypeInfo) (cs : α → List Value) (hcs : ∀ x, (cs x).length = k) (hone : ∀ x, ∀ u ∈ cs x, u.oneCell' = true) (hgd : o.guard = none) (s x : Operand)
    (ho : o.op = .call { callee := .builtin .append, args := #[s, x], argTypes := #[t, t] }) (ht : Try.prog.underlying t = some (.slice e)) (hi : Try.prog.info? e = some i) (hz : i.zero = some z) (hsize : i.size = k) (hby : i.bytes = bytes) (hzs : z.cells.size = k) (hk : 0 < k)
    (base : Nat) (v : Value) (l : List α) (hs : a.eval s = v) (hown : OwnL e k cs base w v l) (g c : Nat) (y : α) (hx : a.eval x = .slice (some ⟨g, 0, none⟩) 1 c) (hy : Bx w g (cs y).toArray e) (hlen : l.length ≤ 100000) (hbyt : bytes ≤ 1000) (hbase : base ≤ w.heap.size)
    (h : ∀ v' w', OwnL e k cs base w' v' (l ++ [y]) → w.grownBy w' v.ownBlock → wpList Try.prog ops Q rest (a.put o.dst v') w') : wpList Try.prog ops Q (o :: rest) a w := by
  have hmul : (l.length + 1) * bytes ≤ 140737488355328 := Nat.le_trans (Nat.mul_le_mul (show l.length + 1 ≤ 100001 by omega) hbyt) (by omega)
  refine wpList_append_own w hgd s x t ho base e i z k bytes ht hi hz hsize hby hzs hk v l.length (l.flatMap cs) hs hown ⟨g, 0, none⟩ 1 c (cs y) hx (by rw [hcs]; omega) (fun j u hj => ?_) (hone y) (by unfold maxLen; omega) hmul hbase (fun v' w' h1 h2 _ => h v' w' ?_ h2)
  · rw [addr_add, Nat.zero_add, hy.cell j, List.getElem?_toArray]; exact hj
  · unfold OwnL
    rw [List.length_append, List.length_singleton, List.flatMap_append, List.flatMap_singleton]
    exact h1

theorem grown_below {base w0 : Nat} {a w w' : World} {v : Value} {e k n : Nat} {xs : List Value} (h : Below base a w) (hg : w.grownBy w' v.ownBlock) (ho : w.ownsRow base e k v n xs) (hb : base ≤ w.heap.size) : Below base a w' :=
  h.grown hg hb (fun j hj => (ho.lt j hj).1)

/-- What numbers tells. -/
def NAns (l : List Int) (at' many : Nat) (w : World) (e : Ending) (w' : World) : Prop :=
  Below w.heap.size w w' ∧ ((∃ (xs : List Int) (a : Option Addr) (c nx : Nat), e = .returned (.tuple #[.slice a xs.length c, .int .i64 (nx : Int), .bool true]) ∧ xs.length = many ∧ (∀ z ∈ xs, R64 z) ∧ l.drop at' = xs.flatMap oneB ++ l.drop nx ∧ nx ≤ l.length ∧ IP (Since w.heap.size) w' a xs) ∨
   (e = .returned (.tuple #[.slice none 0 0, .int .i64 0, .bool false]) ∧ ∀ (xs : List Int) r, xs.length = many → (∀ z ∈ xs, R64 z) → l.drop at' ≠ xs.flatMap oneB ++ r))

def nmInv (w : World) (l : List Int) (at' n k : Nat) (av out i : Value) (wr : World) : Prop :=
  ∃ (done : List Int) (nx : Nat), done.length + k = n ∧ i = .int .i64 (done.length : Int) ∧ av = .int .i64 (nx : Int) ∧ nx ≤ l.length ∧ OwnL 3 1 cI w.heap.size wr out done ∧ (∀ z ∈ done, R64 z) ∧ l.drop at' = done.flatMap oneB ++ l.drop nx ∧ Below w.heap.size w wr

set_option maxHeartbeats 4000000 in
theorem numbers_any (w : World) (ba : Option Addr) (cap : Nat) (l : List Int) (at' many : Nat) (hb : Bts w.heap.size w ba l) (ha : at' ≤ l.length) (hc : l.length ≤ cap) (hl : l.length ≤ 1000000000) (hm : many ≤ 1000) :
    Calls Try.prog 46 #[.slice ba l.length cap, .int .i64 (at' : Int), .int .i64 (many : Int)] w (NAns l at' many w) := by
  obtain ⟨i0, hi, hz0, hz1, hz2⟩ := info_parts Try.info3
  have HG := hid' (fun W (hW : Below w.heap.size w W) (p : Int) => rgetInt_any W ba cap l p ((hb.keep hW).mono hW.size) hc hl)
  have HI : Hid (∀ k av out i wr, nmInv w l at' many k av out i wr → ∃ (done : List Int) (nx : Nat), done.length + k = many ∧ i = .int .i64 (done.length : Int) ∧ av = .int .i64 (nx : Int) ∧ nx ≤ l.length ∧ OwnL 3 1 cI w.heap.size wr out done ∧ (∀ z ∈ done, R64 z) ∧ l.drop at' = done.flatMap oneB ++ l.drop nx ∧ Below w.heap.size w wr) := fun k av out i wr h => h
  have HYES : Hid (∀ (xs : List Int) (v : Value) (nx : Nat) W, OwnL 3 1 cI w.heap.size W v xs → xs.length = many → (∀ z ∈ xs, R64 z) → l.drop at' = xs.flatMap oneB ++ l.drop nx → nx ≤ l.length → Below w.heap.size w W → NAns l at' many w (.returned (.tuple #[v, .int .i64 (nx : Int), .bool true])) W) := fun xs v nx W h1 h2 h3 h4 h5 h6 => by
    obtain ⟨a, c, rfl, hs, _⟩ := SP.of_owns (d := 0) cI_len h1
    exact ⟨h6, .inl ⟨xs, a, c, nx, rfl, h2, h3, h4, h5, hs⟩⟩
  have HNO : Hid (∀ W, Below w.heap.size w W → (∀ (xs : List Int) r, xs.length = many → (∀ z ∈ xs, R64 z) → l.drop at' ≠ xs.flatMap oneB ++ r) → NAns l at' many w (.returned (.tuple #[.slice none 0 0, .int .i64 0, .bool false])) W) := fun W h1 h2 => ⟨h1, .inr ⟨rfl, h2⟩⟩
  have H0 : Hid (nmInv w l at' many many (.int .i64 (at' : Int)) (.slice none 0 0) (.int .i64 0) w) := ⟨[], at', by simp, rfl, rfl, ha, OwnL.nil, by simp, by simp, Below.refl _ _⟩
  obtain ⟨ln, hln⟩ : ∃ n, l.length = n := ⟨_, rfl⟩
  rw [hln] at HG ⊢
  have HLN := hid' hln
  clear hb hln
  go_enter Try.func46, Try.ntmps46
  go_wp2
  go_loopg [1, 9, 10] many (fun k av out i wr => nmInv w l at' many k av out i wr)
  case atStart => exact H0.out
  case round =>
    obtain ⟨done, nx, hj, rfl, rfl, hnx, hown, hrng, hdr, hbel⟩ := HI.out _ _ _ _ _ hrel
    clear hrel H0
    cases gk with
    | zero =>
      have hdn : done.length = many := by omega
      have HZ := hid' (HYES.out done _ nx wr hown hdn hrng hdr hnx hbel)
      clear HYES HNO HG hown hrng hdr hbel
      rw [hdn]
      go_wp2
      go_ret3
      exact HZ.out
    | succ k =>
      have hlt : done.length < many := by omega
      have HC := hid' (HG.out wr hbel (nx : Int))
      have HO := hid' hown
      have HB := hid' hbel
      have HR := hid' hrng
      have HD := hid' hdr
      clear hown hbel hrng hdr
      go_wp2_with fail
      refine HC.out.mono ?_
      rintro e w3 ⟨⟨n, next, er, rfl, hrel⟩, hb3⟩
      have HB3 := hid' (bel_trans' HB.out hb3)
      by_cases h0 : er = 0
      · subst h0
        obtain ⟨y1, y2, y3, y4, y5⟩ := get_yes hrel
        obtain ⟨nx3, rfl⟩ := Int.eq_ofNat_of_zero_le (show 0 ≤ next by omega)
        rw [Int.toNat_natCast] at y1 y5
        have hr64 := unzig_rng y2 y3
        have hd2 : l.drop at' = (done ++ [unzig n]).flatMap oneB ++ l.drop nx3 := by
          rw [HD.out, y1, List.flatMap_append, List.flatMap_singleton, List.append_assoc]
          unfold oneB
          rw [zig_unzig y2]
        have HO3 := hid' (OwnL.below (HO.out.below hb3) ((Below.refl _ w3).alloc (Nat.le_refl _) (.cells #[.int .i64 (unzig n)] 3)))
        have HBX := hid' (Bx.new w3 #[.int .i64 (unzig n)] 3)
        have HB4 := hid' (bel_alloc HB3.out (.cells #[.int .i64 (unzig n)] 3))
        have HPUSH : Hid (∀ v' w', OwnL 3 1 cI w.heap.size w' v' (done ++ [unzig n]) → Below w.heap.size w w' → nmInv w l at' many k (.int .i64 (nx3 : Int)) v' (.int .i64 ((done.length : Int) + 1)) w') := fun v' w' h1 h2 => ⟨done ++ [unzig n], nx3, by simp; omega, by simp, rfl, y5, h1, fun z hz => by
          rcases List.mem_append.1 hz with hz | hz
          · exact HR.out z hz
          · simp at hz; subst hz; exact hr64, hd2, h2⟩
        clear hrel y1 y2 y3 y4 y5 hr64 hd2 HC HO HR HD hb3 HG
        generalize unzig n = un at *
        go_wp2_with (at_builtin; refine wpList_app1 90 3 1 8 (.int .i64 0) i0 cI cI_len (fun x u hu => by simp [cI] at hu; subst hu; rfl) rfl (.tmp 28) (.tmp 30) rfl Try.underlying90 hi hz0 hz1 hz2 rfl (by omega) w.heap.size u9 done rfl HO3.out w3.heap.size 1 un rfl HBX.out (by omega) (by omega) HB4.out.size ?_; intro v' w4 hown4 hgr4)
        have H3 := hid' (HPUSH.out v' w4 hown4 (grown_below (w0 := 0) HB4.out hgr4 HO3.out HB4.out.size))
        clear hown4 hgr4 HPUSH
        generalize hdl : done.length = dl at *
        go_wp2
        go_roundg k
        case measure => omega
        case rel => exact H3.out
      · have HZ := hid' (HNO.out w3 HB3.out (fun xs r hx hxr e => by
          have hlx : done.length < xs.length := by omega
          have el : xs = xs.take done.length ++ (xs[done.length] :: xs.drop (done.length + 1)) := by rw [← List.drop_eq_getElem_cons hlx, List.take_append_drop]
          rw [HD.out, el, List.flatMap_append, List.flatMap_cons, List.append_assoc, List.append_assoc] at e
          obtain ⟨_, e4⟩ := flat_pf pf_one done (xs.take done.length) _ _ (by rw [List.length_take]; omega) HR.out (fun y hy => hxr y (List.mem_of_mem_take hy)) e
          exact get_no hnx hrel h0 _ _ (zig_small (hxr _ (List.getElem_mem hlx))) e4))
        have h0' : (er != 0) = true := by simpa using h0
        clear hrel HC HO HR HD hb3 HG HNO HYES
        go_wp2
        go_ret3
        exact HZ.out

end Go.Proofs.Ytgalmkhgbokidaa

namespace Go.Proofs.Ytgalmkhgbokidaa
open Go.RowKit Go.Proofs
set_option maxRecDepth 20000
set_option linter.unusedVariables false
set_option linter.unusedSimpArgs false

/-- Numbers two by two. -/
def tsOf (xs : List Int) (n : Nat) : List T := (List.range n).map fun i => (xs.getD (2 * i) 0, xs.getD (2 * i + 1) 0)

theorem tsOf_len (xs : List Int) (n : Nat) : (tsOf xs n).length = n := by simp [tsOf]
theorem tsOf_succ (xs : List Int) (n : Nat) : tsOf xs (n + 1) = tsOf xs n ++ [(xs.getD (2 * n) 0, xs.getD (2 * n + 1) 0)] := by
  unfold tsOf; rw [List.range_succ, List.map_append]; rfl

theorem tsOf_take (xs : List Int) (m n : Nat) (h : 2 * n ≤ m) : tsOf (xs.take m) n = tsOf xs n := by
  unfold tsOf
  apply List.map_congr_left
  intro i hi
  have := List.mem_range.1 hi
  simp only [List.getD]
  rw [List.getElem?_take_of_lt (by omega), List.getElem?_take_of_lt (by omega)]

theorem tsOf_flat : ∀ (n : Nat) (xs : List Int), xs.length = 2 * n → (tsOf xs n).flatMap timeB = xs.flatMap oneB
  | 0, xs, h => by
    have : xs = [] := List.length_eq_zero_iff.1 (by omega)
    subst this; rfl
  | n + 1, xs, h => by
    have e : xs = xs.take (2 * n) ++ [xs.getD (2 * n) 0, xs.getD (2 * n + 1) 0] := by
      have h1 : 2 * n < xs.length := by omega
      have h2 : 2 * n + 1 < xs.length := by omega
      conv => lhs; rw [← List.take_append_drop (2 * n) xs]
      rw [List.drop_eq_getElem_cons h1, List.drop_eq_getElem_cons h2, List.drop_of_length_le (by omega), getD_at h1, getD_at h2]
    have ih := tsOf_flat n (xs.take (2 * n)) (by rw [List.length_take]; omega)
    rw [tsOf_take xs (2 * n) n (Nat.le_refl _)] at ih
    rw [tsOf_succ, List.flatMap_append, ih]
    conv => rhs; rw [e]
    rw [List.flatMap_append]
    simp [timeB]

theorem tsOf_rt {xs : List Int} {n : Nat} (h : xs.length = 2 * n) (hr : ∀ z ∈ xs, R64 z) : ∀ t ∈ tsOf xs n, RT t := by
  intro t ht
  obtain ⟨i, hi, rfl⟩ := List.mem_map.1 ht
  have := List.mem_range.1 hi
  exact ⟨hr _ (getD_mem (by omega)), hr _ (getD_mem (by omega))⟩

/-- Times one number behind the other. -/
def unT (y : List T) : List Int := y.flatMap fun t => [t.1, t.2]
theorem unT_len (y : List T) : (unT y).length = 2 * y.length := by
  unfold unT
  induction y with
  | nil => rfl
  | cons a y ih => rw [List.flatMap_cons, List.length_append, ih, List.length_cons]; simp; omega
theorem unT_flat (y : List T) : (unT y).flatMap oneB = y.flatMap timeB := by
  unfold unT
  induction y with
  | nil => rfl
  | cons a y ih => rw [List.flatMap_cons, List.flatMap_append, ih, List.flatMap_cons]; simp [timeB]
theorem unT_r64 {y : List T} (h : ∀ t ∈ y, RT t) : ∀ z ∈ unT y, R64 z := by
  intro z hz
  obtain ⟨t, ht, hz⟩ := List.mem_flatMap.1 hz
  have := h t ht
  simp at hz
  rcases hz with rfl | rfl
  · exact this.1
  · exact this.2

theorem oneT (x : T) : ∀ u ∈ cT x, u.oneCell' = true := by
  intro u hu
  simp [cT] at hu
  rcases hu with rfl | rfl <;> rfl

section
variable {a : Act} {t u c : Nat} {dst : Option Tmp} {ty : TypeId} {pos : String} {aft : Array Edge} {guard : Option (Nat × Bool)}
theorem run_mul2 {i : Nat} (w : World) (h : PB.slot a t = .int .i64 (i : Int)) (hi : i ≤ 1000000) : (execOp a.eval { dst := dst, op := .binOp .mul 3 (.const (.int .i64 2)) (.tmp t) 3, type := ty, pos := pos, after := aft, guard := guard }).run Try.prog w = .ok (.value (.int .i64 (2 * (i : Int)))) w := by
  have h1 : a.tmps[t]?.getD undef = .int .i64 (i : Int) := by rw [← Array.getD_eq_getD_getElem?]; exact h
  go_simp
  rw [IntKind.wrap_i64]; omega
theorem run_add1 {i : Int} (w : World) (h : PB.slot a t = .int .i64 i) (h0 : 0 ≤ i) (hi : i ≤ 1000000) : (execOp a.eval { dst := dst, op := .binOp .add 3 (.tmp t) (.const (.int .i64 1)) 3, type := ty, pos := pos, after := aft, guard := guard }).run Try.prog w = .ok (.value (.int .i64 (i + 1))) w := by
  have h1 : a.tmps[t]?.getD undef = .int .i64 i := by rw [← Array.getD_eq_getD_getElem?]; exact h
  go_simp
  rw [IntKind.wrap_i64]; omega
theorem run_ixI {b off n cap : Nat} {z : Int} (i : Nat) (w : World) (h : PB.slot a t = .slice (some ⟨b, off, none⟩) n cap) (h' : PB.slot a u = .int .i64 z) (hz : z = (i : Int)) (hi : i < n) (hn : n ≤ 1000000000) :
    (execOp a.eval { dst := dst, op := .indexAddr 90 (.tmp t) (.tmp u), type := ty, pos := pos, after := aft, guard := guard }).run Try.prog w = .ok (.value (.pointer (some ⟨b, off + i, none⟩))) w := by
  subst hz
  have h1 : a.tmps[t]?.getD undef = .slice (some ⟨b, off, none⟩) n cap := by rw [← Array.getD_eq_getD_getElem?]; exact h
  have h2 : a.tmps[u]?.getD undef = .int .i64 (i : Int) := by rw [← Array.getD_eq_getD_getElem?]; exact h'
  go_simp
theorem run_ixC {b off n cap : Nat} (i : Nat) {z : Int} (w : World) (h : PB.slot a t = .slice (some ⟨b, off, none⟩) n cap) (hz : z = (i : Int)) (hi : i < n) (hn : n ≤ 1000000000) :
    (execOp a.eval { dst := dst, op := .indexAddr 90 (.tmp t) (.const (.int .i64 z)), type := ty, pos := pos, after := aft, guard := guard }).run Try.prog w = .ok (.value (.pointer (some ⟨b, off + i, none⟩))) w := by
  subst hz
  have h1 : a.tmps[t]?.getD undef = .slice (some ⟨b, off, none⟩) n cap := by rw [← Array.getD_eq_getD_getElem?]; exact h
  go_simp
theorem run_bldT {x y : Int} (w : World) (h : PB.slot a t = .int .i64 x) (h' : PB.slot a u = .int .i64 y) : (execOp a.eval { dst := dst, op := .build 26 #[(0, .tmp t), (1, .tmp u)], type := ty, pos := pos, after := aft, guard := guard }).run Try.prog w = .ok (.value (.agg #[.int .i64 x, .int .i64 y])) w := by
  have h1 : a.tmps[t]?.getD undef = .int .i64 x := by rw [← Array.getD_eq_getD_getElem?]; exact h
  have h2 : a.tmps[u]?.getD undef = .int .i64 y := by rw [← Array.getD_eq_getD_getElem?]; exact h'
  go_simp
theorem run_bsT {x y : Int} (w : World) (h : PB.slot a t = .agg #[.int .i64 x, .int .i64 y]) :
    (execOp a.eval { dst := dst, op := .buildSlice 29 1 #[(0, .tmp t)], type := ty, pos := pos, after := aft, guard := guard }).run Try.prog w = .ok (.value (.slice (some ⟨w.heap.size, 0, none⟩) 1 1)) (w.alloc (.cells #[.int .i64 x, .int .i64 y] 26)) := by
  have h0 : a.tmps[t]?.getD undef = .agg #[.int .i64 x, .int .i64 y] := by rw [← Array.getD_eq_getD_getElem?]; exact h
  go_simp
end

/-- Append of one element, as one operation. -/
theorem wp_app1 {α : Type} {w : World} {o : Oper} {a : Act} {K : Act → World → Prop} {Q : Exit → Act → World → Prop} (t e k bytes : Nat) (z : Value) (i : TypeInfo) (cs : α → List Value) (hcs : ∀ x, (cs x).length = k) (hone : ∀ x, ∀ u ∈ cs x, u.oneCell' = true) (s x : Operand)
    (ho : o.op = .call { callee := .builtin .append, args := #[s, x], argTypes := #[t, t] }) (ht : Try.prog.underlying t = some (.slice e)) (hi : Try.prog.info? e = some i) (hz : i.zero = some z) (hsize : i.size = k) (hby : i.bytes = bytes) (hzs : z.cells.size = k) (hk : 0 < k)
    (base : Nat) (v : Value) (l : List α) (hs : a.eval s = v) (hown : OwnL e k cs base w v l) (g c : Nat) (y : α) (hx : a.eval x = .slice (some ⟨g, 0, none⟩) 1 c) (hy : Bx w g (cs y).toArray e) (hlen : l.length ≤ 100000) (hbyt : bytes ≤ 1000) (hbase : base ≤ w.heap.size)
    (h : ∀ v' w', OwnL e k cs base w' v' (l ++ [y]) → w.grownBy w' v.ownBlock → K (a.put o.dst v') w') : o.wp Try.prog a w K Q := by
  have hmul : (l.length + 1) * bytes ≤ 140737488355328 := Nat.le_trans (Nat.mul_le_mul (show l.length + 1 ≤ 100001 by omega) hbyt) (by omega)
  refine wp_append_own w s x t ho base e i z k bytes ht hi hz hsize hby hzs hk v l.length (l.flatMap cs) hs hown ⟨g, 0, none⟩ 1 c (cs y) hx (by rw [hcs]; omega) (fun j u hj => ?_) (hone y) (by unfold maxLen; omega) hmul hbase (fun v' w' h1 h2 _ => h v' w' ?_ h2)
  · rw [addr_add, Nat.zero_add, hy.cell j, List.getElem?_toArray]; exact hj
  · unfold OwnL
    rw [List.length_append, List.length_singleton, List.flatMap_append, List.flatMap_singleton]
    exact h1

def rgfVal (f : Value) (b off n cap j : Nat) (x y : Int) (i : Nat) : Option Value :=
  [some f, some (.slice (some ⟨b, off, none⟩) n cap), some (.int .i64 (j : Int)), some (.int .i64 (2 * (j : Int))), some (.pointer (some ⟨b, off + 2 * j, none⟩)), some (.int .i64 x),
   some (.slice (some ⟨b, off, none⟩) n cap), some (.int .i64 (j : Int)), some (.int .i64 (2 * (j : Int))), some (.int .i64 (2 * (j : Int) + 1)), some (.pointer (some ⟨b, off + (2 * j + 1), none⟩)), some (.int .i64 y), some (.agg #[.int .i64 x, .int .i64 y]), none, none, none].getD i none

/-- What holds while f = append(f, ..) goes on. -/
def rgfS (w : World) (x y : Int) (f : Value) (done : List T) (vs : List Value) (W : World) : Prop :=
  Below w.heap.size w W ∧ match vs with
    | [] => OwnL 26 2 cT w.heap.size W f done
    | [p] => OwnL 26 2 cT w.heap.size W f done ∧ ∃ g, p = .slice (some ⟨g, 0, none⟩) 1 1 ∧ Bx W g #[.int .i64 x, .int .i64 y] 26
    | [_, q] => OwnL 26 2 cT w.heap.size W q (done ++ [(x, y)])
    | [_, q, r] => r = q ∧ OwnL 26 2 cT w.heap.size W q (done ++ [(x, y)])
    | _ => False

def rgfInv (w : World) (xs : List Int) (n k : Nat) (fv i : Value) (wr : World) : Prop :=
  ∃ j : Nat, j + k = n ∧ i = .int .i64 (j : Int) ∧ OwnL 26 2 cT w.heap.size wr fv (tsOf xs j) ∧ Below w.heap.size w wr

set_option maxHeartbeats 8000000 in
theorem rGetFront_any (w : World) (ba : Option Addr) (cap : Nat) (l : List Int) (at' : Int) (hb : Bts w.heap.size w ba l) (hc : l.length ≤ cap) (hl : l.length ≤ 1000000000) :
    Calls Try.prog 21 #[.slice ba l.length cap, .int .i64 at'] w (GAns frontB (LD 16 RT) RepTs [] l at' w) := by
  obtain ⟨i0, hi, hz0, hz1, hz2⟩ := info_parts Try.infoTime
  have HG := hid' (rget_any w ba cap l at' hb hc hl)
  have HNUM := hid' (fun W (hW : Below w.heap.size w W) (p m : Nat) (hp : p ≤ l.length) (hm : m ≤ 1000) => numbers_any W ba cap l p m ((hb.keep hW).mono hW.size) hp hc hl hm)
  have HOUT : Hid (∀ W, Below w.heap.size w W → (at' < 0 ∨ (l.length : Int) < at') → GAns frontB (LD 16 RT) RepTs [] l at' w (.returned (.tuple #[.slice none 0 0, .int .i64 0, .int .i64 9])) W) := fun W hW h => ⟨[], _, 0, 9, rfl, RepTs.nil _ _, hW, .inl ⟨h, rfl, rfl, rfl⟩⟩
  have HNO : Hid (∀ W, 0 ≤ at' → at' ≤ l.length → Below w.heap.size w W → (∀ y r, LD 16 RT y → l.drop at'.toNat ≠ frontB y ++ r) → GAns frontB (LD 16 RT) RepTs [] l at' w (.returned (.tuple #[.slice none 0 0, .int .i64 0, .int .i64 6])) W) := fun W h1 h2 h3 h4 => ⟨[], _, 0, 6, rfl, RepTs.nil _ _, h3, .inr (.inr ⟨h1, h2, rfl, rfl, rfl, h4⟩)⟩
  have HOK : Hid (∀ (x : List T) (v : Value) (nx B : Nat) W, 0 ≤ at' → at' ≤ l.length → Below w.heap.size w W → w.heap.size ≤ B → OwnL 26 2 cT B W v x → LD 16 RT x → l.drop at'.toNat = frontB x ++ l.drop nx → nx ≤ l.length → GAns frontB (LD 16 RT) RepTs [] l at' w (.returned (.tuple #[v, .int .i64 (nx : Int), .int .i64 0])) W) := fun x v nx B W g1 g2 h1 hB h2 h4 h5 h6 => by
    obtain ⟨a, c, rfl, hs, hsh⟩ := SP.of_owns (d := t0) cT_len h2
    exact ⟨x, _, nx, 0, rfl, ⟨_, c, rfl, SP.mono hs (fun k hk => by unfold Since at *; omega), hsh⟩, h1, .inr (.inl ⟨g1, g2, rfl, h4, by simpa using h5, by simp, by simpa using h6⟩)⟩
  obtain ⟨ln, hln⟩ : ∃ n, l.length = n := ⟨_, rfl⟩
  rw [hln] at HG HNUM ⊢
  have HLN := hid' hln
  clear hb hln
  go_enter Try.func21, Try.ntmps21
  go_wp2_with fail
  refine HG.out.mono ?_
  rintro e w1 ⟨⟨n, next, er, rfl, hrel⟩, hb1⟩
  have HB1 := hid' hb1
  clear HG hb1
  rcases getRel_out hrel with ⟨rfl, hout⟩ | ⟨h9, hlo, hhi, her⟩
  · have HZ := hid' (HOUT.out w1 HB1.out hout)
    clear HOUT HNO HOK HNUM hrel
    go_wp2
    go_ret3
    exact HZ.out
  · obtain ⟨at0, rfl⟩ := Int.eq_ofNat_of_zero_le hlo
    have hat : at0 ≤ l.length := by omega
    rw [Int.toNat_natCast] at HNO HOK
    rcases her with rfl | rfl
    · obtain ⟨y1, y2, y3, y4, y5⟩ := get_yes hrel
      obtain ⟨m, rfl⟩ := Int.eq_ofNat_of_zero_le y2
      rw [Int.toNat_natCast] at y1
      obtain ⟨nxt, rfl⟩ := Int.eq_ofNat_of_zero_le (show 0 ≤ next by omega)
      rw [Int.toNat_natCast] at y1 y5
      have HRD : Hid (Rd bytesOf U64 (some (l.drop at0)) m (some (l.drop nxt))) := (⟨by unfold U64; omega, y1⟩ : _ ∧ _)
      have HY1 := hid' y1
      clear y1 hrel HOUT y4
      by_cases hmany : 16 < m
      · have HZ := hid' (HNO.out w1 hlo hhi HB1.out (num_many HRD.out hmany (by omega)))
        have hm' : (16 : Int) < (m : Int) := by omega
        clear HNO HOK HNUM HRD
        go_wp2
        go_ret3
        exact HZ.out
      · have hm' : ¬ (16 : Int) < (m : Int) := by omega
        have HN1 := hid' (HNUM.out w1 HB1.out nxt (2 * m) (by have := HLN.out; omega) (by omega))
        have e2 : ((2 * m : Nat) : Int) = 2 * (m : Int) := by simp
        rw [e2] at HN1
        clear HNUM HRD
        go_wp2_with fail
        refine HN1.out.mono ?_
        rintro e w2 ⟨hb2, ⟨xs, xa, c, nx2, rfl, hxl, hxr, hxd, hxn, hip⟩ | ⟨rfl, hno⟩⟩
        · have HB2 := hid' (bel_trans' HB1.out hb2)
          have HIP := hid' hip
          have HXL := hid' hxl
          have HFIN : Hid (∀ v W, Below w.heap.size w W → OwnL 26 2 cT w2.heap.size W v (tsOf xs m) → GAns frontB (LD 16 RT) RepTs [] l (at0 : Int) w (.returned (.tuple #[v, .int .i64 (nx2 : Int), .int .i64 0])) W) := fun v W h1 h2 => HOK.out (tsOf xs m) v nx2 w2.heap.size W hlo hhi h1 HB2.out.size h2 ⟨by rw [tsOf_len]; omega, tsOf_rt hxl hxr⟩ (by
            unfold frontB listB
            rw [tsOf_len, tsOf_flat m xs hxl, List.append_assoc, ← hxd]
            exact HY1.out) hxn
          have HI : Hid (∀ k fv i wr, rgfInv w2 xs m k fv i wr → ∃ j : Nat, j + k = m ∧ i = .int .i64 (j : Int) ∧ OwnL 26 2 cT w2.heap.size wr fv (tsOf xs j) ∧ Below w2.heap.size w2 wr) := fun k fv i wr h => h
          have H0 : Hid (rgfInv w2 xs m m (.slice none 0 0) (.int .i64 0) w2) := ⟨0, by omega, rfl, OwnL.nil, Below.refl _ _⟩
          obtain ⟨xn, hxn'⟩ : ∃ n, xs.length = n := ⟨_, rfl⟩
          rw [hxn'] at hxl ⊢
          have HXN := hid' hxn'
          clear hip hxr hxd hxn HNO HOK hb2 HN1 HY1 hxn'
          go_wp2
          go_loopg [13, 14] m (fun k fv i wr => rgfInv w2 xs m k fv i wr)
          case atStart => exact H0.out
          case round =>
            obtain ⟨j, hj, rfl, hown, hbel⟩ := HI.out _ _ _ _ hrel
            clear hrel H0
            cases gk with
            | zero =>
              obtain rfl : j = m := by omega
              have HZ := hid' (HFIN.out _ wr (HB2.out.trans (hbel.mono HB2.out.size)) hown)
              clear HFIN hown hbel
              go_wp2
              go_ret3
              exact HZ.out
            | succ k =>
              have hjl : 2 * j + 1 < xs.length := by rw [HXN.out]; omega
              have hjl0 : 2 * j < xs.length := by omega
              have hne : xs ≠ [] := by rintro rfl; simp at hjl
              obtain ⟨b, off, rfl⟩ := SP.lt HIP.out hne
              have hbl : b < w2.heap.size := by
                obtain ⟨b', off', e', _, hb', _⟩ := HIP.out.cells hne
                cases e'; exact hb'
              have c1 := IP.at HIP.out hjl0
              have c2 := IP.at HIP.out hjl
              have HTS := hid' (tsOf_succ xs j)
              have HTL := hid' (tsOf_len xs j)
              generalize xs.getD (2 * j) 0 = x at *
              generalize xs.getD (2 * j + 1) 0 = y at *
              have HS0 : Hid (rgfS w2 x y u13 (tsOf xs j) [] wr.drew) := ⟨hbel.drew, OwnL.below hown (Below.refl _ _).drew⟩
              have HP : Hid (∀ q W, OwnL 26 2 cT w2.heap.size W q (tsOf xs j ++ [(x, y)]) → Below w2.heap.size w2 W → rgfInv w2 xs m k q (.int .i64 ((j : Int) + 1)) W) := fun q W h1 h2 => ⟨j + 1, by omega, by simp, by rw [HTS.out]; exact h1, h2⟩
              have HC1 := hid' c1
              have HC2 := hid' c2
              clear hown hbel c1 c2 hne hjl0
              go_wp2_with fail
              refine PQ.wp_region_quiet (rgfVal u13 b off (2 * m) c j x y) (rgfS w2 x y u13 (tsOf xs j)) mixed' (by kernel_rfl) HS0.out ?_ ?_
              · refine ⟨?_, ?_, ?_, ?_, ?_, ?_, ?_, ?_, ?_, ?_, ?_, ?_, ?_, ?_, ?_, ?_, trivial⟩
                · intro vs A W hI hC
                  exact ⟨PB.wanted_free rfl, run_moveD W (hC.fresh 15 _ 13 rfl rfl rfl)⟩
                · intro vs A W hI hC
                  exact ⟨PB.wanted_free rfl, run_moveD W (hC.outer 10 rfl)⟩
                · intro vs A W hI hC
                  exact ⟨PB.wanted_free rfl, run_moveD W (hC.outer 14 rfl)⟩
                · intro vs A W hI hC
                  exact ⟨PB.wanted_free rfl, run_mul2 W (hC.left 2 rfl) (by omega)⟩
                · intro vs A W hI hC
                  exact ⟨PB.wanted_free rfl, run_ixI (2 * j) W (hC.left 1 rfl) (hC.left 3 rfl) (by simp) (by omega) (by omega)⟩
                · intro vs A W hI hC
                  exact ⟨PB.wanted_free rfl, run_loadZ W (hC.left 4 rfl) ((hI.1.cell (p := ⟨b, off + 2 * j, none⟩) hbl).trans HC1.out)⟩
                · intro vs A W hI hC
                  exact ⟨PB.wanted_free rfl, run_moveD W (hC.outer 10 rfl)⟩
                · intro vs A W hI hC
                  exact ⟨PB.wanted_free rfl, run_moveD W (hC.outer 14 rfl)⟩
                · intro vs A W hI hC
                  exact ⟨PB.wanted_free rfl, run_mul2 W (hC.left 7 rfl) (by omega)⟩
                · intro vs A W hI hC
                  exact ⟨PB.wanted_free rfl, run_add1 W (hC.left 8 rfl) (by omega) (by omega)⟩
                · intro vs A W hI hC
                  exact ⟨PB.wanted_free rfl, run_ixI (2 * j + 1) W (hC.left 6 rfl) (hC.left 9 rfl) (by simp) (by omega) (by omega)⟩
                · intro vs A W hI hC
                  exact ⟨PB.wanted_free rfl, run_loadZ W (hC.left 10 rfl) ((hI.1.cell (p := ⟨b, off + (2 * j + 1), none⟩) hbl).trans HC2.out)⟩
                · intro vs A W hI hC
                  exact ⟨PB.wanted_free rfl, run_bldT W (hC.left 5 rfl) (hC.left 11 rfl)⟩
                · intro vs A W hk hI hC
                  obtain rfl : vs = [] := List.length_eq_zero_iff.1 hk
                  exact ⟨PB.wanted_free rfl, PQ.loud_value (run_bsT W (hC.left 12 rfl)) ⟨bel_alloc hI.1 _, OwnL.below hI.2 ((Below.refl _ _).alloc (Nat.le_refl _) _), W.heap.size, rfl, Bx.new _ _ _⟩⟩
                · intro vs A W hk hI hC
                  match vs, hk, hI, hC with
                  | [p], _, hI, hC =>
                    obtain ⟨hB, hO, g, rfl, hG⟩ := hI
                    refine ⟨PB.wanted_free rfl, wp_app1 29 26 2 16 _ i0 cT cT_len oneT (.tmp 45) (.tmp 58) rfl Try.underlying29 hi hz0 hz1 hz2 rfl (by omega) w2.heap.size u13 (tsOf xs j) (hC.left 0 rfl) hO g 1 (x, y) (hC.left 13 rfl) hG (by rw [HTL.out]; omega) (by omega) hB.size ?_⟩
                    intro v' w' h1 h2
                    exact ⟨v', rfl, grown_below (w0 := 0) hB h2 hO hB.size, h1⟩
                · intro vs A W hk hI hC
                  match vs, hk, hI, hC with
                  | [p, q], _, hI, hC =>
                    exact ⟨PB.wanted_free rfl, PQ.loud_value (run_assD W (hC.left 14 rfl)) ⟨hI.1, rfl, hI.2⟩⟩
              · intro vs A W hk hI hE
                match vs, hk, hI, hE with
                | [p, q, r], _, hI, hE =>
                  obtain ⟨hB, hr, hO⟩ := hI
                  subst hr
                  have H3 := hid' (HP.out _ W hO hB)
                  clear hB hO
                  have h_45 : PB.slot A 45 = u13 := hE.left 0
                  have h_46 : PB.slot A 46 = .slice (some ⟨b, off, none⟩) (2 * m) c := hE.left 1
                  have h_47 : PB.slot A 47 = .int .i64 (j : Int) := hE.left 2
                  have h_48 : PB.slot A 48 = .int .i64 (2 * (j : Int)) := hE.left 3
                  have h_49 : PB.slot A 49 = .pointer (some ⟨b, off + 2 * j, none⟩) := hE.left 4
                  have h_50 : PB.slot A 50 = .int .i64 x := hE.left 5
                  have h_51 : PB.slot A 51 = .slice (some ⟨b, off, none⟩) (2 * m) c := hE.left 6
                  have h_52 : PB.slot A 52 = .int .i64 (j : Int) := hE.left 7
                  have h_53 : PB.slot A 53 = .int .i64 (2 * (j : Int)) := hE.left 8
                  have h_54 : PB.slot A 54 = .int .i64 (2 * (j : Int) + 1) := hE.left 9
                  have h_55 : PB.slot A 55 = .pointer (some ⟨b, off + (2 * j + 1), none⟩) := hE.left 10
                  have h_56 : PB.slot A 56 = .int .i64 y := hE.left 11
                  have h_57 : PB.slot A 57 = .agg #[.int .i64 x, .int .i64 y] := hE.left 12
                  have h_58 : PB.slot A 58 = p := hE.left 13
                  have h_59 : PB.slot A 59 = r := hE.left 14
                  have h_13 : PB.slot A 13 = r := hE.left 15
                  have hA := PQ.frame_puts hE.defers hE.size [45, 46, 47, 48, 49, 50, 51, 52, 53, 54, 55, 56, 57, 58, 59, 13] (fun t ht => hE.outer t (by simp only [List.mem_cons, List.not_mem_nil, or_false, not_or] at ht; simp [PB.outer]; omega))
                  obtain ⟨fr, hf⟩ : ∃ f, PB.slot A = f := ⟨_, rfl⟩
                  rw [hA]
                  simp only [PQ.puts]
                  rw [hf] at h_45 h_46 h_47 h_48 h_49 h_50 h_51 h_52 h_53 h_54 h_55 h_56 h_57 h_58 h_59 h_13 ⊢
                  clear hA hf hE
                  simp only [h_45, h_46, h_47, h_48, h_49, h_50, h_51, h_52, h_53, h_54, h_55, h_56, h_57, h_58, h_59, h_13, Act.put, List.setIfInBounds_toArray, List.set_cons_succ, List.set_cons_zero]
                  clear h_45 h_46 h_47 h_48 h_49 h_50 h_51 h_52 h_53 h_54 h_55 h_56 h_57 h_58 h_59 h_13
                  clear HP HS0 HC1 HC2
                  go_wp2
                  go_roundg k
                  case measure => omega
                  case rel => exact H3.out
        · have HZ := hid' (HNO.out w2 hlo hhi (bel_trans' HB1.out hb2) (fun y r hy e => by
            unfold frontB listB at e
            rw [HY1.out, List.append_assoc] at e
            obtain ⟨e1, e3⟩ := bytes_pf e
            rw [← unT_flat] at e3
            exact hno (unT y) r (by rw [unT_len]; omega) (unT_r64 hy.2) e3))
          clear HNO HOK HN1 hno HY1
          go_wp2
          go_ret3
          exact HZ.out
    · have HZ := hid' (HNO.out w1 hlo hhi HB1.out (fun y r hy e => by
        unfold frontB listB at e
        rw [List.append_assoc] at e
        exact get_no hat hrel (by omega) y.length _ (by have := hy.1; omega) e))
      clear HOUT HNO HOK HNUM hrel
      go_wp2
      go_ret3
      exact HZ.out

end Go.Proofs.Ytgalmkhgbokidaa

namespace Go.Proofs.Ytgalmkhgbokidaa
open Go.RowKit Go.Proofs
set_option maxRecDepth 20000
set_option linter.unusedVariables false
set_option linter.unusedSimpArgs false

theorem oneV (x : V) : ∀ u ∈ cV x, u.oneCell' = true := by
  intro u hu
  simp [cV] at hu
  rcases hu with rfl | rfl | rfl <;> rfl

def ogInv (w : World) (l : List Int) (at0 n k : Nat) (nx r i : Value) (wr : World) : Prop :=
  ∃ (done : List V) (nxt : Nat), done.length + k = n ∧ i = .int .i64 (done.length : Int) ∧ nx = .int .i64 (nxt : Int) ∧ nxt ≤ l.length ∧ OwnL 78 3 cV w.heap.size wr r done ∧ RdL valB VN 16 n (some (l.drop at0)) done (some (l.drop nxt)) ∧ Below w.heap.size w wr

set_option maxHeartbeats 8000000 in
theorem oGet_any (w : World) (ba : Option Addr) (cap : Nat) (l : List Int) (at' : Int) (hb : Bts w.heap.size w ba l) (hc : l.length ≤ cap) (hl : l.length ≤ 1000000000) :
    Calls Try.prog 47 #[.slice ba l.length cap, .int .i64 at'] w (GAns rowB (LD 16 VN) RepVs [] l at' w) := by
  obtain ⟨i0, hi, hz0, hz1, hz2⟩ := info_parts Try.infoVal
  have HG := hid' (rget_any w ba cap l at' hb hc hl)
  have HGI := hid' (fun W (hW : Below w.heap.size w W) (p : Int) => rgetInt_any W ba cap l p ((hb.keep hW).mono hW.size) hc hl)
  have HGT := hid' (fun W (hW : Below w.heap.size w W) (p : Int) => rgetText_any W ba cap l p 4096 ((hb.keep hW).mono hW.size) hc hl (by omega))
  have HBT := hid' hb
  have HOUT : Hid (∀ W, Below w.heap.size w W → (at' < 0 ∨ (l.length : Int) < at') → GAns rowB (LD 16 VN) RepVs [] l at' w (.returned (.tuple #[.slice none 0 0, .int .i64 0, .int .i64 9])) W) := fun W hW h => ⟨[], _, 0, 9, rfl, RepVs.nil _ _, hW, .inl ⟨h, rfl, rfl, rfl⟩⟩
  have HNO : Hid (∀ W, 0 ≤ at' → at' ≤ l.length → Below w.heap.size w W → (∀ y r, LD 16 VN y → l.drop at'.toNat ≠ rowB y ++ r) → GAns rowB (LD 16 VN) RepVs [] l at' w (.returned (.tuple #[.slice none 0 0, .int .i64 0, .int .i64 6])) W) := fun W h1 h2 h3 h4 => ⟨[], _, 0, 6, rfl, RepVs.nil _ _, h3, .inr (.inr ⟨h1, h2, rfl, rfl, rfl, h4⟩)⟩
  have HOK : Hid (∀ (x : List V) (v : Value) (nx : Nat) W, 0 ≤ at' → at' ≤ l.length → Below w.heap.size w W → OwnL 78 3 cV w.heap.size W v x → LD 16 VN x → l.drop at'.toNat = rowB x ++ l.drop nx → nx ≤ l.length → GAns rowB (LD 16 VN) RepVs [] l at' w (.returned (.tuple #[v, .int .i64 (nx : Int), .int .i64 0])) W) := fun x v nx W g1 g2 h1 h2 h4 h5 h6 => by
    obtain ⟨a, c, rfl, hs, hsh⟩ := SP.of_owns (d := d0) cV_len h2
    exact ⟨x, _, nx, 0, rfl, ⟨_, c, rfl, hs, hsh⟩, h1, .inr (.inl ⟨g1, g2, rfl, h4, by simpa using h5, by simp, by simpa using h6⟩)⟩
  obtain ⟨ln, hln⟩ : ∃ n, l.length = n := ⟨_, rfl⟩
  rw [hln] at HG HGI HGT ⊢
  have HLN := hid' hln
  clear hb hln
  go_enter Try.func47, Try.ntmps47
  go_wp2_with fail
  refine HG.out.mono ?_
  rintro e w1 ⟨⟨n, next, er, rfl, hrel⟩, hb1⟩
  have HB1 := hid' hb1
  clear HG hb1
  rcases getRel_out hrel with ⟨rfl, hout⟩ | ⟨h9, hlo, hhi, her⟩
  · have HZ := hid' (HOUT.out w1 HB1.out hout)
    clear HOUT HNO HOK HGI HGT hrel
    go_wp2
    go_ret3
    exact HZ.out
  · obtain ⟨at0, rfl⟩ := Int.eq_ofNat_of_zero_le hlo
    have hat : at0 ≤ l.length := by omega
    rw [Int.toNat_natCast] at HNO HOK
    rcases her with rfl | rfl
    · obtain ⟨y1, y2, y3, y4, y5⟩ := get_yes hrel
      obtain ⟨m, rfl⟩ := Int.eq_ofNat_of_zero_le y2
      rw [Int.toNat_natCast] at y1
      obtain ⟨nxt, rfl⟩ := Int.eq_ofNat_of_zero_le (show 0 ≤ next by omega)
      rw [Int.toNat_natCast] at y1 y5
      have HRD : Hid (Rd bytesOf U64 (some (l.drop at0)) m (some (l.drop nxt))) := (⟨by unfold U64; omega, y1⟩ : _ ∧ _)
      clear y1 hrel HOUT y4
      by_cases hmany : 16 < m
      · have HZ := hid' (HNO.out w1 hlo hhi HB1.out (num_many HRD.out hmany (by omega)))
        have hm' : (16 : Int) < (m : Int) := by omega
        clear HNO HOK HGI HGT HRD
        go_wp2
        go_ret3
        exact HZ.out
      · have hm' : ¬ (16 : Int) < (m : Int) := by omega
        have H0 : Hid (ogInv w l at0 m m (.int .i64 (nxt : Int)) (.slice none 0 0) (.int .i64 0) w1) := ⟨[], nxt, by simp, rfl, rfl, y5, OwnL.nil, RdL.start (num_few HRD.out (by omega)), HB1.out⟩
        have HI : Hid (∀ k nx r i wr, ogInv w l at0 m k nx r i wr → ∃ (done : List V) (nxt : Nat), done.length + k = m ∧ i = .int .i64 (done.length : Int) ∧ nx = .int .i64 (nxt : Int) ∧ nxt ≤ l.length ∧ OwnL 78 3 cV w.heap.size wr r done ∧ RdL valB VN 16 m (some (l.drop at0)) done (some (l.drop nxt)) ∧ Below w.heap.size w wr) := fun k nx r i wr h => h
        clear HRD y5
        go_wp2
        go_loopg [8, 10, 11] m (fun k nx r i wr => ogInv w l at0 m k nx r i wr)
        case atStart => exact H0.out
        case round =>
          obtain ⟨done, nxt, hj, rfl, rfl, hnx, hown, hrl, hbel⟩ := HI.out _ _ _ _ _ hrel
          clear hrel H0
          cases gk with
          | zero =>
            have hdn : done.length = m := by omega
            have hrd := hrl.done (.inr hdn)
            have HZ := hid' (HOK.out done _ nxt wr hlo hhi hbel hown hrd.1 hrd.2 hnx)
            clear HNO HOK HGI HGT hown hrl hbel hrd
            rw [hdn]
            go_wp2
            go_ret3
            exact HZ.out
          | succ k =>
            have hlt : done.length < m := by omega
            have HOW := hid' hown
            have HRL := hid' hrl
            have HBE := hid' hbel
            have HNOV : Hid ((∀ y r, VN y → l.drop nxt ≠ valB y ++ r) → ∀ y r, LD 16 VN y → l.drop at0 ≠ rowB y ++ r) := fun h => HRL.out.push (x := d0) (s2 := none) pf_val hlt h
            clear hown hrl hbel
            by_cases hend : nxt = l.length
            · have HZ := hid' (HNO.out wr hlo hhi HBE.out (HNOV.out (val_no_end hend)))
              have hend' : (nxt : Int) ≥ (ln : Int) := by have := HLN.out; omega
              clear HNO HOK HGI HGT HRL HNOV HOW
              go_wp2
              go_ret3
              exact HZ.out
            · have hlt2 : nxt < l.length := by omega
              obtain ⟨b, off, hba, hcell, h0, h1⟩ := (HBT.out.keep HBE.out).byte hlt2
              have hlt2' : ¬ (nxt : Int) ≥ (ln : Int) := by have := HLN.out; omega
              have hixl : nxt < ln := by have := HLN.out; omega
              by_cases hbig : 1 < l.getD nxt 0
              · have HZ := hid' (HNO.out wr hlo hhi HBE.out (HNOV.out (val_no_kind hlt2 (by omega) (by omega))))
                clear HNO HOK HGI HGT HRL HNOV HOW
                subst hba
                generalize l.getD nxt 0 = d at *
                go_wp2
                go_ret3
                exact HZ.out
              · have hbig' : ¬ 1 < l.getD nxt 0 := hbig
                have hk01 : l.getD nxt 0 = 0 ∨ l.getD nxt 0 = 1 := by omega
                have ec : ((nxt + 1 : Nat) : Int) = (nxt : Int) + 1 := by simp
                rcases hk01 with hk | hk
                · rw [hk] at hcell
                  have BA : Below wr.heap.size wr (wr.alloc (.cells #[.int .i64 0, .int .i64 0, .string ⟨#[]⟩] 78)) := (Below.refl _ _).alloc (Nat.le_refl _) _
                  have HC := hid' (HGI.out _ (bel_trans' HBE.out BA) ((nxt : Int) + 1))
                  have X0 := Bx.new wr #[.int .i64 0, .int .i64 0, .string ⟨#[]⟩] 78
                  have HX0 := hid' X0
                  have HBA := hid' BA
                  clear BA X0 hbig h0 h1 HGI HGT
                  subst hba
                  go_wp2_with fail
                  refine HC.out.mono ?_
                  rintro e w3 ⟨⟨n, next, er, rfl, hrel⟩, hb3⟩
                  have X3 := HX0.out.keep hb3
                  have c0' : w3.cell? ⟨wr.heap.size, 0, none⟩ = some (.int .i64 0) := X3.cell 0
                  have c1' : w3.cell? ⟨wr.heap.size, 1, none⟩ = some (.int .i64 0) := X3.cell 1
                  have c2' : w3.cell? ⟨wr.heap.size, 2, none⟩ = some (.string ⟨#[]⟩) := X3.cell 2
                  have f1' := X3.frozen 1
                  have X4 : Bx (w3.setCell ⟨wr.heap.size, 1, none⟩ (.int .i64 (unzig n))) wr.heap.size #[.int .i64 0, .int .i64 (unzig n), .string ⟨#[]⟩] 78 := X3.setCell (i := 1) (v := .int .i64 (unzig n))
                  have q0 : (w3.setCell ⟨wr.heap.size, 1, none⟩ (.int .i64 (unzig n))).cell? ⟨wr.heap.size, 0, none⟩ = some (.int .i64 0) := X4.cell 0
                  have q1 : (w3.setCell ⟨wr.heap.size, 1, none⟩ (.int .i64 (unzig n))).cell? ⟨wr.heap.size, 1, none⟩ = some (.int .i64 (unzig n)) := X4.cell 1
                  have q2 : (w3.setCell ⟨wr.heap.size, 1, none⟩ (.int .i64 (unzig n))).cell? ⟨wr.heap.size, 2, none⟩ = some (.string ⟨#[]⟩) := X4.cell 2
                  have hW3 : Below wr.heap.size wr (w3.setCell ⟨wr.heap.size, 1, none⟩ (.int .i64 (unzig n))) := (bel_trans' HBA.out hb3).setCell (p := ⟨wr.heap.size, 1, none⟩) (Nat.le_refl _) _
                  obtain ⟨x, hx, hgot⟩ := got_val0 hlt2 hk (by rw [ec]; exact hrel) w3
                  have hxe : x = (0, unzig n, ⟨#[]⟩) := by
                    unfold RepVal at hx
                    obtain ⟨x0, x1, x2⟩ := x
                    simp at hx
                    simp [hx.1, hx.2.1, hx.2.2]
                  subst hxe
                  rcases hgot with ⟨rfl, hD, hdr, hnn, hnl⟩ | ⟨her, hno⟩
                  · obtain ⟨nx3, rfl⟩ := Int.eq_ofNat_of_zero_le (show 0 ≤ next by omega)
                    rw [Int.toNat_natCast] at hdr hnl
                    have BA5 : Below (w3.setCell ⟨wr.heap.size, 1, none⟩ (.int .i64 (unzig n))).heap.size (w3.setCell ⟨wr.heap.size, 1, none⟩ (.int .i64 (unzig n))) ((w3.setCell ⟨wr.heap.size, 1, none⟩ (.int .i64 (unzig n))).alloc (.cells #[.int .i64 0, .int .i64 (unzig n), .string ⟨#[]⟩] 78)) := (Below.refl _ _).alloc (Nat.le_refl _) _
                    have HO5 := hid' ((HOW.out.below hW3).below BA5)
                    have HB5 := hid' (bel_trans' (bel_trans' HBE.out hW3) BA5)
                    have HX5 := hid' (Bx.new (w3.setCell ⟨wr.heap.size, 1, none⟩ (.int .i64 (unzig n))) #[.int .i64 0, .int .i64 (unzig n), .string ⟨#[]⟩] 78)
                    have HPUSH : Hid (∀ v' w', OwnL 78 3 cV w.heap.size w' v' (done ++ [(0, unzig n, ⟨#[]⟩)]) → Below w.heap.size w w' → ogInv w l at0 m k (.int .i64 (nx3 : Int)) v' (.int .i64 ((done.length : Int) + 1)) w') := fun v' w' g1 g2 => ⟨done ++ [(0, unzig n, ⟨#[]⟩)], nx3, by simp; omega, by simp, rfl, hnl, g1, HRL.out.push pf_val hlt ⟨hD, hdr⟩, g2⟩
                    clear HC HX0 HBA X3 X4 hW3 hrel hb3 hD hdr hnn hnl HRL HNOV BA5 HOW hx
                    generalize unzig n = un at *
                    rw [World.size_setCell] at HX5
                    go_wp2_with (at_builtin; refine wpList_app1 24 78 3 32 _ i0 cV cV_len oneV rfl (.tmp 83) (.tmp 85) rfl Try.underlying24 hi hz0 hz1 hz2 rfl (by omega) w.heap.size u10 done rfl HO5.out w3.heap.size 1 (0, un, ⟨#[]⟩) rfl HX5.out (by omega) (by omega) HB5.out.size ?_; intro v' w6 hown6 hgr6)
                    have H3 := hid' (HPUSH.out v' w6 hown6 (grown_below (w0 := 0) HB5.out hgr6 HO5.out HB5.out.size))
                    clear hown6 hgr6 HPUSH HO5 HB5 HX5
                    generalize hdl : done.length = dl at *
                    go_wp2
                    go_roundg k
                    case measure => omega
                    case rel => exact H3.out
                  · have HZ := hid' (HNO.out _ hlo hhi (bel_trans' HBE.out hW3) (HNOV.out hno))
                    have her' : (er != 0) = true := by simpa using her
                    clear HC HX0 HBA X3 X4 hW3 hrel hb3 hno HRL HNOV HOW hx HNO HOK
                    generalize unzig n = un at *
                    go_wp2
                    go_ret3
                    exact HZ.out
                · rw [hk] at hcell
                  have BA : Below wr.heap.size wr (wr.alloc (.cells #[.int .i64 1, .int .i64 0, .string ⟨#[]⟩] 78)) := (Below.refl _ _).alloc (Nat.le_refl _) _
                  have HC := hid' (HGT.out _ (bel_trans' HBE.out BA) ((nxt : Int) + 1))
                  have X0 := Bx.new wr #[.int .i64 1, .int .i64 0, .string ⟨#[]⟩] 78
                  have HX0 := hid' X0
                  have HBA := hid' BA
                  clear BA X0 hbig h0 h1 HGI HGT
                  subst hba
                  go_wp2_with fail
                  refine HC.out.mono ?_
                  rintro e w3 ⟨⟨sx, next, er, rfl, hrel⟩, hb3⟩
                  have X3 := HX0.out.keep hb3
                  have c0' : w3.cell? ⟨wr.heap.size, 0, none⟩ = some (.int .i64 1) := X3.cell 0
                  have c1' : w3.cell? ⟨wr.heap.size, 1, none⟩ = some (.int .i64 0) := X3.cell 1
                  have c2' : w3.cell? ⟨wr.heap.size, 2, none⟩ = some (.string ⟨#[]⟩) := X3.cell 2
                  have f1' := X3.frozen 2
                  have X4 : Bx (w3.setCell ⟨wr.heap.size, 2, none⟩ (.string (strOfNums sx))) wr.heap.size #[.int .i64 1, .int .i64 0, .string (strOfNums sx)] 78 := X3.setCell (i := 2) (v := .string (strOfNums sx))
                  have q0 : (w3.setCell ⟨wr.heap.size, 2, none⟩ (.string (strOfNums sx))).cell? ⟨wr.heap.size, 0, none⟩ = some (.int .i64 1) := X4.cell 0
                  have q1 : (w3.setCell ⟨wr.heap.size, 2, none⟩ (.string (strOfNums sx))).cell? ⟨wr.heap.size, 1, none⟩ = some (.int .i64 0) := X4.cell 1
                  have q2 : (w3.setCell ⟨wr.heap.size, 2, none⟩ (.string (strOfNums sx))).cell? ⟨wr.heap.size, 2, none⟩ = some (.string (strOfNums sx)) := X4.cell 2
                  have hW3 : Below wr.heap.size wr (w3.setCell ⟨wr.heap.size, 2, none⟩ (.string (strOfNums sx))) := (bel_trans' HBA.out hb3).setCell (p := ⟨wr.heap.size, 2, none⟩) (Nat.le_refl _) _
                  obtain ⟨x, hx, hgot⟩ := got_val1 HBT.out.range hlt2 hk (by rw [ec]; exact hrel) w3
                  have hxe : x = (1, 0, strOfNums sx) := by
                    unfold RepVal at hx
                    obtain ⟨x0, x1, x2⟩ := x
                    simp at hx
                    simp [hx.1, hx.2.1, hx.2.2]
                  subst hxe
                  rcases hgot with ⟨rfl, hD, hdr, hnn, hnl⟩ | ⟨her, hno⟩
                  · obtain ⟨nx3, rfl⟩ := Int.eq_ofNat_of_zero_le (show 0 ≤ next by omega)
                    rw [Int.toNat_natCast] at hdr hnl
                    have BA5 : Below (w3.setCell ⟨wr.heap.size, 2, none⟩ (.string (strOfNums sx))).heap.size (w3.setCell ⟨wr.heap.size, 2, none⟩ (.string (strOfNums sx))) ((w3.setCell ⟨wr.heap.size, 2, none⟩ (.string (strOfNums sx))).alloc (.cells #[.int .i64 1, .int .i64 0, .string (strOfNums sx)] 78)) := (Below.refl _ _).alloc (Nat.le_refl _) _
                    have HO5 := hid' ((HOW.out.below hW3).below BA5)
                    have HB5 := hid' (bel_trans' (bel_trans' HBE.out hW3) BA5)
                    have HX5 := hid' (Bx.new (w3.setCell ⟨wr.heap.size, 2, none⟩ (.string (strOfNums sx))) #[.int .i64 1, .int .i64 0, .string (strOfNums sx)] 78)
                    have HPUSH : Hid (∀ v' w', OwnL 78 3 cV w.heap.size w' v' (done ++ [(1, 0, strOfNums sx)]) → Below w.heap.size w w' → ogInv w l at0 m k (.int .i64 (nx3 : Int)) v' (.int .i64 ((done.length : Int) + 1)) w') := fun v' w' g1 g2 => ⟨done ++ [(1, 0, strOfNums sx)], nx3, by simp; omega, by simp, rfl, hnl, g1, HRL.out.push pf_val hlt ⟨hD, hdr⟩, g2⟩
                    clear HC HX0 HBA X3 X4 hW3 hrel hb3 hD hdr hnn hnl HRL HNOV BA5 HOW hx
                    generalize strOfNums sx = un at *
                    rw [World.size_setCell] at HX5
                    go_wp2_with (at_builtin; refine wpList_app1 24 78 3 32 _ i0 cV cV_len oneV rfl (.tmp 83) (.tmp 85) rfl Try.underlying24 hi hz0 hz1 hz2 rfl (by omega) w.heap.size u10 done rfl HO5.out w3.heap.size 1 (1, 0, un) rfl HX5.out (by omega) (by omega) HB5.out.size ?_; intro v' w6 hown6 hgr6)
                    have H3 := hid' (HPUSH.out v' w6 hown6 (grown_below (w0 := 0) HB5.out hgr6 HO5.out HB5.out.size))
                    clear hown6 hgr6 HPUSH HO5 HB5 HX5
                    generalize hdl : done.length = dl at *
                    go_wp2
                    go_roundg k
                    case measure => omega
                    case rel => exact H3.out
                  · have HZ := hid' (HNO.out _ hlo hhi (bel_trans' HBE.out hW3) (HNOV.out hno))
                    have her' : (er != 0) = true := by simpa using her
                    clear HC HX0 HBA X3 X4 hW3 hrel hb3 hno HRL HNOV HOW hx HNO HOK
                    generalize strOfNums sx = un at *
                    go_wp2
                    go_ret3
                    exact HZ.out
    · have HZ := hid' (HNO.out w1 hlo hhi HB1.out (fun y r hy e => by
        unfold rowB listB at e
        rw [List.append_assoc] at e
        exact get_no hat hrel (by omega) y.length _ (by have := hy.1; omega) e))
      clear HOUT HNO HOK HGI HGT hrel
      go_wp2
      go_ret3
      exact HZ.out

end Go.Proofs.Ytgalmkhgbokidaa
