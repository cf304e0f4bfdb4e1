/-
  What is proved here: the document's numbers and GetFront.
-/
import Derived.Test.YtgalmkhgbokidaaWN
import Derived.Test.YtgalmkhgbokidaaWL
namespace Go.Proofs.Ytgalmkhgbokidaa
open Go.RowKit Go.Proofs
set_option maxRecDepth 20000
set_option linter.unusedVariables false
set_option linter.unusedSimpArgs false

def cI (z : Int) : List Value := [.int .i64 z]
theorem cI_len (x : Int) : (cI x).length = 1 := rfl
def IP := SP 1 cI 0

theorem IP.at {P : Nat → Prop} {w : World} {b off i : Nat} {l : List Int} (h : IP P w (some ⟨b, off, none⟩) l) (hi : i < l.length) : w.cell? ⟨b, off + i, none⟩ = some (.int .i64 (l.getD i 0)) := by
  obtain ⟨b', off', e, _, _, hc⟩ := h.cells (by rintro rfl; simp at hi)
  cases e
  have := hc i 0 hi (by omega)
  simpa [cI] using this

theorem Try.info3 : (Try.prog.info? 3).map (fun i => (i.zero, i.size, i.bytes)) = some (some (.int .i64 0), 1, 8) := by kernel_rfl

/-- A list that a call has made, of elements of k cells. -/
def OwnL {α : Type} (e k : Nat) (cs : α → List Value) (base : Nat) (w : World) (v : Value) (l : List α) : Prop := w.ownsRow base e k v l.length (l.flatMap cs)

theorem OwnL.nil {α : Type} {e k : Nat} {cs : α → List Value} {base : Nat} {w : World} : OwnL e k cs base w (.slice none 0 0) ([] : List α) := ⟨by simp, .inl ⟨rfl, rfl⟩⟩
theorem OwnL.below {α : Type} {e k : Nat} {cs : α → List Value} {base : Nat} {w w' : World} {v : Value} {l : List α} (h : OwnL e k cs base w v l) (hb : Below w.heap.size w w') : OwnL e k cs base w' v l := owns_below h hb

/-- One element more, which lies in a block of its own. -/
theorem wpList_app1 {α : Type} {w : World} {ops : Array Oper} {rest : List Oper} {o : Oper} {a : Act} {Q : Exit → Act → World → Prop} (t e k bytes : Nat) (z : Value) (i : TypeInfo) (cs : α → List Value) (hcs : ∀ x, (cs x).length = k) (hone : ∀ x, ∀ u ∈ cs x, u.oneCell' = true) (hgd : o.guard = none) (s x : Operand)
    (ho : o.op = .call { callee := .builtin .append, args := #[s, x], argTypes := #[t, t] }) (ht : Try.prog.underlying t = some (.slice e)) (hi : Try.prog.info? e = some i) (hz : i.zero = some z) (hsize : i.size = k) (hby : i.bytes = bytes) (hzs : z.cells.size = k) (hk : 0 < k)
    (base : Nat) (v : Value) (l : List α) (hs : a.eval s = v) (hown : OwnL e k cs base w v l) (g c : Nat) (y : α) (hx : a.eval x = .slice (some ⟨g, 0, none⟩) 1 c) (hy : Bx w g (cs y).toArray e) (hlen : l.length ≤ 100000) (hbyt : bytes ≤ 1000) (hbase : base ≤ w.heap.size)
    (h : ∀ v' w', OwnL e k cs base w' v' (l ++ [y]) → w.grownBy w' v.ownBlock → wpList Try.prog ops Q rest (a.put o.dst v') w') : wpList Try.prog ops Q (o :: rest) a w := by
  have hmul : (l.length + 1) * bytes ≤ 140737488355328 := Nat.le_trans (Nat.mul_le_mul (show l.length + 1 ≤ 100001 by omega) hbyt) (by omega)
  refine wpList_append_own w hgd s x t ho base e i z k bytes ht hi hz hsize hby hzs hk v l.length (l.flatMap cs) hs hown ⟨g, 0, none⟩ 1 c (cs y) hx (by rw [hcs]; omega) (fun j u hj => ?_) (hone y) (by unfold maxLen; omega) hmul hbase (fun v' w' h1 h2 _ => h v' w' ?_ h2)
  · rw [addr_add, Nat.zero_add, hy.cell j, List.getElem?_toArray]; exact hj
  · unfold OwnL
    rw [List.length_append, List.length_singleton, List.flatMap_append, List.flatMap_singleton]
    exact h1

theorem grown_below {base w0 : Nat} {a w w' : World} {v : Value} {e k n : Nat} {xs : List Value} (h : Below base a w) (hg : w.grownBy w' v.ownBlock) (ho : w.ownsRow base e k v n xs) (hb : base ≤ w.heap.size) : Below base a w' :=
  h.grown hg hb (fun j hj => (ho.lt j hj).1)

/-- What numbers tells. -/
def NAns (l : List Int) (at' many : Nat) (w : World) (e : Ending) (w' : World) : Prop :=
  Below w.heap.size w w' ∧ ((∃ (xs : List Int) (a : Option Addr) (c nx : Nat), e = .returned (.tuple #[.slice a xs.length c, .int .i64 (nx : Int), .bool true]) ∧ xs.length = many ∧ (∀ z ∈ xs, R64 z) ∧ l.drop at' = xs.flatMap oneB ++ l.drop nx ∧ nx ≤ l.length ∧ IP (Since w.heap.size) w' a xs) ∨
   (e = .returned (.tuple #[.slice none 0 0, .int .i64 0, .bool false]) ∧ ∀ (xs : List Int) r, xs.length = many → (∀ z ∈ xs, R64 z) → l.drop at' ≠ xs.flatMap oneB ++ r))

def nmInv (w : World) (l : List Int) (at' n k : Nat) (av out i : Value) (wr : World) : Prop :=
  ∃ (done : List Int) (nx : Nat), done.length + k = n ∧ i = .int .i64 (done.length : Int) ∧ av = .int .i64 (nx : Int) ∧ nx ≤ l.length ∧ OwnL 3 1 cI w.heap.size wr out done ∧ (∀ z ∈ done, R64 z) ∧ l.drop at' = done.flatMap oneB ++ l.drop nx ∧ Below w.heap.size w wr

set_option maxHeartbeats 4000000 in
theorem numbers_any (w : World) (ba : Option Addr) (cap : Nat) (l : List Int) (at' many : Nat) (hb : Bts w.heap.size w ba l) (ha : at' ≤ l.length) (hc : l.length ≤ cap) (hl : l.length ≤ 1000000000) (hm : many ≤ 1000) :
    Calls Try.prog 46 #[.slice ba l.length cap, .int .i64 (at' : Int), .int .i64 (many : Int)] w (NAns l at' many w) := by
  obtain ⟨i0, hi, hz0, hz1, hz2⟩ := info_parts Try.info3
  have HG := hid' (fun W (hW : Below w.heap.size w W) (p : Int) => rgetInt_any W ba cap l p ((hb.keep hW).mono hW.size) hc hl)
  have HI : Hid (∀ k av out i wr, nmInv w l at' many k av out i wr → ∃ (done : List Int) (nx : Nat), done.length + k = many ∧ i = .int .i64 (done.length : Int) ∧ av = .int .i64 (nx : Int) ∧ nx ≤ l.length ∧ OwnL 3 1 cI w.heap.size wr out done ∧ (∀ z ∈ done, R64 z) ∧ l.drop at' = done.flatMap oneB ++ l.drop nx ∧ Below w.heap.size w wr) := fun k av out i wr h => h
  have HYES : Hid (∀ (xs : List Int) (v : Value) (nx : Nat) W, OwnL 3 1 cI w.heap.size W v xs → xs.length = many → (∀ z ∈ xs, R64 z) → l.drop at' = xs.flatMap oneB ++ l.drop nx → nx ≤ l.length → Below w.heap.size w W → NAns l at' many w (.returned (.tuple #[v, .int .i64 (nx : Int), .bool true])) W) := fun xs v nx W h1 h2 h3 h4 h5 h6 => by
    obtain ⟨a, c, rfl, hs, _⟩ := SP.of_owns (d := 0) cI_len h1
    exact ⟨h6, .inl ⟨xs, a, c, nx, rfl, h2, h3, h4, h5, hs⟩⟩
  have HNO : Hid (∀ W, Below w.heap.size w W → (∀ (xs : List Int) r, xs.length = many → (∀ z ∈ xs, R64 z) → l.drop at' ≠ xs.flatMap oneB ++ r) → NAns l at' many w (.returned (.tuple #[.slice none 0 0, .int .i64 0, .bool false])) W) := fun W h1 h2 => ⟨h1, .inr ⟨rfl, h2⟩⟩
  have H0 : Hid (nmInv w l at' many many (.int .i64 (at' : Int)) (.slice none 0 0) (.int .i64 0) w) := ⟨[], at', by simp, rfl, rfl, ha, OwnL.nil, by simp, by simp, Below.refl _ _⟩
  obtain ⟨ln, hln⟩ : ∃ n, l.length = n := ⟨_, rfl⟩
  rw [hln] at HG ⊢
  have HLN := hid' hln
  clear hb hln
  go_enter Try.func46, Try.ntmps46
  go_wp2
  go_loopg [1, 9, 10] many (fun k av out i wr => nmInv w l at' many k av out i wr)
  case atStart => exact H0.out
  case round =>
    obtain ⟨done, nx, hj, rfl, rfl, hnx, hown, hrng, hdr, hbel⟩ := HI.out _ _ _ _ _ hrel
    clear hrel H0
    cases gk with
    | zero =>
      have hdn : done.length = many := by omega
      have HZ := hid' (HYES.out done _ nx wr hown hdn hrng hdr hnx hbel)
      clear HYES HNO HG hown hrng hdr hbel
      rw [hdn]
      go_wp2
      go_ret3
      exact HZ.out
    | succ k =>
      have hlt : done.length < many := by omega
      have HC := hid' (HG.out wr hbel (nx : Int))
      have HO := hid' hown
      have HB := hid' hbel
      have HR := hid' hrng
      have HD := hid' hdr
      clear hown hbel hrng hdr
      go_wp2_with fail
      refine HC.out.mono ?_
      rintro e w3 ⟨⟨n, next, er, rfl, hrel⟩, hb3⟩
      have HB3 := hid' (bel_trans' HB.out hb3)
      by_cases h0 : er = 0
      · subst h0
        obtain ⟨y1, y2, y3, y4, y5⟩ := get_yes hrel
        obtain ⟨nx3, rfl⟩ := Int.eq_ofNat_of_zero_le (show 0 ≤ next by omega)
        rw [Int.toNat_natCast] at y1 y5
        have hr64 := unzig_rng y2 y3
        have hd2 : l.drop at' = (done ++ [unzig n]).flatMap oneB ++ l.drop nx3 := by
          rw [HD.out, y1, List.flatMap_append, List.flatMap_singleton, List.append_assoc]
          unfold oneB
          rw [zig_unzig y2]
        have HO3 := hid' (OwnL.below (HO.out.below hb3) ((Below.refl _ w3).alloc (Nat.le_refl _) (.cells #[.int .i64 (unzig n)] 3)))
        have HBX := hid' (Bx.new w3 #[.int .i64 (unzig n)] 3)
        have HB4 := hid' (bel_alloc HB3.out (.cells #[.int .i64 (unzig n)] 3))
        have HPUSH : Hid (∀ v' w', OwnL 3 1 cI w.heap.size w' v' (done ++ [unzig n]) → Below w.heap.size w w' → nmInv w l at' many k (.int .i64 (nx3 : Int)) v' (.int .i64 ((done.length : Int) + 1)) w') := fun v' w' h1 h2 => ⟨done ++ [unzig n], nx3, by simp; omega, by simp, rfl, y5, h1, fun z hz => by
          rcases List.mem_append.1 hz with hz | hz
          · exact HR.out z hz
          · simp at hz; subst hz; exact hr64, hd2, h2⟩
        clear hrel y1 y2 y3 y4 y5 hr64 hd2 HC HO HR HD hb3 HG
        generalize unzig n = un at *
        go_wp2_with (at_builtin; refine wpList_app1 90 3 1 8 (.int .i64 0) i0 cI cI_len (fun x u hu => by simp [cI] at hu; subst hu; rfl) rfl (.tmp 28) (.tmp 30) rfl Try.underlying90 hi hz0 hz1 hz2 rfl (by omega) w.heap.size u9 done rfl HO3.out w3.heap.size 1 un rfl HBX.out (by omega) (by omega) HB4.out.size ?_; intro v' w4 hown4 hgr4)
        have H3 := hid' (HPUSH.out v' w4 hown4 (grown_below (w0 := 0) HB4.out hgr4 HO3.out HB4.out.size))
        clear hown4 hgr4 HPUSH
        generalize hdl : done.length = dl at *
        go_wp2
        go_roundg k
        case measure => omega
        case rel => exact H3.out
      · have HZ := hid' (HNO.out w3 HB3.out (fun xs r hx hxr e => by
          have hlx : done.length < xs.length := by omega
          have el : xs = xs.take done.length ++ (xs[done.length] :: xs.drop (done.length + 1)) := by rw [← List.drop_eq_getElem_cons hlx, List.take_append_drop]
          rw [HD.out, el, List.flatMap_append, List.flatMap_cons, List.append_assoc, List.append_assoc] at e
          obtain ⟨_, e4⟩ := flat_pf pf_one done (xs.take done.length) _ _ (by rw [List.length_take]; omega) HR.out (fun y hy => hxr y (List.mem_of_mem_take hy)) e
          exact get_no hnx hrel h0 _ _ (zig_small (hxr _ (List.getElem_mem hlx))) e4))
        have h0' : (er != 0) = true := by simpa using h0
        clear hrel HC HO HR HD hb3 HG HNO HYES
        go_wp2
        go_ret3
        exact HZ.out

end Go.Proofs.Ytgalmkhgbokidaa
