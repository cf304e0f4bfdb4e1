/-
  What is proved here: how decoding ends, and that it ends in one way; lists of commands that a call has made.
  What is proved here: Decode of the program.
  What is proved here: Decode of the document.
-/
import Derived.Test.YtgalmkhgbokidaaMgP
import Derived.Maps.AppendAt

namespace Go.Proofs.Ytgalmkhgbokidaa
open Go.RowKit Go.Proofs
set_option maxRecDepth 20000
set_option linter.unusedVariables false
set_option linter.unusedSimpArgs false

/-- Commands that are told from a place to a place. -/
def Rch (l : List Int) (p : Nat) (X : List Cm) (q : Nat) : Prop := (∀ c ∈ X, Nice c) ∧ l.drop p = X.flatMap cmdB ++ l.drop q ∧ q ≤ l.length

theorem Rch.nil {l : List Int} {p : Nat} (h : p ≤ l.length) : Rch l p [] p := ⟨by simp, by simp, h⟩
theorem Rch.push {l : List Int} {p q q' : Nat} {X : List Cm} {c : Cm} (h : Rch l p X q) (hn : Nice c) (hd : l.drop q = cmdB c ++ l.drop q') (hq : q' ≤ l.length) : Rch l p (X ++ [c]) q' :=
  ⟨fun z hz => by
    rcases List.mem_append.1 hz with hz | hz
    · exact h.1 z hz
    · simp at hz; subst hz; exact hn, by rw [List.flatMap_append, List.flatMap_singleton, List.append_assoc, ← hd]; exact h.2.1, hq⟩

theorem flat_uniq : ∀ (X Y : List Cm) (r s : List Int), (∀ c ∈ X, Nice c) → (∀ c ∈ Y, Nice c) → X.flatMap cmdB ++ r = Y.flatMap cmdB ++ s → X.length ≤ Y.length → ∃ Z, Y = X ++ Z ∧ r = Z.flatMap cmdB ++ s := by
  intro X
  induction X with
  | nil => intro Y r s _ _ h _; exact ⟨Y, rfl, by simpa using h⟩
  | cons x X ih =>
    intro Y r s hX hY h hl
    cases Y with
    | nil => simp at hl
    | cons y Y =>
      rw [List.flatMap_cons, List.flatMap_cons, List.append_assoc, List.append_assoc] at h
      obtain ⟨rfl, h2⟩ := pf_cmd x y _ _ (hX x (by simp)) (hY y (by simp)) h
      obtain ⟨Z, rfl, hz⟩ := ih Y r s (fun c hc => hX c (by simp [hc])) (fun c hc => hY c (by simp [hc])) h2 (by simpa using hl)
      exact ⟨Z, rfl, hz⟩

/-- How decoding ends. -/
def DEnd (l : List Int) (X : List Cm) (er at' : Int) : Prop :=
  (er = 6 ∧ X = [] ∧ at' = 0 ∧ ∀ n r, n ≤ 4096 → l ≠ bytesOf n ++ r) ∨
  ∃ (n : Nat) (Y : List Cm) (p q : Nat), n ≤ 4096 ∧ l = bytesOf n ++ l.drop p ∧ p ≤ l.length ∧ Rch l p Y q ∧ at' = q ∧
    ((er = 6 ∧ X = [] ∧ Y.length < n ∧ ∀ y r, Nice y → l.drop q ≠ cmdB y ++ r) ∨ (er = 6 ∧ X = [] ∧ Y.length = n ∧ q < l.length) ∨ (er = 0 ∧ X = Y ∧ Y.length = n ∧ q = l.length))

theorem drop_inj {l : List Int} {p q : Nat} (h : l.drop p = l.drop q) (hp : p ≤ l.length) (hq : q ≤ l.length) : p = q := by
  have := congrArg List.length h
  rw [List.length_drop, List.length_drop] at this
  omega

theorem rch_short {l : List Int} {p q q' : Nat} {Y Y' : List Cm} (h : Rch l p Y q) (h' : Rch l p Y' q') (hlt : Y.length < Y'.length) (hno : ∀ y r, Nice y → l.drop q ≠ cmdB y ++ r) : False := by
  obtain ⟨Z, hZ, hd⟩ := flat_uniq Y Y' _ _ h.1 h'.1 (h.2.1.symm.trans h'.2.1) (by omega)
  cases Z with
  | nil => rw [hZ] at hlt; simp at hlt
  | cons z Z =>
    rw [List.flatMap_cons, List.append_assoc] at hd
    exact hno z _ (h'.1 z (by rw [hZ]; simp)) hd

theorem DEnd.uniq {l : List Int} {X X' : List Cm} {er er' a a' : Int} (h : DEnd l X er a) (h' : DEnd l X' er' a') : X = X' ∧ er = er' ∧ a = a' := by
  rcases h with ⟨rfl, rfl, rfl, hno⟩ | ⟨n, Y, p, q, hn, hl, hp, hr, rfl, hc⟩
  · rcases h' with ⟨rfl, rfl, rfl, _⟩ | ⟨n, Y, p, q, hn, hl, _⟩
    · exact ⟨rfl, rfl, rfl⟩
    · exact absurd hl (hno n _ hn)
  · rcases h' with ⟨_, _, _, hno⟩ | ⟨n', Y', p', q', hn', hl', hp', hr', rfl, hc'⟩
    · exact absurd hl (hno n _ hn)
    · obtain ⟨rfl, hpp⟩ := bytes_pf (hl.symm.trans hl')
      obtain rfl := drop_inj hpp hp hp'
      rcases Nat.lt_trichotomy Y.length Y'.length with hlt | heq | hlt
      · rcases hc with ⟨_, _, _, hno⟩ | ⟨_, _, h3, _⟩ | ⟨_, _, h3, _⟩
        · exact (rch_short hr hr' hlt hno).elim
        · rcases hc' with ⟨_, _, h4, _⟩ | ⟨_, _, h4, _⟩ | ⟨_, _, h4, _⟩ <;> omega
        · rcases hc' with ⟨_, _, h4, _⟩ | ⟨_, _, h4, _⟩ | ⟨_, _, h4, _⟩ <;> omega
      · obtain ⟨Z, hZ, hd⟩ := flat_uniq Y Y' _ _ hr.1 hr'.1 (hr.2.1.symm.trans hr'.2.1) (by omega)
        have hz : Z = [] := by
          have := congrArg List.length hZ
          rw [List.length_append] at this
          exact List.length_eq_zero_iff.1 (by omega)
        subst hz
        rw [List.append_nil] at hZ
        subst hZ
        obtain rfl := drop_inj (by simpa using hd) hr.2.2 hr'.2.2
        rcases hc with ⟨rfl, rfl, h3, _⟩ | ⟨rfl, rfl, h3, h5⟩ | ⟨rfl, rfl, h3, h5⟩ <;> rcases hc' with ⟨rfl, rfl, h4, _⟩ | ⟨rfl, rfl, h4, h6⟩ | ⟨rfl, rfl, h4, h6⟩ <;> first | exact ⟨rfl, rfl, rfl⟩ | omega
      · rcases hc' with ⟨_, _, _, hno⟩ | ⟨_, _, h3, _⟩ | ⟨_, _, h3, _⟩
        · exact (rch_short hr' hr hlt hno).elim
        · rcases hc with ⟨_, _, h4, _⟩ | ⟨_, _, h4, _⟩ | ⟨_, _, h4, _⟩ <;> omega
        · rcases hc with ⟨_, _, h4, _⟩ | ⟨_, _, h4, _⟩ | ⟨_, _, h4, _⟩ <;> omega

theorem DEnd.nice {l : List Int} {X : List Cm} {er a : Int} (h : DEnd l X er a) : X.length ≤ 4096 ∧ (∀ c ∈ X, Nice c) ∧ (er = 0 → l = bytesOf X.length ++ X.flatMap cmdB ∧ a = l.length) ∧ (er ≠ 0 → er = 6) := by
  rcases h with ⟨rfl, rfl, rfl, hno⟩ | ⟨n, Y, p, q, hn, hl, hp, hr, rfl, hc⟩
  · exact ⟨by simp, by simp, by simp, by simp⟩
  · rcases hc with ⟨rfl, rfl, _, _⟩ | ⟨rfl, rfl, _, _⟩ | ⟨rfl, rfl, h3, h4⟩
    · exact ⟨by simp, by simp, by simp, by simp⟩
    · exact ⟨by simp, by simp, by simp, by simp⟩
    · refine ⟨by omega, hr.1, fun _ => ⟨?_, by rw [h4]⟩, by simp⟩
      rw [h3]
      have := hr.2.1
      rw [h4, List.drop_length, List.append_nil] at this
      rw [← this]
      exact hl

theorem Try.infoCmd : (Try.prog.info? 31).map (fun i => (i.zero, i.size, i.bytes)) = some (some (cmV c0 s0), 9, 120) := by kernel_rfl

/-- A list of commands that a call has made. -/
structure OwnC (B : Nat) (w : World) (v : Value) (X : List (Cm × CmS)) : Prop where
  own : OwnL 31 9 cCm B w v X
  each : ∀ q ∈ X, CmR (fun k => B ≤ k ∧ some k ≠ v.ownBlock) w q.1 q.2

theorem OwnC.nil (B : Nat) (w : World) : OwnC B w (.slice none 0 0) [] := ⟨OwnL.nil, by simp⟩
theorem OwnC.below {B : Nat} {w w' : World} {v : Value} {X : List (Cm × CmS)} (h : OwnC B w v X) (hb : Below w.heap.size w w') : OwnC B w' v X := ⟨h.own.below hb, fun q hq => (h.each q hq).on hb⟩

theorem cCm_one (q : Cm × CmS) : ∀ u ∈ cCm q, u.oneCell' = true := by
  intro u hu
  simp [cCm, cmA] at hu
  rcases hu with rfl | rfl | rfl | rfl | rfl | rfl | rfl | rfl | rfl <;> rfl

theorem OwnC.cms {B : Nat} {w : World} {v : Value} {X : List (Cm × CmS)} (h : OwnC B w v X) : ∃ a c, v = .slice a X.length c ∧ Cms (Since B) w a X ∧ Sh a X.length c := by
  obtain ⟨a, c, rfl, hs, hsh⟩ := SP.of_owns (d := (c0, s0)) cCm_len h.own
  exact ⟨a, c, rfl, ⟨hs, fun q hq => (h.each q hq).mono (fun k hk => hk.1)⟩, hsh⟩

theorem OwnC.push {B : Nat} {w w' : World} {v v' : Value} {X : List (Cm × CmS)} {c : Cm} {s : CmS} (h : OwnC B w v X) (hc : CmR (fun k => B ≤ k ∧ some k ≠ v.ownBlock) w c s) (h1 : OwnL 31 9 cCm B w' v' (X ++ [(c, s)])) (hg : w.grownBy w' v.ownBlock) (hv : v'.ownBlock = v.ownBlock ∨ v'.ownBlock = some w.heap.size) : OwnC B w' v' (X ++ [(c, s)]) := by
  have key : ∀ k, (B ≤ k ∧ some k ≠ v.ownBlock) → k < w.heap.size → w'.heap[k]? = w.heap[k]? ∧ (B ≤ k ∧ some k ≠ v'.ownBlock) := fun k hk hl => by
    refine ⟨hg.block k hl hk.2, hk.1, ?_⟩
    rcases hv with e | e
    · rw [e]; exact hk.2
    · rw [e]; intro e2; cases e2; omega
  refine ⟨h1, fun q hq => ?_⟩
  rcases List.mem_append.1 hq with hq | hq
  · exact (h.each q hq).keep key hg.size
  · simp at hq; subst hq; exact hc.keep key hg.size

/-- Memory that was made since is apart from a list that was there. -/
theorem OwnC.apart {B : Nat} {w : World} {v : Value} {X : List (Cm × CmS)} (h : OwnC B w v X) (hB : B ≤ w.heap.size) {k : Nat} (hk : w.heap.size ≤ k) : B ≤ k ∧ some k ≠ v.ownBlock := by
  refine ⟨by omega, fun e => ?_⟩
  have := (World.ownsRow.lt h.own k e.symm).2
  omega

/-- One command more, which lies in a block of its own. -/
theorem wpList_appC {w : World} {ops : Array Oper} {rest : List Oper} {o : Oper} {a : Act} {Q : Exit → Act → World → Prop} (i : TypeInfo) (hgd : o.guard = none) (s x : Operand)
    (ho : o.op = .call { callee := .builtin .append, args := #[s, x], argTypes := #[33, 33] }) (ht : Try.prog.underlying 33 = some (.slice 31)) (hi : Try.prog.info? 31 = some i) (hz : i.zero = some (cmV c0 s0)) (hsize : i.size = 9) (hby : i.bytes = 120)
    (base : Nat) (v : Value) (X : List (Cm × CmS)) (hs : a.eval s = v) (hown : OwnC base w v X) (g c : Nat) (y : Cm) (sy : CmS) (hx : a.eval x = .slice (some ⟨g, 0, none⟩) 1 c) (hy : Bx w g (cmA y sy) 31) (hc : CmR (fun k => base ≤ k ∧ some k ≠ v.ownBlock) w y sy) (hlen : X.length ≤ 100000) (hbase : base ≤ w.heap.size)
    (h : ∀ v' w', OwnC base w' v' (X ++ [(y, sy)]) → w.grownBy w' v.ownBlock → wpList Try.prog ops Q rest (a.put o.dst v') w') : wpList Try.prog ops Q (o :: rest) a w := by
  refine wpList_append_own_at w hgd s x 33 ho base 31 i (cmV c0 s0) 9 120 ht hi hz hsize hby (by rfl) (by omega) v X.length (X.flatMap cCm) hs hown.own ⟨g, 0, none⟩ 1 c (cCm (y, sy)) hx (by rw [cCm_len]) (fun j u hj => ?_) (cCm_one _) (by unfold maxLen; omega) (by omega) hbase (fun v' w' h1 h2 _ h4 => h v' w' (hown.push hc ?_ h2 h4) h2)
  · rw [addr_add, Nat.zero_add, hy.cell j, ← Array.getElem?_toList]; exact hj
  · unfold OwnL
    rw [List.length_append, List.length_singleton, List.flatMap_append, List.flatMap_singleton]
    exact h1

/-- What Decode tells. -/
def DAns (l : List Int) (w : World) (e : Ending) (w' : World) : Prop :=
  ∃ (X : List (Cm × CmS)) (a : Option Addr) (c : Nat) (er at' : Int), e = .returned (.tuple #[.slice a X.length c, .int .i64 er, .int .i64 at']) ∧ DEnd l (X.map (·.1)) er at' ∧ Cms (Since w.heap.size) w' a X ∧ Below w.heap.size w w'

end Go.Proofs.Ytgalmkhgbokidaa

namespace Go.Proofs.Ytgalmkhgbokidaa
open Go.RowKit Go.Proofs
set_option maxRecDepth 20000
set_option linter.unusedVariables false
set_option linter.unusedSimpArgs false

/-- What holds in the loop of Decode. -/
def dcInv (w : World) (l : List Int) (p n k : Nat) (lv ev av i : Value) (wr : World) : Prop :=
  ∃ (X : List (Cm × CmS)) (q : Nat), X.length + k = n ∧ ev = .int .i64 0 ∧ av = .int .i64 (q : Int) ∧ i = .int .u64 (X.length : Int) ∧ Rch l p (X.map (·.1)) q ∧ OwnC w.heap.size wr lv X ∧ Below w.heap.size w wr

set_option maxHeartbeats 8000000 in
theorem decode_any (w : World) (ba : Option Addr) (cap : Nat) (l : List Int) (hb : Bts w.heap.size w ba l) (hc : l.length ≤ cap) (hl : l.length ≤ 1000000000) :
    Calls Try.prog 27 #[.slice ba l.length cap] w (DAns l w) := by
  obtain ⟨i0, hi, hz0, hz1, hz2⟩ := info_parts Try.infoCmd
  have HG := hid' (get_any w ba cap l 0 hb hc hl)
  have HGET := hid' (fun W (hW : Below w.heap.size w W) (p : Int) => wGet_any W ba cap l p ((hb.keep hW).mono hW.size) hc hl)
  have HNO : Hid (∀ W at', DEnd l [] 6 at' → Below w.heap.size w W → DAns l w (.returned (.tuple #[.slice none 0 0, .int .i64 6, .int .i64 at'])) W) := fun W at' h hW => ⟨[], none, 0, 6, at', rfl, h, ⟨SP.nil _ _ _, by simp⟩, hW⟩
  have HYES : Hid (∀ W v X at', DEnd l (X.map (·.1)) 0 at' → OwnC w.heap.size W v X → Below w.heap.size w W → DAns l w (.returned (.tuple #[v, .int .i64 0, .int .i64 at'])) W) := fun W v X at' h hX hW => by
    obtain ⟨a, c, rfl, hcm, _⟩ := hX.cms
    exact ⟨X, a, c, 0, at', rfl, h, hcm, hW⟩
  obtain ⟨ln, hln⟩ : ∃ n, l.length = n := ⟨_, rfl⟩
  rw [hln] at HG HGET ⊢
  have HLN := hid' hln
  clear hb hln
  go_enter Try.func27, Try.ntmps27
  go_wp2_with fail
  refine HG.out.mono ?_
  rintro e w1 ⟨⟨n, next, er, rfl, hrel⟩, hw1⟩
  subst hw1
  clear HG
  rcases getRel_out hrel with ⟨rfl, hout⟩ | ⟨h9, hlo, hhi, her⟩
  · omega
  · rcases her with rfl | rfl
    · obtain ⟨y1, y2, y3, y4, y5⟩ := get_yes (at' := 0) hrel
      obtain ⟨m, rfl⟩ := Int.eq_ofNat_of_zero_le y2
      rw [Int.toNat_natCast] at y1
      obtain ⟨nxt, rfl⟩ := Int.eq_ofNat_of_zero_le (show 0 ≤ next by omega)
      rw [Int.toNat_natCast] at y1 y5
      rw [List.drop_zero] at y1
      have HY1 := hid' y1
      clear y1 hrel y4
      by_cases hmany : 4096 < m
      · have HZ := hid' (HNO.out w1 0 (.inl ⟨rfl, rfl, rfl, fun k r hk e => by
          have := (bytes_pf (HY1.out.symm.trans e)).1
          omega⟩) (Below.refl _ _))
        have hm' : (4096 : Int) < (m : Int) := by omega
        clear HNO HYES HGET
        go_wp2
        go_ret3
        exact HZ.out
      · have hm' : ¬ (4096 : Int) < (m : Int) := by omega
        have H0 : Hid (dcInv w1 l nxt m m (.slice none 0 0) (.int .i64 0) (.int .i64 (nxt : Int)) (.int .u64 0) w1) := ⟨[], nxt, by simp, rfl, rfl, rfl, Rch.nil y5, OwnC.nil _ _, Below.refl _ _⟩
        have HI : Hid (∀ k lv ev av i wr, dcInv w1 l nxt m k lv ev av i wr → ∃ (X : List (Cm × CmS)) (q : Nat), X.length + k = m ∧ ev = .int .i64 0 ∧ av = .int .i64 (q : Int) ∧ i = .int .u64 (X.length : Int) ∧ Rch l nxt (X.map (·.1)) q ∧ OwnC w1.heap.size wr lv X ∧ Below w1.heap.size w1 wr) := fun k lv ev av i wr h => h
        have HEND : Hid (∀ (Y : List Cm) (q : Nat) X er, Rch l nxt Y q → ((er = 6 ∧ X = [] ∧ Y.length < m ∧ ∀ y r, Nice y → l.drop q ≠ cmdB y ++ r) ∨ (er = 6 ∧ X = [] ∧ Y.length = m ∧ q < l.length) ∨ (er = 0 ∧ X = Y ∧ Y.length = m ∧ q = l.length)) → DEnd l X er (q : Int)) := fun Y q X er h1 h2 => .inr ⟨m, Y, nxt, q, by omega, HY1.out, y5, h1, rfl, h2⟩
        clear HY1
        go_wp2
        go_loopg [2, 3, 4, 22] m (fun k lv ev av i wr => dcInv w1 l nxt m k lv ev av i wr)
        case atStart => exact H0.out
        case round =>
          obtain ⟨X, q, hj, rfl, rfl, rfl, hrch, hown, hbel⟩ := HI.out _ _ _ _ _ _ hrel
          clear hrel H0
          have hq := hrch.2.2
          cases gk with
          | zero =>
            have hXm : X.length = m := by omega
            by_cases hlt : q < l.length
            · have HZ := hid' (HNO.out wr (q : Int) (HEND.out _ q [] 6 hrch (.inr (.inl ⟨rfl, rfl, by rw [List.length_map]; omega, hlt⟩))) hbel)
              have hlt' : (q : Int) < (ln : Int) := by rw [← HLN.out]; omega
              rw [hXm]
              clear HNO HYES HGET HEND hrch hown hbel
              go_wp2
              go_ret3
              exact HZ.out
            · have HZ := hid' (HYES.out wr _ X (q : Int) (HEND.out _ q _ 0 hrch (.inr (.inr ⟨rfl, rfl, by rw [List.length_map]; omega, by omega⟩))) hown hbel)
              have hlt' : ¬ (q : Int) < (ln : Int) := by rw [← HLN.out]; omega
              rw [hXm]
              clear HNO HYES HGET HEND hrch hown hbel
              go_wp2
              go_ret3
              exact HZ.out
          | succ k =>
            have hlt : (X.length : Int) < (m : Int) := by omega
            have HG1 := hid' (HGET.out wr hbel (q : Int))
            have HR := hid' hrch
            have HO := hid' hown
            have HB := hid' hbel
            obtain ⟨xl, hxl⟩ : ∃ n, X.length = n := ⟨_, rfl⟩
            have HXL := hid' hxl
            rw [hxl] at hlt hj ⊢
            clear hrch hown hbel hxl
            go_wp2_with fail
            refine HG1.out.mono ?_
            rintro e2 w2 ⟨c, v, nx, er, rfl, ⟨sc, hv, hcm⟩, hb2, hcase⟩
            subst hv
            have HB2 := hid' (bel_trans' HB.out hb2)
            rcases hcase with ⟨h, _⟩ | ⟨_, _, rfl, hnice, hdrop, hnn, hnl⟩ | ⟨_, _, rfl, rfl, rfl, hno⟩
            · omega
            · obtain ⟨nx, rfl⟩ := Int.eq_ofNat_of_zero_le (show 0 ≤ nx by omega)
              rw [Int.toNat_natCast, Int.toNat_natCast] at hdrop
              rw [Int.toNat_natCast] at hnl
              have HR2 := hid' (HR.out.push hnice hdrop hnl)
              have BA1 := (Below.refl w2.heap.size w2).alloc (Nat.le_refl _) (.cells (cmA c sc) 31)
              have BA2 := (Below.refl (w2.alloc (.cells (cmA c sc) 31)).heap.size _).alloc (Nat.le_refl _) (.cells (cmA c sc) 31)
              have HO3 := hid' ((HO.out.below (bel_trans' hb2 BA1)).below BA2)
              have hbx := Bx.new (w2.alloc (.cells (cmA c sc) 31)) (cmA c sc) 31
              rw [World.size_alloc] at hbx
              have HBX := hid' hbx
              have HCM := hid' ((((hcm.mono (fun k hk => HO.out.apart HB.out.size hk)).on BA1).on BA2))
              have HB4 := hid' (bel_trans' HB2.out (bel_trans' BA1 BA2))
              have HPUSH : Hid (∀ v' w', OwnC w1.heap.size w' v' (X ++ [(c, sc)]) → Below w1.heap.size w1 w' → dcInv w1 l nxt m k v' (.int .i64 0) (.int .i64 (nx : Int)) (.int .u64 ((xl : Int) + 1)) w') := fun v' w' h1 h2 => ⟨X ++ [(c, sc)], nx, by rw [List.length_append, List.length_singleton, HXL.out]; omega, rfl, rfl, by rw [List.length_append, List.length_singleton, HXL.out]; simp, by rw [List.map_append]; exact HR2.out, h1, h2⟩
              have hxl5 : X.length ≤ 100000 := by rw [HXL.out]; omega
              clear hcm hb2 hnice hdrop hnn hnl HR HO HB HB2 BA1 BA2 hbx HG1 HNO HYES HGET HEND HR2
              unfold cmV cmA
              go_wp2_with (at_builtin; refine wpList_appC i0 rfl (.tmp 34) (.tmp 36) rfl Try.underlying33 hi hz0 hz1 hz2 w1.heap.size u2 X rfl HO3.out (w2.heap.size + 1) 1 c sc rfl HBX.out HCM.out hxl5 HB4.out.size ?_; intro v' w4 hown4 hgr4)
              have H3 := hid' (HPUSH.out v' w4 hown4 (grown_below (w0 := 0) HB4.out hgr4 HO3.out.own HB4.out.size))
              clear hown4 hgr4 HPUSH HO3 HBX HCM HB4
              go_wp2
              go_roundg k
              case measure => omega
              case rel => exact H3.out
            · have HZ := hid' (HNO.out (w2.alloc (.cells (cmA c0 sc) 31)) (q : Int) (HEND.out _ q [] 6 HR.out (.inl ⟨rfl, rfl, by rw [List.length_map, HXL.out]; omega, by simpa using hno⟩)) (bel_trans' HB2.out ((Below.refl w2.heap.size w2).alloc (Nat.le_refl _) _)))
              clear HNO HYES HGET HEND HG1 HR HO HB HB2 hno
              unfold cmV cmA
              go_wp2
              go_ret3
              exact HZ.out
    · have HZ := hid' (HNO.out w1 0 (.inl ⟨rfl, rfl, rfl, fun k r hk e => get_no (at' := 0) (by omega) hrel (by omega) k r (by omega) (by simpa using e)⟩) (Below.refl _ _))
      clear HNO HYES HGET hrel
      go_wp2
      go_ret3
      exact HZ.out

end Go.Proofs.Ytgalmkhgbokidaa

namespace Go.Proofs.Ytgalmkhgbokidaa
open Go.RowKit Go.Proofs
set_option maxRecDepth 20000
set_option linter.unusedVariables false
set_option linter.unusedSimpArgs false

/-- What holds in the loop of Decode. -/
def rdInv (w : World) (l : List Int) (p n k : Nat) (av lv i : Value) (wr : World) : Prop :=
  ∃ (X : List (Cm × CmS)) (q : Nat), X.length + k = n ∧ av = .int .i64 (q : Int) ∧ i = .int .i64 (X.length : Int) ∧ Rch l p (X.map (·.1)) q ∧ OwnC w.heap.size wr lv X ∧ Below w.heap.size w wr

set_option maxHeartbeats 8000000 in
theorem rDecode_any (w : World) (ba : Option Addr) (cap : Nat) (l : List Int) (hb : Bts w.heap.size w ba l) (hc : l.length ≤ cap) (hl : l.length ≤ 1000000000) :
    Calls Try.prog 28 #[.slice ba l.length cap] w (DAns l w) := by
  obtain ⟨i0, hi, hz0, hz1, hz2⟩ := info_parts Try.infoCmd
  have HG := hid' (rget_any w ba cap l 0 hb hc hl)
  have HGET := hid' (fun W (hW : Below w.heap.size w W) (p : Int) => rGet_any W ba cap l p ((hb.keep hW).mono hW.size) hc hl)
  have HNO : Hid (∀ W at', DEnd l [] 6 at' → Below w.heap.size w W → DAns l w (.returned (.tuple #[.slice none 0 0, .int .i64 6, .int .i64 at'])) W) := fun W at' h hW => ⟨[], none, 0, 6, at', rfl, h, ⟨SP.nil _ _ _, by simp⟩, hW⟩
  have HYES : Hid (∀ W v X at', DEnd l (X.map (·.1)) 0 at' → OwnC w.heap.size W v X → Below w.heap.size w W → DAns l w (.returned (.tuple #[v, .int .i64 0, .int .i64 at'])) W) := fun W v X at' h hX hW => by
    obtain ⟨a, c, rfl, hcm, _⟩ := hX.cms
    exact ⟨X, a, c, 0, at', rfl, h, hcm, hW⟩
  obtain ⟨ln, hln⟩ : ∃ n, l.length = n := ⟨_, rfl⟩
  rw [hln] at HG HGET ⊢
  have HLN := hid' hln
  clear hb hln
  go_enter Try.func28, Try.ntmps28
  go_wp2_with fail
  refine HG.out.mono ?_
  rintro e w1 ⟨⟨n, next, er, rfl, hrel⟩, hb1⟩
  have HBW := hid' hb1
  clear HG hb1
  rcases getRel_out hrel with ⟨rfl, hout⟩ | ⟨h9, hlo, hhi, her⟩
  · omega
  · rcases her with rfl | rfl
    · obtain ⟨y1, y2, y3, y4, y5⟩ := get_yes (at' := 0) hrel
      obtain ⟨m, rfl⟩ := Int.eq_ofNat_of_zero_le y2
      rw [Int.toNat_natCast] at y1
      obtain ⟨nxt, rfl⟩ := Int.eq_ofNat_of_zero_le (show 0 ≤ next by omega)
      rw [Int.toNat_natCast] at y1 y5
      rw [List.drop_zero] at y1
      have HY1 := hid' y1
      clear y1 hrel y4
      by_cases hmany : 4096 < m
      · have HZ := hid' (HNO.out w1 0 (.inl ⟨rfl, rfl, rfl, fun k r hk e => by
          have := (bytes_pf (HY1.out.symm.trans e)).1
          omega⟩) HBW.out)
        have hm' : (4096 : Int) < (m : Int) := by omega
        clear HNO HYES HGET
        go_wp2
        go_ret3
        exact HZ.out
      · have hm' : ¬ (4096 : Int) < (m : Int) := by omega
        have H0 : Hid (rdInv w l nxt m m (.int .i64 (nxt : Int)) (.slice none 0 0) (.int .i64 0) w1) := ⟨[], nxt, by simp, rfl, rfl, Rch.nil y5, OwnC.nil _ _, HBW.out⟩
        have HI : Hid (∀ k av lv i wr, rdInv w l nxt m k av lv i wr → ∃ (X : List (Cm × CmS)) (q : Nat), X.length + k = m ∧ av = .int .i64 (q : Int) ∧ i = .int .i64 (X.length : Int) ∧ Rch l nxt (X.map (·.1)) q ∧ OwnC w.heap.size wr lv X ∧ Below w.heap.size w wr) := fun k av lv i wr h => h
        have HEND : Hid (∀ (Y : List Cm) (q : Nat) X er, Rch l nxt Y q → ((er = 6 ∧ X = [] ∧ Y.length < m ∧ ∀ y r, Nice y → l.drop q ≠ cmdB y ++ r) ∨ (er = 6 ∧ X = [] ∧ Y.length = m ∧ q < l.length) ∨ (er = 0 ∧ X = Y ∧ Y.length = m ∧ q = l.length)) → DEnd l X er (q : Int)) := fun Y q X er h1 h2 => .inr ⟨m, Y, nxt, q, by omega, HY1.out, y5, h1, rfl, h2⟩
        clear HY1
        go_wp2
        go_loopg [6, 8, 9] m (fun k av lv i wr => rdInv w l nxt m k av lv i wr)
        case atStart => exact H0.out
        case round =>
          obtain ⟨X, q, hj, rfl, rfl, hrch, hown, hbel⟩ := HI.out _ _ _ _ _ hrel
          clear hrel H0
          have hq := hrch.2.2
          cases gk with
          | zero =>
            have hXm : X.length = m := by omega
            by_cases hlt : q < l.length
            · have HZ := hid' (HNO.out wr (q : Int) (HEND.out _ q [] 6 hrch (.inr (.inl ⟨rfl, rfl, by rw [List.length_map]; omega, hlt⟩))) hbel)
              have hlt' : ¬ (q : Int) = (ln : Int) := by rw [← HLN.out]; omega
              rw [hXm]
              clear HNO HYES HGET HEND hrch hown hbel
              go_wp2
              go_ret3
              exact HZ.out
            · have HZ := hid' (HYES.out wr _ X (q : Int) (HEND.out _ q _ 0 hrch (.inr (.inr ⟨rfl, rfl, by rw [List.length_map]; omega, by omega⟩))) hown hbel)
              have hlt' : (q : Int) = (ln : Int) := by rw [← HLN.out]; omega
              rw [hXm]
              clear HNO HYES HGET HEND hrch hown hbel
              go_wp2
              go_ret3
              exact HZ.out
          | succ k =>
            have hlt : (X.length : Int) < (m : Int) := by omega
            have HG1 := hid' (HGET.out wr hbel (q : Int))
            have HR := hid' hrch
            have HO := hid' hown
            have HB := hid' hbel
            obtain ⟨xl, hxl⟩ : ∃ n, X.length = n := ⟨_, rfl⟩
            have HXL := hid' hxl
            rw [hxl] at hlt hj ⊢
            clear hrch hown hbel hxl
            go_wp2_with fail
            refine HG1.out.mono ?_
            rintro e2 w2 ⟨c, v, nx, er, rfl, ⟨sc, hv, hcm⟩, hb2, hcase⟩
            subst hv
            have HB2 := hid' (bel_trans' HB.out hb2)
            rcases hcase with ⟨h, _⟩ | ⟨_, _, rfl, hnice, hdrop, hnn, hnl⟩ | ⟨_, _, rfl, rfl, rfl, hno⟩
            · omega
            · obtain ⟨nx, rfl⟩ := Int.eq_ofNat_of_zero_le (show 0 ≤ nx by omega)
              rw [Int.toNat_natCast, Int.toNat_natCast] at hdrop
              rw [Int.toNat_natCast] at hnl
              have HR2 := hid' (HR.out.push hnice hdrop hnl)
              have BA1 := (Below.refl w2.heap.size w2).alloc (Nat.le_refl _) (.cells (cmA c sc) 31)
              have BA2 := (Below.refl (w2.alloc (.cells (cmA c sc) 31)).heap.size _).alloc (Nat.le_refl _) (.cells (cmA c sc) 31)
              have HO3 := hid' ((HO.out.below (bel_trans' hb2 BA1)).below BA2)
              have hbx := Bx.new (w2.alloc (.cells (cmA c sc) 31)) (cmA c sc) 31
              rw [World.size_alloc] at hbx
              have HBX := hid' hbx
              have HCM := hid' ((((hcm.mono (fun k hk => HO.out.apart HB.out.size hk)).on BA1).on BA2))
              have HB4 := hid' (bel_trans' HB2.out (bel_trans' BA1 BA2))
              have HPUSH : Hid (∀ v' w', OwnC w.heap.size w' v' (X ++ [(c, sc)]) → Below w.heap.size w w' → rdInv w l nxt m k (.int .i64 (nx : Int)) v' (.int .i64 ((xl : Int) + 1)) w') := fun v' w' h1 h2 => ⟨X ++ [(c, sc)], nx, by rw [List.length_append, List.length_singleton, HXL.out]; omega, rfl, by rw [List.length_append, List.length_singleton, HXL.out]; simp, by rw [List.map_append]; exact HR2.out, h1, h2⟩
              have hxl5 : X.length ≤ 100000 := by rw [HXL.out]; omega
              clear hcm hb2 hnice hdrop hnn hnl HR HO HB HB2 BA1 BA2 hbx HG1 HNO HYES HGET HEND HR2
              unfold cmV cmA
              go_wp2_with (at_builtin; refine wpList_appC i0 rfl (.tmp 41) (.tmp 43) rfl Try.underlying33 hi hz0 hz1 hz2 w.heap.size u8 X rfl HO3.out (w2.heap.size + 1) 1 c sc rfl HBX.out HCM.out hxl5 HB4.out.size ?_; intro v' w4 hown4 hgr4)
              have H3 := hid' (HPUSH.out v' w4 hown4 (grown_below (w0 := 0) HB4.out hgr4 HO3.out.own HB4.out.size))
              clear hown4 hgr4 HPUSH HO3 HBX HCM HB4
              go_wp2
              go_roundg k
              case measure => omega
              case rel => exact H3.out
            · have HZ := hid' (HNO.out (w2.alloc (.cells (cmA c0 sc) 31)) (q : Int) (HEND.out _ q [] 6 HR.out (.inl ⟨rfl, rfl, by rw [List.length_map, HXL.out]; omega, by simpa using hno⟩)) (bel_trans' HB2.out ((Below.refl w2.heap.size w2).alloc (Nat.le_refl _) _)))
              clear HNO HYES HGET HEND HG1 HR HO HB HB2 hno
              unfold cmV cmA
              go_wp2
              go_ret3
              exact HZ.out
    · have HZ := hid' (HNO.out w1 0 (.inl ⟨rfl, rfl, rfl, fun k r hk e => get_no (at' := 0) (by omega) hrel (by omega) k r (by omega) (by simpa using e)⟩) HBW.out)
      clear HNO HYES HGET hrel
      go_wp2
      go_ret3
      exact HZ.out

end Go.Proofs.Ytgalmkhgbokidaa
