/-
  What is proved here: how decoding ends, and that it ends in one way; lists of commands that a call has made.
-/
import Derived.Test.YtgalmkhgbokidaaSSa
import Derived.Maps.AppendAt
namespace Go.Proofs.Ytgalmkhgbokidaa
open Go.RowKit Go.Proofs
set_option maxRecDepth 20000
set_option linter.unusedVariables false
set_option linter.unusedSimpArgs false

/-- Commands that are told from a place to a place. -/
def Rch (l : List Int) (p : Nat) (X : List Cm) (q : Nat) : Prop := (∀ c ∈ X, Nice c) ∧ l.drop p = X.flatMap cmdB ++ l.drop q ∧ q ≤ l.length

theorem Rch.nil {l : List Int} {p : Nat} (h : p ≤ l.length) : Rch l p [] p := ⟨by simp, by simp, h⟩
theorem Rch.push {l : List Int} {p q q' : Nat} {X : List Cm} {c : Cm} (h : Rch l p X q) (hn : Nice c) (hd : l.drop q = cmdB c ++ l.drop q') (hq : q' ≤ l.length) : Rch l p (X ++ [c]) q' :=
  ⟨fun z hz => by
    rcases List.mem_append.1 hz with hz | hz
    · exact h.1 z hz
    · simp at hz; subst hz; exact hn, by rw [List.flatMap_append, List.flatMap_singleton, List.append_assoc, ← hd]; exact h.2.1, hq⟩

theorem flat_uniq : ∀ (X Y : List Cm) (r s : List Int), (∀ c ∈ X, Nice c) → (∀ c ∈ Y, Nice c) → X.flatMap cmdB ++ r = Y.flatMap cmdB ++ s → X.length ≤ Y.length → ∃ Z, Y = X ++ Z ∧ r = Z.flatMap cmdB ++ s := by
  intro X
  induction X with
  | nil => intro Y r s _ _ h _; exact ⟨Y, rfl, by simpa using h⟩
  | cons x X ih =>
    intro Y r s hX hY h hl
    cases Y with
    | nil => simp at hl
    | cons y Y =>
      rw [List.flatMap_cons, List.flatMap_cons, List.append_assoc, List.append_assoc] at h
      obtain ⟨rfl, h2⟩ := pf_cmd x y _ _ (hX x (by simp)) (hY y (by simp)) h
      obtain ⟨Z, rfl, hz⟩ := ih Y r s (fun c hc => hX c (by simp [hc])) (fun c hc => hY c (by simp [hc])) h2 (by simpa using hl)
      exact ⟨Z, rfl, hz⟩

/-- How decoding ends. -/
def DEnd (l : List Int) (X : List Cm) (er at' : Int) : Prop :=
  (er = 6 ∧ X = [] ∧ at' = 0 ∧ ∀ n r, n ≤ 4096 → l ≠ bytesOf n ++ r) ∨
  ∃ (n : Nat) (Y : List Cm) (p q : Nat), n ≤ 4096 ∧ l = bytesOf n ++ l.drop p ∧ p ≤ l.length ∧ Rch l p Y q ∧ at' = q ∧
    ((er = 6 ∧ X = [] ∧ Y.length < n ∧ ∀ y r, Nice y → l.drop q ≠ cmdB y ++ r) ∨ (er = 6 ∧ X = [] ∧ Y.length = n ∧ q < l.length) ∨ (er = 0 ∧ X = Y ∧ Y.length = n ∧ q = l.length))

theorem drop_inj {l : List Int} {p q : Nat} (h : l.drop p = l.drop q) (hp : p ≤ l.length) (hq : q ≤ l.length) : p = q := by
  have := congrArg List.length h
  rw [List.length_drop, List.length_drop] at this
  omega

theorem rch_short {l : List Int} {p q q' : Nat} {Y Y' : List Cm} (h : Rch l p Y q) (h' : Rch l p Y' q') (hlt : Y.length < Y'.length) (hno : ∀ y r, Nice y → l.drop q ≠ cmdB y ++ r) : False := by
  obtain ⟨Z, hZ, hd⟩ := flat_uniq Y Y' _ _ h.1 h'.1 (h.2.1.symm.trans h'.2.1) (by omega)
  cases Z with
  | nil => rw [hZ] at hlt; simp at hlt
  | cons z Z =>
    rw [List.flatMap_cons, List.append_assoc] at hd
    exact hno z _ (h'.1 z (by rw [hZ]; simp)) hd

theorem DEnd.uniq {l : List Int} {X X' : List Cm} {er er' a a' : Int} (h : DEnd l X er a) (h' : DEnd l X' er' a') : X = X' ∧ er = er' ∧ a = a' := by
  rcases h with ⟨rfl, rfl, rfl, hno⟩ | ⟨n, Y, p, q, hn, hl, hp, hr, rfl, hc⟩
  · rcases h' with ⟨rfl, rfl, rfl, _⟩ | ⟨n, Y, p, q, hn, hl, _⟩
    · exact ⟨rfl, rfl, rfl⟩
    · exact absurd hl (hno n _ hn)
  · rcases h' with ⟨_, _, _, hno⟩ | ⟨n', Y', p', q', hn', hl', hp', hr', rfl, hc'⟩
    · exact absurd hl (hno n _ hn)
    · obtain ⟨rfl, hpp⟩ := bytes_pf (hl.symm.trans hl')
      obtain rfl := drop_inj hpp hp hp'
      rcases Nat.lt_trichotomy Y.length Y'.length with hlt | heq | hlt
      · rcases hc with ⟨_, _, _, hno⟩ | ⟨_, _, h3, _⟩ | ⟨_, _, h3, _⟩
        · exact (rch_short hr hr' hlt hno).elim
        · rcases hc' with ⟨_, _, h4, _⟩ | ⟨_, _, h4, _⟩ | ⟨_, _, h4, _⟩ <;> omega
        · rcases hc' with ⟨_, _, h4, _⟩ | ⟨_, _, h4, _⟩ | ⟨_, _, h4, _⟩ <;> omega
      · obtain ⟨Z, hZ, hd⟩ := flat_uniq Y Y' _ _ hr.1 hr'.1 (hr.2.1.symm.trans hr'.2.1) (by omega)
        have hz : Z = [] := by
          have := congrArg List.length hZ
          rw [List.length_append] at this
          exact List.length_eq_zero_iff.1 (by omega)
        subst hz
        rw [List.append_nil] at hZ
        subst hZ
        obtain rfl := drop_inj (by simpa using hd) hr.2.2 hr'.2.2
        rcases hc with ⟨rfl, rfl, h3, _⟩ | ⟨rfl, rfl, h3, h5⟩ | ⟨rfl, rfl, h3, h5⟩ <;> rcases hc' with ⟨rfl, rfl, h4, _⟩ | ⟨rfl, rfl, h4, h6⟩ | ⟨rfl, rfl, h4, h6⟩ <;> first | exact ⟨rfl, rfl, rfl⟩ | omega
      · rcases hc' with ⟨_, _, _, hno⟩ | ⟨_, _, h3, _⟩ | ⟨_, _, h3, _⟩
        · exact (rch_short hr' hr hlt hno).elim
        · rcases hc with ⟨_, _, h4, _⟩ | ⟨_, _, h4, _⟩ | ⟨_, _, h4, _⟩ <;> omega
        · rcases hc with ⟨_, _, h4, _⟩ | ⟨_, _, h4, _⟩ | ⟨_, _, h4, _⟩ <;> omega

theorem DEnd.nice {l : List Int} {X : List Cm} {er a : Int} (h : DEnd l X er a) : X.length ≤ 4096 ∧ (∀ c ∈ X, Nice c) ∧ (er = 0 → l = bytesOf X.length ++ X.flatMap cmdB ∧ a = l.length) ∧ (er ≠ 0 → er = 6) := by
  rcases h with ⟨rfl, rfl, rfl, hno⟩ | ⟨n, Y, p, q, hn, hl, hp, hr, rfl, hc⟩
  · exact ⟨by simp, by simp, by simp, by simp⟩
  · rcases hc with ⟨rfl, rfl, _, _⟩ | ⟨rfl, rfl, _, _⟩ | ⟨rfl, rfl, h3, h4⟩
    · exact ⟨by simp, by simp, by simp, by simp⟩
    · exact ⟨by simp, by simp, by simp, by simp⟩
    · refine ⟨by omega, hr.1, fun _ => ⟨?_, by rw [h4]⟩, by simp⟩
      rw [h3]
      have := hr.2.1
      rw [h4, List.drop_length, List.append_nil] at this
      rw [← this]
      exact hl

theorem Try.infoCmd : (Try.prog.info? 31).map (fun i => (i.zero, i.size, i.bytes)) = some (some (cmV c0 s0), 9, 120) := by kernel_rfl

/-- A list of commands that a call has made. -/
structure OwnC (B : Nat) (w : World) (v : Value) (X : List (Cm × CmS)) : Prop where
  own : OwnL 31 9 cCm B w v X
  each : ∀ q ∈ X, CmR (fun k => B ≤ k ∧ some k ≠ v.ownBlock) w q.1 q.2

theorem OwnC.nil (B : Nat) (w : World) : OwnC B w (.slice none 0 0) [] := ⟨OwnL.nil, by simp⟩
theorem OwnC.below {B : Nat} {w w' : World} {v : Value} {X : List (Cm × CmS)} (h : OwnC B w v X) (hb : Below w.heap.size w w') : OwnC B w' v X := ⟨h.own.below hb, fun q hq => (h.each q hq).on hb⟩

theorem cCm_one (q : Cm × CmS) : ∀ u ∈ cCm q, u.oneCell' = true := by
  intro u hu
  simp [cCm, cmA] at hu
  rcases hu with rfl | rfl | rfl | rfl | rfl | rfl | rfl | rfl | rfl <;> rfl

theorem OwnC.cms {B : Nat} {w : World} {v : Value} {X : List (Cm × CmS)} (h : OwnC B w v X) : ∃ a c, v = .slice a X.length c ∧ Cms (Since B) w a X ∧ Sh a X.length c := by
  obtain ⟨a, c, rfl, hs, hsh⟩ := SP.of_owns (d := (c0, s0)) cCm_len h.own
  exact ⟨a, c, rfl, ⟨hs, fun q hq => (h.each q hq).mono (fun k hk => hk.1)⟩, hsh⟩

theorem OwnC.push {B : Nat} {w w' : World} {v v' : Value} {X : List (Cm × CmS)} {c : Cm} {s : CmS} (h : OwnC B w v X) (hc : CmR (fun k => B ≤ k ∧ some k ≠ v.ownBlock) w c s) (h1 : OwnL 31 9 cCm B w' v' (X ++ [(c, s)])) (hg : w.grownBy w' v.ownBlock) (hv : v'.ownBlock = v.ownBlock ∨ v'.ownBlock = some w.heap.size) : OwnC B w' v' (X ++ [(c, s)]) := by
  have key : ∀ k, (B ≤ k ∧ some k ≠ v.ownBlock) → k < w.heap.size → w'.heap[k]? = w.heap[k]? ∧ (B ≤ k ∧ some k ≠ v'.ownBlock) := fun k hk hl => by
    refine ⟨hg.block k hl hk.2, hk.1, ?_⟩
    rcases hv with e | e
    · rw [e]; exact hk.2
    · rw [e]; intro e2; cases e2; omega
  refine ⟨h1, fun q hq => ?_⟩
  rcases List.mem_append.1 hq with hq | hq
  · exact (h.each q hq).keep key hg.size
  · simp at hq; subst hq; exact hc.keep key hg.size

/-- Memory that was made since is apart from a list that was there. -/
theorem OwnC.apart {B : Nat} {w : World} {v : Value} {X : List (Cm × CmS)} (h : OwnC B w v X) (hB : B ≤ w.heap.size) {k : Nat} (hk : w.heap.size ≤ k) : B ≤ k ∧ some k ≠ v.ownBlock := by
  refine ⟨by omega, fun e => ?_⟩
  have := (World.ownsRow.lt h.own k e.symm).2
  omega

/-- One command more, which lies in a block of its own. -/
theorem wpList_appC {w : World} {ops : Array Oper} {rest : List Oper} {o : Oper} {a : Act} {Q : Exit → Act → World → Prop} (i : TypeInfo) (hgd : o.guard = none) (s x : Operand)
    (ho : o.op = .call { callee := .builtin .append, args := #[s, x], argTypes := #[33, 33] }) (ht : Try.prog.underlying 33 = some (.slice 31)) (hi : Try.prog.info? 31 = some i) (hz : i.zero = some (cmV c0 s0)) (hsize : i.size = 9) (hby : i.bytes = 120)
    (base : Nat) (v : Value) (X : List (Cm × CmS)) (hs : a.eval s = v) (hown : OwnC base w v X) (g c : Nat) (y : Cm) (sy : CmS) (hx : a.eval x = .slice (some ⟨g, 0, none⟩) 1 c) (hy : Bx w g (cmA y sy) 31) (hc : CmR (fun k => base ≤ k ∧ some k ≠ v.ownBlock) w y sy) (hlen : X.length ≤ 100000) (hbase : base ≤ w.heap.size)
    (h : ∀ v' w', OwnC base w' v' (X ++ [(y, sy)]) → w.grownBy w' v.ownBlock → wpList Try.prog ops Q rest (a.put o.dst v') w') : wpList Try.prog ops Q (o :: rest) a w := by
  refine wpList_append_own_at w hgd s x 33 ho base 31 i (cmV c0 s0) 9 120 ht hi hz hsize hby (by rfl) (by omega) v X.length (X.flatMap cCm) hs hown.own ⟨g, 0, none⟩ 1 c (cCm (y, sy)) hx (by rw [cCm_len]) (fun j u hj => ?_) (cCm_one _) (by unfold maxLen; omega) (by omega) hbase (fun v' w' h1 h2 _ h4 => h v' w' (hown.push hc ?_ h2 h4) h2)
  · rw [addr_add, Nat.zero_add, hy.cell j, ← Array.getElem?_toList]; exact hj
  · unfold OwnL
    rw [List.length_append, List.length_singleton, List.flatMap_append, List.flatMap_singleton]
    exact h1

/-- What Decode tells. -/
def DAns (l : List Int) (w : World) (e : Ending) (w' : World) : Prop :=
  ∃ (X : List (Cm × CmS)) (a : Option Addr) (c : Nat) (er at' : Int), e = .returned (.tuple #[.slice a X.length c, .int .i64 er, .int .i64 at']) ∧ DEnd l (X.map (·.1)) er at' ∧ Cms (Since w.heap.size) w' a X ∧ Below w.heap.size w w'

end Go.Proofs.Ytgalmkhgbokidaa
