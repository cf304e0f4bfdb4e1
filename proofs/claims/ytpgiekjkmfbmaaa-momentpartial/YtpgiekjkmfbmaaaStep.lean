/-
  What is proved here: what holds in Closure between two epochs, and that one more epoch keeps it.
-/
import Derived.Test.YtpgiekjkmfbmaaaInts
namespace Go.Proofs.Ytpgiekjkmfbmaaa
open Go.RowKit
set_option linter.unusedVariables false
set_option linter.unusedSimpArgs false

theorem take_takeWhile (p : T → Bool) (l : List T) : l.take (l.takeWhile p).length = l.takeWhile p := by
  have h := List.takeWhile_prefix (l := l) p
  exact (List.prefix_iff_eq_take.1 h).symm

theorem drop_takeWhile (p : T → Bool) (l : List T) : l.drop (l.takeWhile p).length = l.dropWhile p := by
  have h := List.takeWhile_append_dropWhile (p := p) (l := l)
  conv => lhs; arg 2; rw [← h]
  rw [List.drop_left]

theorem pre_pos (x : T) (l : List T) : 0 < pre (x :: l) := by simp [pre]

theorem pre_le (l : List T) : pre l ≤ l.length := by
  unfold pre
  exact (List.takeWhile_prefix _).length_le

theorem of_takeWhile (p : T → Bool) : ∀ (l : List T) (t : T), t ∈ l.takeWhile p → p t = true
  | [], t, h => by simp at h
  | x :: l, t, h => by
    rw [List.takeWhile_cons] at h
    by_cases hx : p x = true
    · rw [if_pos hx] at h
      rcases List.mem_cons.1 h with rfl | h
      · exact hx
      · exact of_takeWhile p l t h
    · rw [if_neg hx] at h; simp at h

theorem pre_same (x : T) (l : List T) : ∀ t ∈ (x :: l).take (pre (x :: l)), t.1 = x.1 := by
  intro t ht
  unfold pre at ht
  rw [take_takeWhile] at ht
  have := of_takeWhile _ _ _ ht
  simpa using this

theorem sl_le {x : T} {l : List T} (h : SL (x :: l)) : ∀ t ∈ l, x.1 ≤ t.1 := by
  intro t ht
  have := (List.pairwise_cons.1 h).1 t ht
  unfold ltT at this
  omega

theorem dropWhile_later (e : Int) : ∀ (l : List T), SL l → (∀ t ∈ l, e ≤ t.1) → ∀ t ∈ l.dropWhile (fun t => decide (t.1 = e)), e < t.1
  | [], _, _, t, ht => by simp at ht
  | y :: l, hs, hle, t, ht => by
    rw [List.dropWhile_cons] at ht
    by_cases hy : y.1 = e
    · rw [if_pos (by simpa using hy)] at ht
      exact dropWhile_later e l (List.pairwise_cons.1 hs).2 (fun t ht => hle t (by simp [ht])) t ht
    · rw [if_neg (by simpa using hy)] at ht
      have h1 := hle y (by simp)
      rcases List.mem_cons.1 ht with rfl | ht
      · omega
      · have := sl_le hs t ht
        omega

theorem pre_later (x : T) (l : List T) (h : SL (x :: l)) : ∀ t ∈ (x :: l).drop (pre (x :: l)), x.1 < t.1 := by
  intro t ht
  unfold pre at ht
  rw [drop_takeWhile] at ht
  refine dropWhile_later x.1 (x :: l) h (fun t ht => ?_) t (by simpa using ht)
  rcases List.mem_cons.1 ht with rfl | ht
  · exact Int.le_refl _
  · exact sl_le h t ht

theorem pre_least (x : T) (l : List T) (h : SL (x :: l)) : ∀ t ∈ (x :: l).take (pre (x :: l)), x.2 ≤ t.2 := by
  intro t ht
  have he := pre_same x l t ht
  rcases List.mem_cons.1 (List.mem_of_mem_take ht) with rfl | h'
  · exact Int.le_refl _
  · have := (List.pairwise_cons.1 h).1 t h'
    unfold ltT at this
    omega

/-- Between two epochs. -/
structure Inv (done left : List T) (R : List Int) (Jn : List T) : Prop where
  sl : SL (done ++ left)
  apart : ∀ a ∈ done, ∀ b ∈ left, a.1 < b.1
  si : SI R
  rmem : ∀ r, r ∈ R ↔ ∃ t ∈ done, t.2 = r
  set : SetOf Jn (Joins done)

theorem Inv.start {u : List T} (h : SL u) : Inv [] u [] [] :=
  ⟨by simpa using h, fun a ha => by simp at ha, List.Pairwise.nil, fun r => by simp, List.Pairwise.nil, fun x => by simp [Joins]⟩

/-- The rounds from the least one's place on. -/
def newR (R : List Int) (same : List T) (r0 : Int) : List Int := Lib.compact (srt ((R ++ same.map (·.2)).drop (R.countP (· < r0))))

theorem newR_mem (R : List Int) (same : List T) (r0 : Int) (hR : SI R) (hs : ∀ t ∈ same, r0 ≤ t.2) (r : Int) : r ∈ newR R same r0 ↔ (r ∈ R ∧ r0 ≤ r) ∨ ∃ t ∈ same, t.2 = r := by
  have hle : R.countP (· < r0) ≤ R.length := List.countP_le_length
  unfold newR
  rw [(compact_spec _ (srt_sorted _)).2, srt_mem, List.drop_append_of_le_length hle, List.mem_append, List.mem_map]
  obtain ⟨h1, h2⟩ := countP_take R r0 hR
  constructor
  · rintro (h | h)
    · exact .inl ⟨List.mem_of_mem_drop h, h2 r h⟩
    · exact .inr h
  · rintro (⟨h, hr⟩ | h)
    · left
      rw [← List.take_append_drop (R.countP (· < r0)) R, List.mem_append] at h
      rcases h with h | h
      · have := h1 r h; omega
      · exact h
    · exact .inr h

theorem Inv.step {done left : List T} {R : List Int} {Jn : List T} {x : T} {l : List T} (h : Inv done left R Jn) (hx : left = x :: l) :
    Inv (done ++ left.take (pre left)) (left.drop (pre left)) (R.take (R.countP (· < x.2)) ++ newR R (left.take (pre left)) x.2) (Jn ++ (newR R (left.take (pre left)) x.2).map fun r => (x.1, r)) := by
  have hsl2 : SL left := (List.pairwise_append.1 h.sl).2.1
  have hslx : SL (x :: l) := by rw [← hx]; exact hsl2
  have hsame : ∀ t ∈ left.take (pre left), t.1 = x.1 := by rw [hx]; exact pre_same x l
  have hleast : ∀ t ∈ left.take (pre left), x.2 ≤ t.2 := by rw [hx]; exact pre_least x l hslx
  have hlater : ∀ t ∈ left.drop (pre left), x.1 < t.1 := by rw [hx]; exact pre_later x l hslx
  have hxin : x ∈ left.take (pre left) := by
    have := pre_pos x l
    rw [hx]
    obtain ⟨n, hn⟩ : ∃ n, pre (x :: l) = n + 1 := ⟨pre (x :: l) - 1, by omega⟩
    rw [hn]; simp
  have hdone : ∀ a ∈ done, a.1 < x.1 := fun a ha => h.apart a ha x (by rw [hx]; simp)
  generalize hS : left.take (pre left) = same at *
  obtain ⟨k1, k2⟩ := countP_take R x.2 h.si
  have hnm := newR_mem R same x.2 h.si hleast
  have hnsi : SI (newR R same x.2) := (compact_spec _ (srt_sorted _)).1
  have hnge : ∀ r ∈ newR R same x.2, x.2 ≤ r := by
    intro r hr
    rcases (hnm r).1 hr with h' | ⟨t, ht, rfl⟩
    · exact h'.2
    · exact hleast t ht
  generalize newR R same x.2 = N at *
  refine ⟨?_, ?_, ?_, ?_, ?_, ?_⟩
  · rw [List.append_assoc, ← hS, List.take_append_drop]; exact h.sl
  · intro a ha b hb
    rcases List.mem_append.1 ha with ha | ha
    · exact h.apart a ha b (List.mem_of_mem_drop hb)
    · rw [hsame a ha]; exact hlater b hb
  · unfold SI
    rw [List.pairwise_append]
    refine ⟨List.Pairwise.sublist (List.take_sublist _ _) h.si, hnsi, fun a ha b hb => ?_⟩
    have := k1 a ha
    have := hnge b hb
    omega
  · intro r
    rw [List.mem_append, hnm]
    constructor
    · rintro (h' | ⟨h', _⟩ | ⟨t, ht, rfl⟩)
      · obtain ⟨t, ht, rfl⟩ := (h.rmem r).1 (List.mem_of_mem_take h')
        exact ⟨t, by simp [ht], rfl⟩
      · obtain ⟨t, ht, rfl⟩ := (h.rmem r).1 h'
        exact ⟨t, by simp [ht], rfl⟩
      · exact ⟨t, by simp [ht], rfl⟩
    · rintro ⟨t, ht, rfl⟩
      rcases List.mem_append.1 ht with ht | ht
      · have hr := (h.rmem t.2).2 ⟨t, ht, rfl⟩
        rw [← List.take_append_drop (R.countP (· < x.2)) R, List.mem_append] at hr
        rcases hr with hr | hr
        · exact .inl hr
        · exact .inr (.inl ⟨List.mem_of_mem_drop hr, k2 _ hr⟩)
      · exact .inr (.inr ⟨t, ht, rfl⟩)
  · unfold SL
    rw [List.pairwise_append]
    refine ⟨h.set.sl, ?_, fun a ha b hb => ?_⟩
    · rw [List.pairwise_map]
      refine List.Pairwise.imp (fun {a b} hab => ?_) hnsi
      exact .inr ⟨rfl, hab⟩
    · obtain ⟨r, _, rfl⟩ := List.mem_map.1 hb
      have hj := (h.set.mem a).1 ha
      obtain ⟨⟨p, hp, e1, _⟩, _⟩ := (joins_iff done a).1 hj
      have := hdone p hp
      exact .inl (by show a.1 < x.1; omega)
  · intro y
    rw [List.mem_append, h.set.mem, joins_iff (done ++ same)]
    constructor
    · rintro (h' | h')
      · rw [joins_iff] at h'
        obtain ⟨⟨p, hp, e1, e2⟩, q, hq, e3, e4⟩ := h'
        exact ⟨⟨p, by simp [hp], e1, e2⟩, q, by simp [hq], e3, e4⟩
      · obtain ⟨r, hr, rfl⟩ := List.mem_map.1 h'
        refine ⟨⟨x, by simp [hxin], rfl, hnge r hr⟩, ?_⟩
        rcases (hnm r).1 hr with ⟨h1, _⟩ | ⟨t, ht, rfl⟩
        · obtain ⟨t, ht, rfl⟩ := (h.rmem r).1 h1
          exact ⟨t, by simp [ht], rfl, Int.le_of_lt (hdone t ht)⟩
        · exact ⟨t, by simp [ht], rfl, Int.le_of_eq (hsame t ht)⟩
    · rintro ⟨⟨p, hp, e1, e2⟩, q, hq, e3, e4⟩
      rcases List.mem_append.1 hp with hp | hp
      · left
        rw [joins_iff]
        refine ⟨⟨p, hp, e1, e2⟩, ?_⟩
        rcases List.mem_append.1 hq with hq | hq
        · exact ⟨q, hq, e3, e4⟩
        · have := hdone p hp
          have := hsame q hq
          omega
      · right
        rw [List.mem_map]
        have hy1 : x.1 = y.1 := by rw [← e1, hsame p hp]
        refine ⟨y.2, ?_, by rw [hy1]⟩
        rw [hnm]
        rcases List.mem_append.1 hq with hq | hq
        · left
          refine ⟨(h.rmem y.2).2 ⟨q, hq, e3⟩, ?_⟩
          have := hleast p hp
          omega
        · exact .inr ⟨q, hq, e3⟩

end Go.Proofs.Ytpgiekjkmfbmaaa
