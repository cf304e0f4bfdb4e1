/-
  What is proved here: plain facts on numbers told in groups of seven bits (no Go text is named): the groups of a number, how many they are, and that bytes tell at most one number.
-/
namespace Go.Proofs.Ytgalmkhgbokidaa

/-- Group number j of n as a byte: 128 is added to all but the last. -/
def grp (n j : Nat) : Int := (((n / 128 ^ j) % 128 : Nat) : Int) + (if j = 0 then 0 else 128)

/-- The lowest k groups of n, the highest first. -/
def enc (n : Nat) : Nat → List Int
  | 0 => []
  | k + 1 => grp n k :: enc n k

/-- How many groups n has. -/
def sz (n : Nat) : Nat := Nat.log2 n / 7 + 1

/-- The bytes of n. -/
def bytesOf (n : Nat) : List Int := enc n (sz n)

theorem length_enc (n : Nat) : ∀ k, (enc n k).length = k
  | 0 => rfl
  | k + 1 => by simp [enc, length_enc n k]

theorem length_bytesOf (n : Nat) : (bytesOf n).length = sz n := length_enc n _

theorem grp_range (n j : Nat) : 0 ≤ grp n j ∧ grp n j < 256 := by
  unfold grp; split <;> omega

theorem enc_range (n : Nat) : ∀ k, ∀ z ∈ enc n k, 0 ≤ z ∧ z < 256
  | 0, z, h => by simp [enc] at h
  | k + 1, z, h => by
    simp only [enc, List.mem_cons] at h
    rcases h with rfl | h
    · exact grp_range n k
    · exact enc_range n k z h

theorem enc_get (n : Nat) : ∀ k i, i < k → (enc n k)[i]? = some (grp n (k - 1 - i))
  | 0, i, h => by omega
  | k + 1, 0, h => by simp [enc]
  | k + 1, i + 1, h => by
    simp only [enc, List.getElem?_cons_succ]
    rw [enc_get n k i (by omega)]
    congr 2; omega

theorem enc_take_succ (n k i : Nat) (h : i < k) : (enc n k).take (i + 1) = (enc n k).take i ++ [grp n (k - 1 - i)] := by
  rw [List.take_add_one, enc_get n k i h]; rfl

theorem pow128 (k : Nat) : (128 : Nat) ^ k = 2 ^ (7 * k) := by
  rw [show (128 : Nat) = 2 ^ 7 from rfl, ← Nat.pow_mul]

theorem pow128_pos (k : Nat) : 0 < (128 : Nat) ^ k := Nat.pow_pos (by decide)

theorem sz_pos (n : Nat) : 0 < sz n := by unfold sz; omega

theorem lt_pow_sz (n : Nat) : n < 128 ^ sz n := by
  rw [pow128]
  rcases Nat.eq_zero_or_pos n with rfl | h
  · exact Nat.pow_pos (by decide)
  · refine (Nat.log2_lt (by omega)).1 ?_
    unfold sz; omega

theorem pow_sz_le (n : Nat) (h : sz n ≠ 1) : 128 ^ (sz n - 1) ≤ n := by
  rw [pow128]
  rcases Nat.eq_zero_or_pos n with rfl | h0
  · exact absurd rfl h
  · refine (Nat.le_log2 (by omega)).1 ?_
    unfold sz; omega

theorem sz_uniq (n k : Nat) (h0 : 0 < k) (h1 : n < 128 ^ k) (h2 : k = 1 ∨ 128 ^ (k - 1) ≤ n) : sz n = k := by
  have a := lt_pow_sz n
  rcases Nat.lt_trichotomy (sz n) k with h | h | h
  · have hk : k ≠ 1 := by have := sz_pos n; omega
    have hle : (128 : Nat) ^ sz n ≤ 128 ^ (k - 1) := Nat.pow_le_pow_right (by decide) (by omega)
    rcases h2 with h2 | h2
    · exact absurd h2 hk
    · omega
  · exact h
  · have hle : (128 : Nat) ^ k ≤ 128 ^ (sz n - 1) := Nat.pow_le_pow_right (by decide) (by omega)
    have := pow_sz_le n (by omega)
    omega

theorem sz_le_ten (n : Nat) (h : n < 18446744073709551616) : sz n ≤ 10 := by
  unfold sz
  rcases Nat.eq_zero_or_pos n with rfl | h0
  · decide
  · have : Nat.log2 n < 64 := (Nat.log2_lt (by omega)).2 (by simpa using h)
    omega

theorem sz_mono {a b : Nat} (h : a ≤ b) : sz a ≤ sz b := by
  rcases Nat.lt_or_ge (sz b) (sz a) with hh | hh
  · have h1 := pow_sz_le a (by have := sz_pos b; omega)
    have h2 := lt_pow_sz b
    have h3 : (128 : Nat) ^ sz b ≤ 128 ^ (sz a - 1) := Nat.pow_le_pow_right (by decide) (by omega)
    omega
  · exact hh

/-- What groups tell. -/
def val : List Int → Nat → Nat
  | [], n => n
  | z :: r, n => val r (n * 128 + (z % 128).toNat)

theorem val_append (l r : List Int) : ∀ n, val (l ++ r) n = val r (val l n) := by
  induction l with
  | nil => intro n; rfl
  | cons z l ih => intro n; simp only [List.cons_append, val]; exact ih _

theorem val_ge (l : List Int) : ∀ n, n ≤ val l n := by
  induction l with
  | nil => intro n; exact Nat.le_refl _
  | cons z l ih => intro n; simp only [val]; exact Nat.le_trans (by omega) (ih _)

theorem val_enc (n : Nat) : ∀ k m, m = n / 128 ^ k → val (enc n k) m = n
  | 0, m, h => by simpa [enc, val] using h
  | k + 1, m, h => by
    simp only [enc, val]
    refine val_enc n k _ ?_
    have e : (grp n k % 128).toNat = (n / 128 ^ k) % 128 := by unfold grp; split <;> omega
    rw [e, h, Nat.pow_succ, ← Nat.div_div_eq_div_mul]
    omega

theorem val_bytesOf (n : Nat) : val (bytesOf n) 0 = n :=
  val_enc n _ 0 (Nat.div_eq_of_lt (lt_pow_sz n)).symm

/-- Bytes of the form: all but the last are 128 at least, the last one is less. -/
def Form : List Int → Prop
  | [] => False
  | [z] => 0 ≤ z ∧ z < 128
  | z :: r => 128 ≤ z ∧ z < 256 ∧ Form r

theorem form_cons (z : Int) (r : List Int) (h : r ≠ []) : Form (z :: r) ↔ 128 ≤ z ∧ z < 256 ∧ Form r := by
  cases r with
  | nil => exact absurd rfl h
  | cons y r => rfl

theorem enc_form (n : Nat) : ∀ k, Form (enc n (k + 1))
  | 0 => by simp only [enc, Form, grp]; simp; omega
  | k + 1 => by
    have := enc_form n k
    rw [enc, form_cons _ _ (by simp [enc])]
    refine ⟨?_, (grp_range _ _).2, this⟩
    unfold grp; simp; omega

theorem bytesOf_form (n : Nat) : Form (bytesOf n) := enc_form n _

/-- Such bytes are the groups of what they tell. -/
theorem enc_of_form : ∀ (l : List Int) (m : Nat), Form l → enc (val l m) l.length = l ∧ val l m / 128 ^ l.length = m
  | [], _, h => by cases h
  | [z], m, h => by
    simp only [Form] at h
    simp only [val, enc, grp, List.length_cons, List.length_nil]
    have e : (((m * 128 + (z % 128).toNat) % 128 : Nat) : Int) = z := by omega
    refine ⟨?_, ?_⟩
    · simp; omega
    · simp; omega
  | z :: y :: r, m, h => by
    rw [form_cons _ _ (by simp)] at h
    obtain ⟨h1, h2, h3⟩ := h
    obtain ⟨i1, i2⟩ := enc_of_form (y :: r) (m * 128 + (z % 128).toNat) h3
    have ev : val (z :: y :: r) m = val (y :: r) (m * 128 + (z % 128).toNat) := rfl
    refine ⟨?_, ?_⟩
    · rw [ev]
      show enc _ ((y :: r).length + 1) = _
      rw [enc, i1]
      congr 1
      unfold grp
      rw [i2]
      simp; omega
    · rw [ev]
      show _ / 128 ^ ((y :: r).length + 1) = m
      rw [Nat.pow_succ, ← Nat.div_div_eq_div_mul, i2]
      omega

theorem form_ne {l : List Int} (h : Form l) : l ≠ [] := by rintro rfl; cases h

theorem bytesOf_of_form (l : List Int) (h : Form l) (h1 : l.length = 1 ∨ l.headD 0 ≠ 128) : bytesOf (val l 0) = l := by
  obtain ⟨e1, e2⟩ := enc_of_form l 0 h
  have hn := form_ne h
  have hlen : 0 < l.length := List.length_pos_iff.2 hn
  have hlt : val l 0 < 128 ^ l.length := by
    rcases Nat.lt_or_ge (val l 0) (128 ^ l.length) with h | h
    · exact h
    · have := Nat.div_pos h (pow128_pos l.length); omega
  have hs : sz (val l 0) = l.length := by
    refine sz_uniq _ _ hlen hlt ?_
    rcases h1 with h1 | h1
    · exact Or.inl h1
    · rcases Nat.eq_or_lt_of_le (Nat.succ_le_of_lt hlen) with hh | hh
      · exact Or.inl hh.symm
      · right
        match l, h, h1, hh with
        | z :: y :: r, h, h1, _ =>
          rw [form_cons _ _ (by simp)] at h
          obtain ⟨a1, a2, a3⟩ := h
          obtain ⟨_, i2⟩ := enc_of_form (y :: r) (0 * 128 + (z % 128).toNat) a3
          have ev : val (z :: y :: r) 0 = val (y :: r) (0 * 128 + (z % 128).toNat) := rfl
          have hz : 0 < 0 * 128 + (z % 128).toNat := by simp only [List.headD_cons] at h1; omega
          show 128 ^ (y :: r).length ≤ _
          rw [ev]
          rcases Nat.lt_or_ge (val (y :: r) (0 * 128 + (z % 128).toNat)) (128 ^ (y :: r).length) with hh | hh
          · rw [Nat.div_eq_of_lt hh] at i2; omega
          · exact hh
  show enc _ (sz _) = l
  rw [hs, e1]

/-- The number n is told at the head of l. -/
def Hit (l : List Int) (n : Nat) : Prop := n < 18446744073709551616 ∧ l.take (sz n) = bytesOf n

theorem form_prefix_eq : ∀ (a b l : List Int), Form a → Form b → l.take a.length = a → l.take b.length = b → a = b
  | [], _, _, h, _, _, _ => by cases h
  | _, [], _, _, h, _, _ => by cases h
  | _ :: _, _ :: _, [], _, _, h, _ => by simp at h
  | x :: a, y :: b, z :: l, ha, hb, h1, h2 => by
    simp only [List.length_cons, List.take_succ_cons, List.cons.injEq] at h1 h2
    obtain ⟨rfl, h1⟩ := h1
    obtain ⟨rfl, h2⟩ := h2
    cases a with
    | nil =>
      cases b with
      | nil => rfl
      | cons b0 b => rw [form_cons _ _ (by simp)] at hb; simp only [Form] at ha; omega
    | cons a0 a =>
      cases b with
      | nil => rw [form_cons _ _ (by simp)] at ha; simp only [Form] at hb; omega
      | cons b0 b =>
        rw [form_cons _ _ (by simp)] at ha hb
        rw [form_prefix_eq (a0 :: a) (b0 :: b) l ha.2.2 hb.2.2 h1 h2]

theorem Hit.uniq {l : List Int} {n m : Nat} (h : Hit l n) (k : Hit l m) : n = m := by
  have e := form_prefix_eq _ _ l (bytesOf_form n) (bytesOf_form m) (by rw [length_bytesOf]; exact h.2) (by rw [length_bytesOf]; exact k.2)
  rw [← val_bytesOf n, e, val_bytesOf]

/-- What Get answers. -/
def GetRel (l : List Int) (at' n next e : Int) : Prop :=
  ((at' < 0 ∨ (l.length : Int) < at') ∧ n = 0 ∧ next = 0 ∧ e = 9) ∨
  (0 ≤ at' ∧ at' ≤ (l.length : Int) ∧ 0 ≤ n ∧ Hit (l.drop at'.toNat) n.toNat ∧ next = at' + sz n.toNat ∧ e = 0) ∨
  (0 ≤ at' ∧ at' ≤ (l.length : Int) ∧ (∀ m, ¬ Hit (l.drop at'.toNat) m) ∧ n = 0 ∧ next = 0 ∧ e = 6)

theorem GetRel.uniq {l : List Int} {at' n next e n' next' e' : Int} (h : GetRel l at' n next e) (k : GetRel l at' n' next' e') : n = n' ∧ next = next' ∧ e = e' := by
  rcases h with ⟨a, rfl, rfl, rfl⟩ | ⟨a, b, c, d, rfl, rfl⟩ | ⟨a, b, c, rfl, rfl, rfl⟩ <;> rcases k with ⟨a', rfl, rfl, rfl⟩ | ⟨a', b', c', d', rfl, rfl⟩ | ⟨a', b', c', rfl, rfl, rfl⟩
  · exact ⟨rfl, rfl, rfl⟩
  · omega
  · omega
  · omega
  · have e := d.uniq d'
    have e' : n = n' := by omega
    subst e'
    exact ⟨rfl, rfl, rfl⟩
  · exact absurd d (c' _)
  · omega
  · exact absurd d' (c _)
  · exact ⟨rfl, rfl, rfl⟩

/-- At which place the bytes of a number that is told end. -/
theorem form_get : ∀ (l : List Int), Form l → (∀ i z, i + 1 < l.length → l[i]? = some z → 128 ≤ z) ∧ (∀ z, l[l.length - 1]? = some z → z < 128)
  | [], h => by cases h
  | [z], h => by
    simp only [Form] at h
    refine ⟨fun i z hi _ => by simp at hi, fun y hy => ?_⟩
    simp at hy; omega
  | z :: y :: r, h => by
    rw [form_cons _ _ (by simp)] at h
    obtain ⟨i1, i2⟩ := form_get (y :: r) h.2.2
    refine ⟨fun i x hi hx => ?_, fun x hx => ?_⟩
    · cases i with
      | zero => simp at hx; omega
      | succ i => exact i1 i x (by simpa using hi) (by simpa using hx)
    · exact i2 x (by simpa using hx)

theorem form_of_get : ∀ (l : List Int), l ≠ [] → (∀ z ∈ l, 0 ≤ z ∧ z < 256) → (∀ i z, i + 1 < l.length → l[i]? = some z → 128 ≤ z) → (∀ z, l[l.length - 1]? = some z → z < 128) → Form l
  | [], h, _, _, _ => absurd rfl h
  | [z], _, hr, _, h2 => ⟨(hr z (by simp)).1, h2 z (by simp)⟩
  | z :: y :: r, _, hr, h1, h2 => by
    rw [form_cons _ _ (by simp)]
    refine ⟨h1 0 z (by simp) (by simp), (hr z (by simp)).2, form_of_get (y :: r) (by simp) (fun x hx => hr x (List.mem_cons_of_mem _ hx)) (fun i x hi hx => ?_) (fun x hx => ?_)⟩
    · exact h1 (i + 1) x (by simpa using hi) (by simpa using hx)
    · exact h2 x (by simpa using hx)

/-- All of the first i bytes are 128 at least: so a number that is told has more bytes than i. -/
theorem Hit.len {l : List Int} {m i : Nat} (h : Hit l m) (hi : ∀ j z, j < i → l[j]? = some z → 128 ≤ z) : i < sz m := by
  rcases Nat.lt_or_ge i (sz m) with hh | hh
  · exact hh
  · obtain ⟨_, h2⟩ := form_get _ (bytesOf_form m)
    have hp := sz_pos m
    have hl := length_bytesOf m
    obtain ⟨y, hx⟩ : ∃ y, (bytesOf m)[sz m - 1]? = some y := ⟨_, List.getElem?_eq_getElem (by omega)⟩
    have a := h2 y (by rw [hl]; exact hx)
    rw [← h.2, List.getElem?_take_of_lt (by omega)] at hx
    have b := hi _ _ (by omega) hx
    omega

/-- Byte number i is less than 128, all ahead of it are not: so a number that is told has i + 1 bytes. -/
theorem Hit.len_eq {l : List Int} {m i : Nat} {z : Int} (h : Hit l m) (hi : ∀ j z, j < i → l[j]? = some z → 128 ≤ z) (hz : l[i]? = some z) (h1 : z < 128) : sz m = i + 1 := by
  have a := h.len hi
  rcases Nat.lt_or_ge (i + 1) (sz m) with hh | hh
  · obtain ⟨h2, _⟩ := form_get _ (bytesOf_form m)
    have := h2 i z (by rw [length_bytesOf]; exact hh) (by rw [← h.2, List.getElem?_take_of_lt a]; exact hz)
    omega
  · omega

theorem take_val_succ (l : List Int) (i : Nat) (z : Int) (h : l[i]? = some z) : val (l.take (i + 1)) 0 = val (l.take i) 0 * 128 + (z % 128).toNat := by
  rw [List.take_add_one, h, val_append]; rfl

theorem Hit.val {l : List Int} {m : Nat} (h : Hit l m) : val (l.take (sz m)) 0 = m := by rw [h.2, val_bytesOf]

theorem val_take_le (l : List Int) {i j : Nat} (h : i ≤ j) : val (l.take i) 0 ≤ val (l.take j) 0 := by
  obtain ⟨k, rfl⟩ := Nat.exists_eq_add_of_le h
  rw [List.take_add, val_append]
  exact val_ge _ _

theorem Hit.head {l : List Int} {m : Nat} (h : Hit l m) : l.head? ≠ some 128 := by
  intro hh
  have hp := sz_pos m
  have f := bytesOf_form m
  have e := h.2
  have hv := val_bytesOf m
  rcases Nat.eq_or_lt_of_le (Nat.succ_le_of_lt hp) with h1 | h1
  · obtain ⟨_, h2⟩ := form_get _ f
    have hl := length_bytesOf m
    have := h2 128 (by rw [hl, ← h1, ← e, ← h1]; cases l with
      | nil => simp at hh
      | cons x l => simp at hh; simp [hh])
    omega
  · have hle := pow_sz_le m (by omega)
    have hg : (bytesOf m)[0]? = some (grp m (sz m - 1 - 0)) := enc_get m (sz m) 0 hp
    rw [← e, List.getElem?_take_of_lt hp] at hg
    have h0 : l[0]? = some 128 := by cases l with
      | nil => simp at hh
      | cons x l => simpa using hh
    rw [h0] at hg
    have hg' : (128 : Int) = grp m (sz m - 1) := by simpa using hg
    unfold grp at hg'
    rw [if_neg (by omega)] at hg'
    have hlt := lt_pow_sz m
    have hq : m / 128 ^ (sz m - 1) < 128 := by
      rw [Nat.div_lt_iff_lt_mul (pow128_pos _)]
      have : (128 : Nat) ^ sz m = 128 * 128 ^ (sz m - 1) := by
        rw [Nat.mul_comm, ← Nat.pow_succ, Nat.succ_eq_add_one, Nat.sub_add_cancel hp]
      omega
    have hq1 : 0 < m / 128 ^ (sz m - 1) := Nat.div_pos hle (pow128_pos _)
    omega

end Go.Proofs.Ytgalmkhgbokidaa
