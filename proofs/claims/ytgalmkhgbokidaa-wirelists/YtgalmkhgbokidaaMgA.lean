/-
  What is proved here: plain facts on numbers told in groups of seven bits (no Go text is named): the groups of a number, how many they are, and that bytes tell at most one number.
  What is proved here: bits.Len64 gives the number of binary digits, num.Size the number of groups of seven bits.
  What is proved here: small laws on bytes that lie in memory: what a slice of bytes reads as, that it stays so while nothing old is written, its string.
  What is proved here: num.Put lays b and behind it the groups of n into new memory, and writes nothing that was there.
  What is proved here: num.fold tells a number with a sign as one without, num.unfold tells it back, num.PutInt lays it behind bytes, code gives an error's number.
  What is proved here: when the texts of two lists of bytes are the same, and which of two numbers' texts stands first.
  What is proved here: the document's own Bytes gives a number's groups in new memory.
-/
import Derived.Test.YtgalmkhgbokidaaChecked
import Derived.WalkKit
import Derived.Lib.BitFns
import Derived.Laws.BytesArg
import Derived.Laws.CopyOwn

namespace Go.Proofs.Ytgalmkhgbokidaa

/-- Group number j of n as a byte: 128 is added to all but the last. -/
def grp (n j : Nat) : Int := (((n / 128 ^ j) % 128 : Nat) : Int) + (if j = 0 then 0 else 128)

/-- The lowest k groups of n, the highest first. -/
def enc (n : Nat) : Nat → List Int
  | 0 => []
  | k + 1 => grp n k :: enc n k

/-- How many groups n has. -/
def sz (n : Nat) : Nat := Nat.log2 n / 7 + 1

/-- The bytes of n. -/
def bytesOf (n : Nat) : List Int := enc n (sz n)

theorem length_enc (n : Nat) : ∀ k, (enc n k).length = k
  | 0 => rfl
  | k + 1 => by simp [enc, length_enc n k]

theorem length_bytesOf (n : Nat) : (bytesOf n).length = sz n := length_enc n _

theorem grp_range (n j : Nat) : 0 ≤ grp n j ∧ grp n j < 256 := by
  unfold grp; split <;> omega

theorem enc_range (n : Nat) : ∀ k, ∀ z ∈ enc n k, 0 ≤ z ∧ z < 256
  | 0, z, h => by simp [enc] at h
  | k + 1, z, h => by
    simp only [enc, List.mem_cons] at h
    rcases h with rfl | h
    · exact grp_range n k
    · exact enc_range n k z h

theorem enc_get (n : Nat) : ∀ k i, i < k → (enc n k)[i]? = some (grp n (k - 1 - i))
  | 0, i, h => by omega
  | k + 1, 0, h => by simp [enc]
  | k + 1, i + 1, h => by
    simp only [enc, List.getElem?_cons_succ]
    rw [enc_get n k i (by omega)]
    congr 2; omega

theorem enc_take_succ (n k i : Nat) (h : i < k) : (enc n k).take (i + 1) = (enc n k).take i ++ [grp n (k - 1 - i)] := by
  rw [List.take_add_one, enc_get n k i h]; rfl

theorem pow128 (k : Nat) : (128 : Nat) ^ k = 2 ^ (7 * k) := by
  rw [show (128 : Nat) = 2 ^ 7 from rfl, ← Nat.pow_mul]

theorem pow128_pos (k : Nat) : 0 < (128 : Nat) ^ k := Nat.pow_pos (by decide)

theorem sz_pos (n : Nat) : 0 < sz n := by unfold sz; omega

theorem lt_pow_sz (n : Nat) : n < 128 ^ sz n := by
  rw [pow128]
  rcases Nat.eq_zero_or_pos n with rfl | h
  · exact Nat.pow_pos (by decide)
  · refine (Nat.log2_lt (by omega)).1 ?_
    unfold sz; omega

theorem pow_sz_le (n : Nat) (h : sz n ≠ 1) : 128 ^ (sz n - 1) ≤ n := by
  rw [pow128]
  rcases Nat.eq_zero_or_pos n with rfl | h0
  · exact absurd rfl h
  · refine (Nat.le_log2 (by omega)).1 ?_
    unfold sz; omega

theorem sz_uniq (n k : Nat) (h0 : 0 < k) (h1 : n < 128 ^ k) (h2 : k = 1 ∨ 128 ^ (k - 1) ≤ n) : sz n = k := by
  have a := lt_pow_sz n
  rcases Nat.lt_trichotomy (sz n) k with h | h | h
  · have hk : k ≠ 1 := by have := sz_pos n; omega
    have hle : (128 : Nat) ^ sz n ≤ 128 ^ (k - 1) := Nat.pow_le_pow_right (by decide) (by omega)
    rcases h2 with h2 | h2
    · exact absurd h2 hk
    · omega
  · exact h
  · have hle : (128 : Nat) ^ k ≤ 128 ^ (sz n - 1) := Nat.pow_le_pow_right (by decide) (by omega)
    have := pow_sz_le n (by omega)
    omega

theorem sz_le_ten (n : Nat) (h : n < 18446744073709551616) : sz n ≤ 10 := by
  unfold sz
  rcases Nat.eq_zero_or_pos n with rfl | h0
  · decide
  · have : Nat.log2 n < 64 := (Nat.log2_lt (by omega)).2 (by simpa using h)
    omega

theorem sz_mono {a b : Nat} (h : a ≤ b) : sz a ≤ sz b := by
  rcases Nat.lt_or_ge (sz b) (sz a) with hh | hh
  · have h1 := pow_sz_le a (by have := sz_pos b; omega)
    have h2 := lt_pow_sz b
    have h3 : (128 : Nat) ^ sz b ≤ 128 ^ (sz a - 1) := Nat.pow_le_pow_right (by decide) (by omega)
    omega
  · exact hh

/-- What groups tell. -/
def val : List Int → Nat → Nat
  | [], n => n
  | z :: r, n => val r (n * 128 + (z % 128).toNat)

theorem val_append (l r : List Int) : ∀ n, val (l ++ r) n = val r (val l n) := by
  induction l with
  | nil => intro n; rfl
  | cons z l ih => intro n; simp only [List.cons_append, val]; exact ih _

theorem val_ge (l : List Int) : ∀ n, n ≤ val l n := by
  induction l with
  | nil => intro n; exact Nat.le_refl _
  | cons z l ih => intro n; simp only [val]; exact Nat.le_trans (by omega) (ih _)

theorem val_enc (n : Nat) : ∀ k m, m = n / 128 ^ k → val (enc n k) m = n
  | 0, m, h => by simpa [enc, val] using h
  | k + 1, m, h => by
    simp only [enc, val]
    refine val_enc n k _ ?_
    have e : (grp n k % 128).toNat = (n / 128 ^ k) % 128 := by unfold grp; split <;> omega
    rw [e, h, Nat.pow_succ, ← Nat.div_div_eq_div_mul]
    omega

theorem val_bytesOf (n : Nat) : val (bytesOf n) 0 = n :=
  val_enc n _ 0 (Nat.div_eq_of_lt (lt_pow_sz n)).symm

/-- Bytes of the form: all but the last are 128 at least, the last one is less. -/
def Form : List Int → Prop
  | [] => False
  | [z] => 0 ≤ z ∧ z < 128
  | z :: r => 128 ≤ z ∧ z < 256 ∧ Form r

theorem form_cons (z : Int) (r : List Int) (h : r ≠ []) : Form (z :: r) ↔ 128 ≤ z ∧ z < 256 ∧ Form r := by
  cases r with
  | nil => exact absurd rfl h
  | cons y r => rfl

theorem enc_form (n : Nat) : ∀ k, Form (enc n (k + 1))
  | 0 => by simp only [enc, Form, grp]; simp; omega
  | k + 1 => by
    have := enc_form n k
    rw [enc, form_cons _ _ (by simp [enc])]
    refine ⟨?_, (grp_range _ _).2, this⟩
    unfold grp; simp; omega

theorem bytesOf_form (n : Nat) : Form (bytesOf n) := enc_form n _

/-- Such bytes are the groups of what they tell. -/
theorem enc_of_form : ∀ (l : List Int) (m : Nat), Form l → enc (val l m) l.length = l ∧ val l m / 128 ^ l.length = m
  | [], _, h => by cases h
  | [z], m, h => by
    simp only [Form] at h
    simp only [val, enc, grp, List.length_cons, List.length_nil]
    have e : (((m * 128 + (z % 128).toNat) % 128 : Nat) : Int) = z := by omega
    refine ⟨?_, ?_⟩
    · simp; omega
    · simp; omega
  | z :: y :: r, m, h => by
    rw [form_cons _ _ (by simp)] at h
    obtain ⟨h1, h2, h3⟩ := h
    obtain ⟨i1, i2⟩ := enc_of_form (y :: r) (m * 128 + (z % 128).toNat) h3
    have ev : val (z :: y :: r) m = val (y :: r) (m * 128 + (z % 128).toNat) := rfl
    refine ⟨?_, ?_⟩
    · rw [ev]
      show enc _ ((y :: r).length + 1) = _
      rw [enc, i1]
      congr 1
      unfold grp
      rw [i2]
      simp; omega
    · rw [ev]
      show _ / 128 ^ ((y :: r).length + 1) = m
      rw [Nat.pow_succ, ← Nat.div_div_eq_div_mul, i2]
      omega

theorem form_ne {l : List Int} (h : Form l) : l ≠ [] := by rintro rfl; cases h

theorem bytesOf_of_form (l : List Int) (h : Form l) (h1 : l.length = 1 ∨ l.headD 0 ≠ 128) : bytesOf (val l 0) = l := by
  obtain ⟨e1, e2⟩ := enc_of_form l 0 h
  have hn := form_ne h
  have hlen : 0 < l.length := List.length_pos_iff.2 hn
  have hlt : val l 0 < 128 ^ l.length := by
    rcases Nat.lt_or_ge (val l 0) (128 ^ l.length) with h | h
    · exact h
    · have := Nat.div_pos h (pow128_pos l.length); omega
  have hs : sz (val l 0) = l.length := by
    refine sz_uniq _ _ hlen hlt ?_
    rcases h1 with h1 | h1
    · exact Or.inl h1
    · rcases Nat.eq_or_lt_of_le (Nat.succ_le_of_lt hlen) with hh | hh
      · exact Or.inl hh.symm
      · right
        match l, h, h1, hh with
        | z :: y :: r, h, h1, _ =>
          rw [form_cons _ _ (by simp)] at h
          obtain ⟨a1, a2, a3⟩ := h
          obtain ⟨_, i2⟩ := enc_of_form (y :: r) (0 * 128 + (z % 128).toNat) a3
          have ev : val (z :: y :: r) 0 = val (y :: r) (0 * 128 + (z % 128).toNat) := rfl
          have hz : 0 < 0 * 128 + (z % 128).toNat := by simp only [List.headD_cons] at h1; omega
          show 128 ^ (y :: r).length ≤ _
          rw [ev]
          rcases Nat.lt_or_ge (val (y :: r) (0 * 128 + (z % 128).toNat)) (128 ^ (y :: r).length) with hh | hh
          · rw [Nat.div_eq_of_lt hh] at i2; omega
          · exact hh
  show enc _ (sz _) = l
  rw [hs, e1]

/-- The number n is told at the head of l. -/
def Hit (l : List Int) (n : Nat) : Prop := n < 18446744073709551616 ∧ l.take (sz n) = bytesOf n

theorem form_prefix_eq : ∀ (a b l : List Int), Form a → Form b → l.take a.length = a → l.take b.length = b → a = b
  | [], _, _, h, _, _, _ => by cases h
  | _, [], _, _, h, _, _ => by cases h
  | _ :: _, _ :: _, [], _, _, h, _ => by simp at h
  | x :: a, y :: b, z :: l, ha, hb, h1, h2 => by
    simp only [List.length_cons, List.take_succ_cons, List.cons.injEq] at h1 h2
    obtain ⟨rfl, h1⟩ := h1
    obtain ⟨rfl, h2⟩ := h2
    cases a with
    | nil =>
      cases b with
      | nil => rfl
      | cons b0 b => rw [form_cons _ _ (by simp)] at hb; simp only [Form] at ha; omega
    | cons a0 a =>
      cases b with
      | nil => rw [form_cons _ _ (by simp)] at ha; simp only [Form] at hb; omega
      | cons b0 b =>
        rw [form_cons _ _ (by simp)] at ha hb
        rw [form_prefix_eq (a0 :: a) (b0 :: b) l ha.2.2 hb.2.2 h1 h2]

theorem Hit.uniq {l : List Int} {n m : Nat} (h : Hit l n) (k : Hit l m) : n = m := by
  have e := form_prefix_eq _ _ l (bytesOf_form n) (bytesOf_form m) (by rw [length_bytesOf]; exact h.2) (by rw [length_bytesOf]; exact k.2)
  rw [← val_bytesOf n, e, val_bytesOf]

/-- What Get answers. -/
def GetRel (l : List Int) (at' n next e : Int) : Prop :=
  ((at' < 0 ∨ (l.length : Int) < at') ∧ n = 0 ∧ next = 0 ∧ e = 9) ∨
  (0 ≤ at' ∧ at' ≤ (l.length : Int) ∧ 0 ≤ n ∧ Hit (l.drop at'.toNat) n.toNat ∧ next = at' + sz n.toNat ∧ e = 0) ∨
  (0 ≤ at' ∧ at' ≤ (l.length : Int) ∧ (∀ m, ¬ Hit (l.drop at'.toNat) m) ∧ n = 0 ∧ next = 0 ∧ e = 6)

theorem GetRel.uniq {l : List Int} {at' n next e n' next' e' : Int} (h : GetRel l at' n next e) (k : GetRel l at' n' next' e') : n = n' ∧ next = next' ∧ e = e' := by
  rcases h with ⟨a, rfl, rfl, rfl⟩ | ⟨a, b, c, d, rfl, rfl⟩ | ⟨a, b, c, rfl, rfl, rfl⟩ <;> rcases k with ⟨a', rfl, rfl, rfl⟩ | ⟨a', b', c', d', rfl, rfl⟩ | ⟨a', b', c', rfl, rfl, rfl⟩
  · exact ⟨rfl, rfl, rfl⟩
  · omega
  · omega
  · omega
  · have e := d.uniq d'
    have e' : n = n' := by omega
    subst e'
    exact ⟨rfl, rfl, rfl⟩
  · exact absurd d (c' _)
  · omega
  · exact absurd d' (c _)
  · exact ⟨rfl, rfl, rfl⟩

/-- At which place the bytes of a number that is told end. -/
theorem form_get : ∀ (l : List Int), Form l → (∀ i z, i + 1 < l.length → l[i]? = some z → 128 ≤ z) ∧ (∀ z, l[l.length - 1]? = some z → z < 128)
  | [], h => by cases h
  | [z], h => by
    simp only [Form] at h
    refine ⟨fun i z hi _ => by simp at hi, fun y hy => ?_⟩
    simp at hy; omega
  | z :: y :: r, h => by
    rw [form_cons _ _ (by simp)] at h
    obtain ⟨i1, i2⟩ := form_get (y :: r) h.2.2
    refine ⟨fun i x hi hx => ?_, fun x hx => ?_⟩
    · cases i with
      | zero => simp at hx; omega
      | succ i => exact i1 i x (by simpa using hi) (by simpa using hx)
    · exact i2 x (by simpa using hx)

theorem form_of_get : ∀ (l : List Int), l ≠ [] → (∀ z ∈ l, 0 ≤ z ∧ z < 256) → (∀ i z, i + 1 < l.length → l[i]? = some z → 128 ≤ z) → (∀ z, l[l.length - 1]? = some z → z < 128) → Form l
  | [], h, _, _, _ => absurd rfl h
  | [z], _, hr, _, h2 => ⟨(hr z (by simp)).1, h2 z (by simp)⟩
  | z :: y :: r, _, hr, h1, h2 => by
    rw [form_cons _ _ (by simp)]
    refine ⟨h1 0 z (by simp) (by simp), (hr z (by simp)).2, form_of_get (y :: r) (by simp) (fun x hx => hr x (List.mem_cons_of_mem _ hx)) (fun i x hi hx => ?_) (fun x hx => ?_)⟩
    · exact h1 (i + 1) x (by simpa using hi) (by simpa using hx)
    · exact h2 x (by simpa using hx)

/-- All of the first i bytes are 128 at least: so a number that is told has more bytes than i. -/
theorem Hit.len {l : List Int} {m i : Nat} (h : Hit l m) (hi : ∀ j z, j < i → l[j]? = some z → 128 ≤ z) : i < sz m := by
  rcases Nat.lt_or_ge i (sz m) with hh | hh
  · exact hh
  · obtain ⟨_, h2⟩ := form_get _ (bytesOf_form m)
    have hp := sz_pos m
    have hl := length_bytesOf m
    obtain ⟨y, hx⟩ : ∃ y, (bytesOf m)[sz m - 1]? = some y := ⟨_, List.getElem?_eq_getElem (by omega)⟩
    have a := h2 y (by rw [hl]; exact hx)
    rw [← h.2, List.getElem?_take_of_lt (by omega)] at hx
    have b := hi _ _ (by omega) hx
    omega

/-- Byte number i is less than 128, all ahead of it are not: so a number that is told has i + 1 bytes. -/
theorem Hit.len_eq {l : List Int} {m i : Nat} {z : Int} (h : Hit l m) (hi : ∀ j z, j < i → l[j]? = some z → 128 ≤ z) (hz : l[i]? = some z) (h1 : z < 128) : sz m = i + 1 := by
  have a := h.len hi
  rcases Nat.lt_or_ge (i + 1) (sz m) with hh | hh
  · obtain ⟨h2, _⟩ := form_get _ (bytesOf_form m)
    have := h2 i z (by rw [length_bytesOf]; exact hh) (by rw [← h.2, List.getElem?_take_of_lt a]; exact hz)
    omega
  · omega

theorem take_val_succ (l : List Int) (i : Nat) (z : Int) (h : l[i]? = some z) : val (l.take (i + 1)) 0 = val (l.take i) 0 * 128 + (z % 128).toNat := by
  rw [List.take_add_one, h, val_append]; rfl

theorem Hit.val {l : List Int} {m : Nat} (h : Hit l m) : val (l.take (sz m)) 0 = m := by rw [h.2, val_bytesOf]

theorem val_take_le (l : List Int) {i j : Nat} (h : i ≤ j) : val (l.take i) 0 ≤ val (l.take j) 0 := by
  obtain ⟨k, rfl⟩ := Nat.exists_eq_add_of_le h
  rw [List.take_add, val_append]
  exact val_ge _ _

theorem Hit.head {l : List Int} {m : Nat} (h : Hit l m) : l.head? ≠ some 128 := by
  intro hh
  have hp := sz_pos m
  have f := bytesOf_form m
  have e := h.2
  have hv := val_bytesOf m
  rcases Nat.eq_or_lt_of_le (Nat.succ_le_of_lt hp) with h1 | h1
  · obtain ⟨_, h2⟩ := form_get _ f
    have hl := length_bytesOf m
    have := h2 128 (by rw [hl, ← h1, ← e, ← h1]; cases l with
      | nil => simp at hh
      | cons x l => simp at hh; simp [hh])
    omega
  · have hle := pow_sz_le m (by omega)
    have hg : (bytesOf m)[0]? = some (grp m (sz m - 1 - 0)) := enc_get m (sz m) 0 hp
    rw [← e, List.getElem?_take_of_lt hp] at hg
    have h0 : l[0]? = some 128 := by cases l with
      | nil => simp at hh
      | cons x l => simpa using hh
    rw [h0] at hg
    have hg' : (128 : Int) = grp m (sz m - 1) := by simpa using hg
    unfold grp at hg'
    rw [if_neg (by omega)] at hg'
    have hlt := lt_pow_sz m
    have hq : m / 128 ^ (sz m - 1) < 128 := by
      rw [Nat.div_lt_iff_lt_mul (pow128_pos _)]
      have : (128 : Nat) ^ sz m = 128 * 128 ^ (sz m - 1) := by
        rw [Nat.mul_comm, ← Nat.pow_succ, Nat.succ_eq_add_one, Nat.sub_add_cancel hp]
      omega
    have hq1 : 0 < m / 128 ^ (sz m - 1) := Nat.div_pos hle (pow128_pos _)
    omega

end Go.Proofs.Ytgalmkhgbokidaa

namespace Go.Proofs.Ytgalmkhgbokidaa
open Go.RowKit
set_option maxRecDepth 20000

theorem tab_at (k : Nat) (h : k < Lib.len8tab.size) (hk : k < 256) : ((Lib.len8tab[k]'h).toNat : Int) = Lib.bitLen k := by
  have e := Lib.len8_of (k : Int) (by omega) (by omega)
  unfold Lib.len8 at e
  rw [Int.toNat_natCast] at e
  rw [← e, ByteArray.getElem?_lt' _ _ h]
  rfl

theorem wrap_small (n : Int) (h0 : 0 ≤ n) (h1 : n ≤ 1000) : wrap64 n = n := by
  unfold wrap64; omega

theorem len_way (x q c : Int) (k p : Nat) (hc : c = (k : Int)) (hk : k ≤ 56) (hp : p = 2 ^ k) (h : q.toNat < Lib.len8tab.size) (h0 : 0 ≤ q) (h1 : q < 256) (hq : q.toNat = x.toNat / p) (hx : p ≤ x.toNat) (hlt : x.toNat < 18446744073709551616) :
    wrap64 (c + wrap64 ((Lib.len8tab[q.toNat]'h).toNat : Int)) = (Lib.bitLen x.toNat : Int) := by
  have e := tab_at q.toNat h (by omega)
  have l := Lib.bitLen_le8' q h0 (by omega)
  rw [e]
  rw [wrap_small (Lib.bitLen q.toNat : Int) (by omega) (by omega), wrap_small _ (by omega) (by omega)]
  subst hp
  rw [Lib.bitLen_shift k x.toNat hx (by simpa using hlt), ← hq]
  omega

theorem len_way0 (x : Int) (h : x.toNat < Lib.len8tab.size) (h0 : 0 ≤ x) (h1 : x < 256) :
    wrap64 (wrap64 ((Lib.len8tab[x.toNat]'h).toNat : Int)) = (Lib.bitLen x.toNat : Int) := by
  have e := tab_at x.toNat h (by omega)
  have l := Lib.bitLen_le8' x h0 (by omega)
  rw [e, wrap_small (Lib.bitLen x.toNat : Int) (by omega) (by omega), wrap_small _ (by omega) (by omega)]

set_option maxHeartbeats 1000000 in
set_option maxRecDepth 100000 in
theorem len64_any (x : Int) (w : World) (h0 : 0 ≤ x) (h1 : x ≤ 18446744073709551615) :
    Calls Try.prog 79 #[.int .u64 x] w fun e w' => e = .returned (.int .i64 (Lib.bitLen x.toNat)) ∧ w' = w := by
  have hs : (Lib.len8tab.size : Int) = 256 := by rw [Lib.len8tab_size]; rfl
  go_enter Try.func79, Try.ntmps79
  go_wp2
  all_goals go_ret
  all_goals refine ⟨congrArg Ending.returned (congrArg (Value.int IntKind.i64) ?_), rfl⟩
  · exact len_way x _ 56 56 72057594037927936 rfl (by omega) (by decide) (by omega) (by omega) (by omega) (by omega) (by omega) (by omega)
  · exact len_way x _ 48 48 281474976710656 rfl (by omega) (by decide) (by omega) (by omega) (by omega) (by omega) (by omega) (by omega)
  · exact len_way x _ 40 40 1099511627776 rfl (by omega) (by decide) (by omega) (by omega) (by omega) (by omega) (by omega) (by omega)
  · exact len_way x _ 32 32 4294967296 rfl (by omega) (by decide) (by omega) (by omega) (by omega) (by omega) (by omega) (by omega)
  · exact len_way x _ 24 24 16777216 rfl (by omega) (by decide) (by omega) (by omega) (by omega) (by omega) (by omega) (by omega)
  · exact len_way x _ 16 16 65536 rfl (by omega) (by decide) (by omega) (by omega) (by omega) (by omega) (by omega) (by omega)
  · exact len_way x _ 8 8 256 rfl (by omega) (by decide) (by omega) (by omega) (by omega) (by omega) (by omega) (by omega)
  · exact len_way0 x (by omega) (by omega) (by omega)

theorem bitLenAux_log : ∀ (f x : Nat), x < 2 ^ f → 0 < x → Lib.bitLenAux f x = Nat.log2 x + 1
  | 0, x, h, h0 => by simp at h; omega
  | f + 1, x, h, h0 => by
    rw [Lib.bitLenAux, if_neg (by omega)]
    rcases Nat.eq_or_lt_of_le (Nat.succ_le_of_lt h0) with h1 | h1
    · have e : x = 1 := h1.symm
      subst e
      have e1 : Nat.log2 1 = 0 := by decide
      cases f <;> simp [Lib.bitLenAux, e1]
    · have hlt : x / 2 < 2 ^ f := by rw [Nat.pow_succ] at h; omega
      rw [bitLenAux_log f (x / 2) hlt (by omega)]
      conv => rhs; rw [Nat.log2_def, if_pos (by omega)]
      omega

theorem bitLen_log (x : Nat) (h : x < 18446744073709551616) (h0 : 0 < x) : Lib.bitLen x = Nat.log2 x + 1 := bitLenAux_log 64 x (by simpa using h) h0

theorem or_low (a b i : Nat) (h : b < 2 ^ i) : 2 ^ i * a ||| b = 2 ^ i * a + b := (Nat.two_pow_add_eq_or_of_lt h a).symm

theorem or_one (n : Nat) : n ||| 1 = 2 * (n / 2) + 1 := by
  have e : n = 2 ^ 1 * (n / 2) ||| (n % 2) := by rw [or_low _ _ 1 (by omega)]; omega
  have e2 : n % 2 ||| 1 = 1 := by rcases (show n % 2 = 0 ∨ n % 2 = 1 by omega) with h | h <;> rw [h] <;> rfl
  conv => lhs; rw [e]
  rw [Nat.or_assoc, e2, or_low _ _ 1 (by omega)]

theorem log_or_one (n : Nat) : Nat.log2 (n ||| 1) = Nat.log2 n := by
  rw [or_one]
  rcases Nat.lt_or_ge n 2 with h | h
  · rcases (show n = 0 ∨ n = 1 by omega) with rfl | rfl <;> decide
  · conv => lhs; rw [Nat.log2_def, if_pos (by omega)]
    conv => rhs; rw [Nat.log2_def, if_pos (by omega)]
    congr 2; omega

theorem size_eq (n : Nat) (h : n < 18446744073709551616) : ((Lib.bitLen (n ||| 1) : Int) + 7 - 1) / 7 = (sz n : Int) ∧ Lib.bitLen (n ||| 1) ≤ 64 := by
  have hl : n ||| 1 < 18446744073709551616 := by rw [or_one]; omega
  have hp : 0 < n ||| 1 := by rw [or_one]; omega
  have e := bitLen_log _ hl hp
  have l := Lib.bitLen_le _ 64 (by omega) (show n ||| 1 < 2 ^ 64 by simpa using hl)
  rw [log_or_one] at e
  refine ⟨?_, l⟩
  unfold sz
  rw [e]
  omega

set_option maxHeartbeats 400000 in
theorem size_any (n : Int) (w : World) (h0 : 0 ≤ n) (h1 : n ≤ 18446744073709551615) :
    Calls Try.prog 72 #[.int .u64 n] w fun e w' => e = .returned (.int .i64 (sz n.toNat)) ∧ w' = w := by
  obtain ⟨e1, e2⟩ := size_eq n.toNat (by omega)
  have hl : n.toNat ||| 1 < 18446744073709551616 := by rw [or_one]; omega
  have E1 : Hid (((Lib.bitLen (n.toNat ||| 1) : Int) + 7 - 1) / 7 = (sz n.toNat : Int)) := e1
  clear e1
  go_enter Try.func72, Try.ntmps72
  go_wp2_with fail
  rw [u64_or n 1 h0 (by omega) (by omega) (by omega)]
  refine (len64_any _ _ (by omega) (by simp only [Int.toNat_one]; omega)).mono ?_
  rintro e w' ⟨rfl, rfl⟩
  rw [Int.toNat_natCast, Int.toNat_one]
  generalize Lib.bitLen (n.toNat ||| 1) = L at *
  go_wp2
  go_ret
  exact ⟨congrArg Ending.returned (congrArg (Value.int IntKind.i64) E1.out), rfl⟩
end Go.Proofs.Ytgalmkhgbokidaa

namespace Go.Proofs.Ytgalmkhgbokidaa
open Go.RowKit
set_option maxRecDepth 20000

/-- The bytes l as cells. -/
def B8 (l : List Int) : List Value := l.map (Value.int .u8)

/-- A slice with the address a and l.length elements reads as the bytes l; it lies below block number B. -/
structure Bts (B : Nat) (w : World) (a : Option Addr) (l : List Int) : Prop where
  range : ∀ z ∈ l, 0 ≤ z ∧ z < 256
  cells : l ≠ [] → ∃ b off, a = some ⟨b, off, none⟩ ∧ b < B ∧ ∀ i, i < l.length → w.cell? ⟨b, off + i, none⟩ = some (.int .u8 (l.getD i 0))

theorem Bts.nil (B : Nat) (w : World) (a : Option Addr) : Bts B w a [] := ⟨fun z h => (by simp at h), fun h => absurd rfl h⟩

theorem Bts.keep {B : Nat} {w w' : World} {a : Option Addr} {l : List Int} (h : Bts B w a l) (hb : Below B w w') : Bts B w' a l := by
  refine ⟨h.range, fun hl => ?_⟩
  obtain ⟨b, off, e, hlt, hc⟩ := h.cells hl
  exact ⟨b, off, e, hlt, fun i hi => (hb.cell (p := ⟨b, off + i, none⟩) hlt).trans (hc i hi)⟩

theorem Bts.mono {B B' : Nat} {w : World} {a : Option Addr} {l : List Int} (h : Bts B w a l) (hB : B ≤ B') : Bts B' w a l := by
  refine ⟨h.range, fun hl => ?_⟩
  obtain ⟨b, off, e, hlt, hc⟩ := h.cells hl
  exact ⟨b, off, e, by omega, hc⟩

theorem addr_add (b off i : Nat) : (⟨b, off, none⟩ : Addr).add i = ⟨b, off + i, none⟩ := by unfold Addr.add; split <;> simp_all

theorem Bts.string {B : Nat} {w : World} {a : Option Addr} {l : List Int} (h : Bts B w a l) (cap : Nat) :
    (convert 22 9 (.slice a l.length cap)).run Try.prog w = .ok (.string (strOfNums l)) w := by
  by_cases hl : l = []
  · subst hl
    rw [run_convert_bytes_string w 22 9 5 _ _ cap Try.underlying22 Try.underlying5 Try.underlying9]
    cases a with
    | none => simp [Conv.bytesToString, strOfNums]; rfl
    | some a =>
      have h0 := run_loadCells_list (P := Try.prog) w a [] (fun j v hj => by simp at hj)
      rw [run_bytesToString w a _ cap [] (by simpa using h0)]
      simp [strOfNums]; rfl
  · obtain ⟨b, off, rfl, _, hc⟩ := h.cells hl
    exact run_convert_bytes_arg w 22 5 Try.underlying22 Try.underlying5 b off l.length cap l rfl hc 9 Try.underlying9

theorem length_B8 (l : List Int) : (B8 l).length = l.length := by simp [B8]
theorem B8_append (l r : List Int) : B8 (l ++ r) = B8 l ++ B8 r := by simp [B8]
theorem B8_one (l : List Int) : ∀ u ∈ B8 l, u.oneCell' = true := by
  intro u hu
  simp only [B8, List.mem_map] at hu
  obtain ⟨z, _, rfl⟩ := hu
  rfl
theorem B8_get (l : List Int) (j : Nat) (u : Value) (h : (B8 l)[j]? = some u) : j < l.length ∧ u = .int .u8 (l.getD j 0) := by
  simp only [B8, List.getElem?_map, Option.map_eq_some_iff] at h
  obtain ⟨z, hz, rfl⟩ := h
  have hj : j < l.length := by
    rcases Nat.lt_or_ge j l.length with h | h
    · exact h
    · rw [List.getElem?_eq_none h] at hz; cases hz
  exact ⟨hj, by simp [List.getD, hz]⟩

/-- What a call owns reads as bytes. -/
theorem Bts.of_owns {base : Nat} {w : World} {g n cap : Nat} {l : List Int} (h : w.ownsRow base 5 1 (.slice (some ⟨g, 0, none⟩) n cap) n (B8 l)) (hr : ∀ z ∈ l, 0 ≤ z ∧ z < 256) : Bts w.heap.size w (some ⟨g, 0, none⟩) l := by
  refine ⟨hr, fun hl => ⟨g, 0, rfl, (h.lt g rfl).2, fun i hi => ?_⟩⟩
  have hn : l.length = n := by have := h.1; simp [B8] at this; exact this
  rw [Nat.zero_add, h.cellAt i (by omega)]
  simp [B8, List.getElem?_eq_getElem hi, List.getD]

theorem owns_len {base : Nat} {w : World} {g n cap : Nat} {l : List Int} (h : w.ownsRow base 5 1 (.slice (some ⟨g, 0, none⟩) n cap) n (B8 l)) : l.length = n := by
  have := h.1; simp [B8] at this; exact this

theorem Try.info5 : (Try.prog.info? 5).map (fun i => (i.zero, i.size, i.bytes)) = some (some (.int .u8 0), 1, 1) := by kernel_rfl

/-- make([]byte, n, c). -/
theorem wpList_make_len {P : Program} (w : World) {ops : Array Oper} {rest : List Oper} {o : Oper} {a : Act} {Q : Exit → Act → World → Prop}
    (hg : o.guard = none) (l c : Operand) (t : TypeId) (hop : o.op = Op.makeSlice t l c)
    (e : TypeId) (i : TypeInfo) (z : Value) (h1 : P.underlying t = some (.slice e)) (h2 : P.info? e = some i) (h3 : i.zero = some z) (h4 : i.size = 1) (h5 : i.bytes = 1)
    (kl kc : IntKind) (L C : Int) (n m : Nat) (hl : a.eval l = .int kl L) (hc : a.eval c = .int kc C) (hL : L = (n : Int)) (hC : C = ((n + m : Nat) : Int)) (b2 : n + m ≤ 281474976710656)
    (hK : ∀ cur : List Value, cur.length = n + m → wpList P ops Q rest (a.put o.dst (.slice (some ⟨w.heap.size, 0, none⟩) n (n + m))) (w.alloc (.cells cur.toArray e))) :
    wpList P ops Q (o :: rest) a w := by
  refine wpList_plain hg fun K hK' => ?_
  have hrun := run_make (P := P) w t e i z h1 h2 h3 kl kc L C (by omega) (by omega) (by rw [h5]; omega) (by omega)
  rw [show L.toNat = n by omega, show C.toNat = n + m by omega] at hrun
  unfold Oper.wp
  simp [execOp, hop, hl, hc, hrun, Result.andThen, Oper.upon]
  have := hK' _ _ (hK (madeCells z.cells ((n + m) * i.size)).toList (by simp [size_madeCells, h4]))
  simpa using this

/-- Behind make and copy. -/
theorem owns_copied (w' : World) (g n m : Nat) (cur : List Value) (l : List Int) (hl : l.length = n) (hc : cur.length = n + m) (hm : n + m ≤ 281474976710656)
    (h : w'.heap[g]? = some (.cells (splice cur 0 (B8 l)).toArray 5 (0, 0))) : w'.ownsRow g 5 1 (.slice (some ⟨g, 0, none⟩) n (n + m)) n (B8 l) := by
  refine ⟨by simp [B8, hl], Or.inr ⟨g, n + m, _, rfl, Nat.le_refl _, h, by omega, by simp only [maxLen]; omega, ?_, ?_⟩⟩
  · have := length_splice cur 0 (B8 l) (by simp [B8]; omega)
    simp; omega
  · have e : n * 1 = (B8 l).length := by simp [B8, hl]
    rw [e]
    simp [splice]

theorem Bts.src {B : Nat} {w : World} {a : Option Addr} {l : List Int} (h : Bts B w a l) (h0 : 0 < (B8 l).length) : ∃ ad, a = some ad ∧ ∀ j v, (B8 l)[j]? = some v → w.cell? (ad.add j) = some v := by
  obtain ⟨b, off, rfl, _, hc⟩ := h.cells (by rintro rfl; simp [B8] at h0)
  refine ⟨_, rfl, fun j v hj => ?_⟩
  obtain ⟨hlt, rfl⟩ := B8_get l j v hj
  rw [addr_add]
  exact hc j hlt

theorem one_new (w : World) (z : Int) : ∀ j u, [Value.int .u8 z][j]? = some u → (w.alloc (.cells #[.int .u8 z] 5)).cell? ((⟨w.heap.size, 0, none⟩ : Addr).add j) = some u := by
  intro j u hj
  match j, hj with
  | 0, hj => simp at hj; subst hj; simp [Addr.add]
  | j + 1, hj => simp at hj

theorem one_one (z : Int) : ∀ u ∈ [Value.int .u8 z], u.oneCell' = true := by
  intro u hu
  simp at hu
  subst hu
  rfl

theorem Bts.alloc {B : Nat} {w : World} {a : Option Addr} {l : List Int} (h : Bts B w a l) (hB : B ≤ w.heap.size) (o : Obj) : Bts B (w.alloc o) a l :=
  h.keep ((Below.refl _ _).alloc hB o)

theorem Bts.conv {B : Nat} {w : World} {a : Option Addr} {l : List Int} (h : Bts B w a l) (n cap : Nat) (hn : l.length = n) :
    (convert 22 9 (.slice a n cap)).run Try.prog w = .ok (.string (strOfNums l)) w := by
  subst hn; exact h.string cap

/-- A part of bytes. -/
theorem Bts.part {B : Nat} {w : World} {b off : Nat} {l : List Int} (h : Bts B w (some ⟨b, off, none⟩) l) (i n : Nat) : Bts B w (some ⟨b, off + i, none⟩) ((l.drop i).take n) := by
  refine ⟨fun z hz => h.range z (List.mem_of_mem_drop (List.mem_of_mem_take hz)), fun hl => ?_⟩
  have hne : l ≠ [] := by rintro rfl; simp at hl
  obtain ⟨b', off', e, hB, hc⟩ := h.cells hne
  cases e
  refine ⟨b, off + i, rfl, hB, fun j hj => ?_⟩
  rw [List.length_take, List.length_drop] at hj
  rw [Nat.add_assoc, hc (i + j) (by omega)]
  simp [List.getD, List.getElem?_take_of_lt (show j < n by omega)]

theorem hid {p : Prop} (h : p) : Hid p := h

end Go.Proofs.Ytgalmkhgbokidaa

namespace Go.Proofs.Ytgalmkhgbokidaa
open Go.RowKit
set_option maxRecDepth 20000

theorem grp_low (n : Int) (j : Nat) (h0 : 0 ≤ n) : bits .and .u8 (n / 2 ^ (7 * j) % 256) 127 = (((n.toNat / 128 ^ j) % 128 : Nat) : Int) := by
  obtain ⟨m, rfl⟩ := Int.eq_ofNat_of_zero_le h0
  rw [u8_and _ _ (by omega) (by omega) (by omega) (by omega)]
  have e : (((m : Int) / 2 ^ (7 * j) % 256).toNat) = (m / 128 ^ j) % 256 := by
    rw [pow128]
    have : ((m : Int) / 2 ^ (7 * j) % 256) = (((m / 2 ^ (7 * j)) % 256 : Nat) : Int) := by simp
    rw [this, Int.toNat_natCast]
  rw [e, show (127 : Int).toNat = 2 ^ 7 - 1 from rfl, Nat.and_two_pow_sub_one_eq_mod, Int.toNat_natCast]
  congr 1
  omega

theorem grp_more (n : Int) (j : Nat) (h0 : 0 ≤ n) (hj : 0 < j) : bits .or .u8 (bits .and .u8 (n / 2 ^ (7 * j) % 256) 127) 128 = grp n.toNat j := by
  rw [grp_low n j h0, u8_or128_right _ (by omega) (by omega), grp, if_neg (by omega)]

theorem grp_last (n : Int) (h0 : 0 ≤ n) : bits .and .u8 (n % 256) 127 = grp n.toNat 0 := by
  have h := grp_low n 0 h0
  simp only [Nat.mul_zero, Int.pow_zero, Int.ediv_one] at h
  rw [h, grp]; simp

theorem put_step {B : Nat} {w wr w3 : World} {len s k n : Nat} {l : List Int} {o : Obj} (hk : k < s) (hbel : Below B w wr) (hB : B ≤ wr.heap.size)
    (hown : w3.ownsRow B 5 1 (.slice (some ⟨B, 0, none⟩) (len + k + 1) (len + s)) (len + k + 1) (B8 (l ++ (enc n s).take k) ++ [.int .u8 (grp n (s - 1 - k))])) (hgrow : (wr.alloc o).grownBy w3 (some B)) :
    w3.ownsRow B 5 1 (.slice (some ⟨B, 0, none⟩) (len + (k + 1)) (len + s)) (len + (k + 1)) (B8 (l ++ (enc n s).take (k + 1))) ∧ Below B w w3 := by
  refine ⟨?_, (hbel.alloc hB o).grown hgrow (by simp; omega) (fun j hj => by cases hj; exact Nat.le_refl _)⟩
  rw [enc_take_succ n s k hk, ← List.append_assoc, B8_append _ [grp n (s - 1 - k)]]
  exact hown

set_option maxHeartbeats 1000000 in
theorem put_any (w : World) (a : Option Addr) (cap : Nat) (l : List Int) (n : Int) (hb : Bts w.heap.size w a l) (hl : l.length ≤ 1000000000) (h0 : 0 ≤ n) (h1 : n ≤ 18446744073709551615) :
    Calls Try.prog 52 #[.slice a l.length cap, .int .u64 n] w fun e w' => ∃ g c, e = .returned (.slice (some ⟨g, 0, none⟩) (l.length + sz n.toNat) c) ∧
      w'.ownsRow w.heap.size 5 1 (.slice (some ⟨g, 0, none⟩) (l.length + sz n.toNat) c) (l.length + sz n.toNat) (B8 (l ++ bytesOf n.toNat)) ∧ Below w.heap.size w w' := by
  obtain ⟨i0, hi, hz0, hz1, hz2⟩ := info_parts Try.info5
  have hs1 := sz_pos n.toNat
  have hs2 := sz_le_ten n.toNat (by omega)
  obtain ⟨s, hs⟩ : ∃ s, s = sz n.toNat := ⟨_, rfl⟩
  have HS : Hid (s = sz n.toNat) := hs
  rw [← hs] at hs1 hs2 ⊢
  obtain ⟨len, hlen⟩ : ∃ len, len = l.length := ⟨_, rfl⟩
  have HL : Hid (len = l.length) := hlen
  rw [← hlen] at hl ⊢
  clear hs hlen
  go_enter Try.func52, Try.ntmps52
  go_wp2_with fail
  refine (size_any n _ h0 h1).mono ?_
  rintro e w' ⟨rfl, rfl⟩
  rw [← HS.out]
  go_wp2_with (first
    | (refine wpList_make_len _ rfl _ _ 22 rfl 5 i0 _ Try.underlying22 hi hz0 hz1 hz2 .i64 .i64 _ _ len s rfl rfl rfl (by omega) (by omega) ?_; intro cur hcur)
    | (refine wpList_copy_splice rfl (.tmp 19) (.tmp 20) 22 22 rfl 5 Try.underlying22 (by rw [hi]; simp [hz1]) _ _ _ _ _ _ rfl rfl w'.heap.size 0 cur 5 (heap_alloc_new _ _) (B8 l) (by rw [length_B8, ← HL.out]; simp) (fun h => ⟨rfl, (hb.alloc (Nat.le_refl _) _).src h⟩) (by rw [length_B8, ← HL.out]; omega) (B8_one l) w'.heap.size w' ((Below.refl _ _).alloc (Nat.le_refl _) _) (Nat.le_refl _) ?_; intro w2 hg2 hb2))
  have hown0 := owns_copied w2 w'.heap.size len s cur l HL.out.symm hcur (by omega) hg2.out
  have hB2 := hb2.size
  clear hg2 hcur hb
  go_loopw [6, 23] (fun out i wr => ∃ k : Nat, k ≤ s ∧ i = .int .i64 k ∧ out = .slice (some ⟨w'.heap.size, 0, none⟩) (len + k) (len + s) ∧
      wr.ownsRow w'.heap.size 5 1 (.slice (some ⟨w'.heap.size, 0, none⟩) (len + k) (len + s)) (len + k) (B8 (l ++ (enc n.toNat s).take k)) ∧ Below w'.heap.size w' wr) (fun _ i _ => s - (intOf i).toNat)
  case atStart => exact ⟨0, Nat.zero_le _, rfl, rfl, by simpa using hown0, hb2⟩
  case round =>
    obtain ⟨k, hk, rfl, rfl, hown, hbel⟩ := hrel
    clear hown0 hb2 hB2
    have hBr : w'.heap.size ≤ wr.heap.size := hbel.size
    by_cases hlt : k < s
    · by_cases hmore : k + 1 < s
      · have hg := grp_more n (s - 1 - k) h0 (by omega)
        go_wp2_with (first
          | (at_builtin; refine wpList_append_fits _ rfl (.tmp 40) (.tmp 42) 22 rfl w'.heap.size 5 i0 1 Try.underlying22 hi hz1 w'.heap.size (len + k) (len + s) _ rfl (hown.alloc _) ⟨wr.heap.size, 0, none⟩ 1 1 [.int .u8 (grp n.toNat (s - 1 - k))] rfl rfl (one_new _ _) (one_one _) (by omega) ?_; intro w3 hown3 hgrow3))
        have R := put_step hlt hbel hBr hown3 hgrow3
        clear hown3 hgrow3 hown hbel
        go_roundw
        case rel => exact ⟨k + 1, by omega, by go_num, rfl, R.1, R.2⟩
        case measure => simp [intOf]; omega
      · have hg := grp_last n h0
        have he : s - 1 - k = 0 := by omega
        go_wp2_with (first
          | (at_builtin; refine wpList_append_fits _ rfl (.tmp 40) (.tmp 42) 22 rfl w'.heap.size 5 i0 1 Try.underlying22 hi hz1 w'.heap.size (len + k) (len + s) _ rfl (hown.alloc _) ⟨wr.heap.size, 0, none⟩ 1 1 [.int .u8 (grp n.toNat 0)] rfl rfl (one_new _ _) (one_one _) (by omega) ?_; intro w3 hown3 hgrow3))
        have R := put_step hlt hbel hBr (by rw [he]; exact hown3) hgrow3
        clear hown3 hgrow3 hown hbel
        go_roundw
        case rel => exact ⟨k + 1, by omega, by go_num, rfl, R.1, R.2⟩
        case measure => simp [intOf]; omega
    · have hks : k = s := by omega
      have HK : Hid (k = s) := hks
      clear hks
      go_wp2
      go_ret
      have e := HK.out
      subst e
      rw [List.take_of_length_le (by rw [length_enc]; exact Nat.le_refl _)] at hown
      have hbo : bytesOf n.toNat = enc n.toNat k := by rw [bytesOf, ← HS.out]
      rw [hbo]
      exact ⟨w'.heap.size, len + k, rfl, hown, hbel⟩
end Go.Proofs.Ytgalmkhgbokidaa

namespace Go.Proofs.Ytgalmkhgbokidaa
open Go.RowKit
set_option maxRecDepth 20000
set_option linter.unusedVariables false

/-- A number with a sign as one without. -/
def zig (n : Int) : Int := if n < 0 then -2 * n - 1 else 2 * n

theorem code_any (n : Int) (w : World) : Calls Try.prog 12 #[.int .i64 n] w fun e w' => e = .returned (.int .i64 n) ∧ w' = w := by
  go_enter Try.func12, Try.ntmps12
  go_wp2
  go_ret
  exact ⟨rfl, rfl⟩

theorem not_any (n : Int) (h0 : -9223372036854775808 ≤ n) (h1 : n ≤ 9223372036854775807) : bits .xor .i64 (-1) n = -1 - n := by
  show IntKind.i64.wrap ((BitVec.ofInt 64 (-1) ^^^ BitVec.ofInt 64 n).toNat : Int) = _
  have e1 : BitVec.ofInt 64 (-1) = BitVec.allOnes 64 := by decide
  rw [e1, BitVec.allOnes_xor, BitVec.toNat_not, BitVec.toNat_ofInt, IntKind.wrap_i64]
  omega

theorem u64_or_one (m : Nat) (h : 2 * m + 1 < 18446744073709551616) : bits .or .u64 ((2 * m : Nat) : Int) 1 = ((2 * m + 1 : Nat) : Int) := by
  rw [u64_or _ _ (by omega) (by omega) (by omega) (by omega), Int.toNat_natCast, Int.toNat_one, or_one]
  congr 2; omega

theorem zig_neg (n : Int) (h0 : -9223372036854775808 ≤ n) (h : n < 0) :
    bits .or .u64 (IntKind.u64.wrap (IntKind.u64.wrap (bits .xor .i64 (-1) n) * 2)) 1 = zig n := by
  rw [not_any n h0 (by omega), IntKind.wrap_u64, IntKind.wrap_u64]
  obtain ⟨m, hm⟩ := Int.eq_ofNat_of_zero_le (show 0 ≤ -1 - n by omega)
  have e : (-1 - n) % 18446744073709551616 * 2 % 18446744073709551616 = ((2 * m : Nat) : Int) := by omega
  rw [e, u64_or_one m (by omega), zig, if_pos h]
  omega

theorem zig_range (n : Int) (h0 : -9223372036854775808 ≤ n) (h1 : n ≤ 9223372036854775807) : 0 ≤ zig n ∧ zig n ≤ 18446744073709551615 := by
  unfold zig; split <;> omega

theorem fold_any (n : Int) (w : World) (h0 : -9223372036854775808 ≤ n) (h1 : n ≤ 9223372036854775807) :
    Calls Try.prog 80 #[.int .i64 n] w fun e w' => e = .returned (.int .u64 (zig n)) ∧ w' = w := by
  by_cases hneg : n < 0
  · go_enter Try.func80, Try.ntmps80
    go_wp2
    go_ret
    exact ⟨congrArg Ending.returned (congrArg (Value.int IntKind.u64) (zig_neg n h0 hneg)), rfl⟩
  · have e : n * 2 = zig n := by unfold zig; rw [if_neg hneg]; omega
    have E : Hid (n * 2 = zig n) := e
    clear e
    go_enter Try.func80, Try.ntmps80
    go_wp2
    go_ret
    exact ⟨congrArg Ending.returned (congrArg (Value.int IntKind.u64) E.out), rfl⟩

theorem putInt_any (w : World) (a : Option Addr) (cap : Nat) (l : List Int) (n : Int) (hb : Bts w.heap.size w a l) (hl : l.length ≤ 1000000000) (h0 : -9223372036854775808 ≤ n) (h1 : n ≤ 9223372036854775807) :
    Calls Try.prog 73 #[.slice a l.length cap, .int .i64 n] w fun e w' => ∃ g c, e = .returned (.slice (some ⟨g, 0, none⟩) (l.length + sz (zig n).toNat) c) ∧
      w'.ownsRow w.heap.size 5 1 (.slice (some ⟨g, 0, none⟩) (l.length + sz (zig n).toNat) c) (l.length + sz (zig n).toNat) (B8 (l ++ bytesOf (zig n).toNat)) ∧ Below w.heap.size w w' := by
  obtain ⟨z0, z1⟩ := zig_range n h0 h1
  go_enter Try.func73, Try.ntmps73
  go_wp2_with fail
  refine (fold_any n _ h0 h1).mono ?_
  rintro e w' ⟨rfl, rfl⟩
  go_wp2_with fail
  refine (put_any _ a cap l (zig n) hb hl z0 z1).mono ?_
  rintro e w2 ⟨g, c, rfl, hown, hbel⟩
  go_wp2
  go_ret
  exact ⟨g, c, rfl, hown, hbel⟩

end Go.Proofs.Ytgalmkhgbokidaa

namespace Go.Proofs.Ytgalmkhgbokidaa
open Go.RowKit
set_option maxRecDepth 20000

/-- A number as a byte. -/
def b8 (z : Int) : UInt8 := UInt8.ofNat z.toNat

theorem toList_str (l : List Int) : (strOfNums l).toList = l.map b8 := by
  rw [ByteArray.toList_eq, strOfNums_data]; rfl

theorem b8_inj {x y : Int} (hx : 0 ≤ x ∧ x < 256) (hy : 0 ≤ y ∧ y < 256) (h : b8 x = b8 y) : x = y := by
  have := congrArg UInt8.toNat h
  simp only [b8, UInt8.toNat_ofNat'] at this
  omega

theorem b8_lt {x y : Int} (hx : 0 ≤ x ∧ x < 256) (hy : 0 ≤ y ∧ y < 256) (h : x < y) : b8 x < b8 y := by
  rw [UInt8.lt_iff_toNat_lt]
  simp only [b8, UInt8.toNat_ofNat']
  omega

theorem map_b8_inj : ∀ (l r : List Int), (∀ z ∈ l, 0 ≤ z ∧ z < 256) → (∀ z ∈ r, 0 ≤ z ∧ z < 256) → l.map b8 = r.map b8 → l = r
  | [], [], _, _, _ => rfl
  | [], _ :: _, _, _, h => by simp at h
  | _ :: _, [], _, _, h => by simp at h
  | x :: l, y :: r, hl, hr, h => by
    simp only [List.map_cons, List.cons.injEq] at h
    rw [b8_inj (hl x (by simp)) (hr y (by simp)) h.1, map_b8_inj l r (fun z hz => hl z (List.mem_cons_of_mem _ hz)) (fun z hz => hr z (List.mem_cons_of_mem _ hz)) h.2]

theorem bytesOf_range (n : Nat) : ∀ z ∈ bytesOf n, 0 ≤ z ∧ z < 256 := enc_range n _

theorem bytesOf_inj {n m : Nat} (h : bytesOf n = bytesOf m) : n = m := by
  rw [← val_bytesOf n, h, val_bytesOf]

theorem str_eq_of (l r : List Int) (hl : ∀ z ∈ l, 0 ≤ z ∧ z < 256) (hr : ∀ z ∈ r, 0 ≤ z ∧ z < 256) : ((strOfNums l).toList == (strOfNums r).toList) = decide (l = r) := by
  rw [toList_str, toList_str]
  by_cases h : l = r
  · subst h; simp
  · rw [decide_eq_false h, beq_eq_false_iff_ne]
    exact fun e => h (map_b8_inj l r hl hr e)

theorem num_eq_of (a b : Int) (ha : 0 ≤ a) (hb : 0 ≤ b) : ((strOfNums (bytesOf a.toNat)).toList == (strOfNums (bytesOf b.toNat)).toList) = (a == b) := by
  rw [str_eq_of _ _ (bytesOf_range _) (bytesOf_range _)]
  by_cases h : a = b
  · subst h; simp
  · rw [decide_eq_false (fun e => h (by have := bytesOf_inj e; omega)), eq_comm, beq_eq_false_iff_ne]
    exact h

theorem enc_less : ∀ (k a b : Nat), a % 128 ^ k < b % 128 ^ k → Op.bytesLess ((enc a k).map b8) ((enc b k).map b8) = true
  | 0, a, b, h => by simp [Nat.mod_one] at h
  | k + 1, a, b, h => by
    simp only [enc, List.map_cons, Op.bytesLess, Bool.or_eq_true, Bool.and_eq_true, decide_eq_true_eq, beq_iff_eq]
    rw [Nat.pow_succ, Nat.mod_mul, Nat.mod_mul] at h
    have ha : a % 128 ^ k < 128 ^ k := Nat.mod_lt _ (pow128_pos k)
    have hb : b % 128 ^ k < 128 ^ k := Nat.mod_lt _ (pow128_pos k)
    rcases Nat.lt_trichotomy (a / 128 ^ k % 128) (b / 128 ^ k % 128) with hh | hh | hh
    · left
      refine b8_lt (grp_range a k) (grp_range b k) ?_
      unfold grp; split <;> omega
    · right
      refine ⟨?_, enc_less k a b ?_⟩
      · congr 1; unfold grp; rw [hh]
      · rw [hh] at h; omega
    · exfalso
      have : 128 ^ k * (b / 128 ^ k % 128 + 1) ≤ 128 ^ k * (a / 128 ^ k % 128) := Nat.mul_le_mul_left _ hh
      rw [Nat.mul_add] at this
      omega

theorem num_less (a b : Int) (ha : 0 ≤ a) (hb : 0 ≤ b) (h : a < b) (hs : sz a.toNat = sz b.toNat) :
    Op.bytesLess (strOfNums (bytesOf a.toNat)).toList (strOfNums (bytesOf b.toNat)).toList = true := by
  rw [toList_str, toList_str, bytesOf, bytesOf, hs]
  refine enc_less _ _ _ ?_
  have h1 := lt_pow_sz a.toNat
  rw [hs] at h1
  rw [Nat.mod_eq_of_lt h1, Nat.mod_eq_of_lt (lt_pow_sz _)]
  omega

theorem str_add (l r : List Int) : strOfNums l ++ strOfNums r = strOfNums (l ++ r) := by
  apply ByteArray.ext
  simp [strOfNums, ByteArray.data_append]

end Go.Proofs.Ytgalmkhgbokidaa

namespace Go.Proofs.Ytgalmkhgbokidaa
open Go.RowKit
set_option maxRecDepth 20000
set_option linter.unusedVariables false

/-- The loop's relation. -/
def BytesLoop (w : World) (n : Nat) (nv out : Value) (wr : World) : Prop :=
  ∃ j g c m : Nat, nv = .int .u64 (m : Int) ∧ out = .slice (some ⟨g, 0, none⟩) (j + 1) c ∧ m = n / 128 ^ (j + 1) ∧ wr.ownsRow w.heap.size 5 1 (.slice (some ⟨g, 0, none⟩) (j + 1) c) (j + 1) (B8 (enc n (j + 1))) ∧
    Below w.heap.size w wr ∧ (j = 0 ∨ 128 ^ j ≤ n)

theorem owns_form {w : World} {base : Nat} {v : Value} {n : Nat} {xs : List Value} (h : w.ownsRow base 5 1 v (n + 1) xs) : ∃ g c, v = .slice (some ⟨g, 0, none⟩) (n + 1) c := by
  rcases h.2 with ⟨_, h⟩ | ⟨g, cap, cur, hv, _⟩
  · omega
  · exact ⟨g, cap, hv⟩

theorem owns_lit_one (w : World) (B : Nat) (hB : B ≤ w.heap.size) (z : Int) : (w.alloc (.cells #[.int .u8 z] 5)).ownsRow B 5 1 (.slice (some ⟨w.heap.size, 0, none⟩) 1 1) 1 (B8 [z]) := by
  have h := World.ownsRow_lit (base := B) (e := 5) (size := 1) w #[.int .u8 z] 1 hB (by decide) rfl
  simpa [B8] using h

theorem bytes_step {w wr w1 : World} {n j m : Nat} {v : Value} {o : Obj} (hm : m = n / 128 ^ (j + 1)) (hn : 0 < m) (hbel : Below w.heap.size w wr)
    (hown : w1.ownsRow w.heap.size 5 1 v (1 + (j + 1)) (B8 [(m : Int) % 128 + 128] ++ B8 (enc n (j + 1)))) (hgrow : (wr.alloc o).grownBy w1 (some wr.heap.size)) :
    BytesLoop w n (.int .u64 ((m : Int) / 128)) v w1 := by
  have hz := hbel.size
  rw [Nat.add_comm 1 (j + 1)] at hown
  obtain ⟨g', c', rfl⟩ := owns_form hown
  have e1 : B8 [(m : Int) % 128 + 128] ++ B8 (enc n (j + 1)) = B8 (enc n (j + 1 + 1)) := by
    rw [← B8_append]
    congr 1
    show _ = grp n (j + 1) :: enc n (j + 1)
    rw [List.singleton_append]
    congr 1
    unfold grp
    rw [if_neg (by omega), ← hm]
    omega
  rw [e1] at hown
  refine ⟨j + 1, g', c', m / 128, by simp, rfl, ?_, hown, (hbel.alloc hz o).grown hgrow (by simp; omega) (fun k hk => by cases hk; omega), Or.inr ?_⟩
  · rw [Nat.pow_succ 128 (j + 1), ← Nat.div_div_eq_div_mul, hm]
  · rcases Nat.lt_or_ge n (128 ^ (j + 1)) with h | h
    · rw [Nat.div_eq_of_lt h] at hm; omega
    · exact h

theorem bytes_start (w : World) (n : Nat) : BytesLoop w n (.int .u64 ((n : Int) / 128)) (.slice (some ⟨w.heap.size, 0, none⟩) 1 1) (w.alloc (.cells #[.int .u8 ((n : Int) % 128)] 5)) := by
  refine ⟨0, w.heap.size, 1, n / 128, by simp, rfl, by simp, ?_, (Below.refl _ _).alloc (Nat.le_refl _) _, Or.inl rfl⟩
  have e : enc n 1 = [(n : Int) % 128] := by simp [enc, grp]
  show World.ownsRow _ _ _ _ _ 1 (B8 (enc n 1))
  rw [e]
  exact owns_lit_one w _ (Nat.le_refl _) _

theorem bytes_room {n j : Nat} (h1 : n < 18446744073709551616) (hj : j = 0 ∨ 128 ^ j ≤ n) : j ≤ 9 := by
  rcases hj with rfl | hj
  · omega
  · rcases Nat.lt_or_ge 9 j with h | h
    · have : (128 : Nat) ^ 10 ≤ 128 ^ j := Nat.pow_le_pow_right (by decide) h
      have e : (128 : Nat) ^ 10 = 1180591620717411303424 := by decide
      omega
    · exact h

theorem bytes_end {n j : Nat} (h0 : n / 128 ^ (j + 1) = 0) (hj : j = 0 ∨ 128 ^ j ≤ n) : sz n = j + 1 := by
  refine sz_uniq n (j + 1) (by omega) ?_ ?_
  · rcases Nat.lt_or_ge n (128 ^ (j + 1)) with h | h
    · exact h
    · have := Nat.div_pos h (pow128_pos (j + 1)); omega
  · rcases hj with rfl | hj
    · exact Or.inl rfl
    · exact Or.inr hj

theorem src_owned {w wr : World} {g n c : Nat} {l : List Int} {o : Obj} (hown : wr.ownsRow w.heap.size 5 1 (.slice (some ⟨g, 0, none⟩) n c) n (B8 l)) :
    ∀ j u, (B8 l)[j]? = some u → (wr.alloc o).cell? ((⟨g, 0, none⟩ : Addr).add j) = some u := (hown.alloc o).cells rfl

set_option maxHeartbeats 1000000 in
theorem bytes_any (w : World) (n : Nat) (h1 : n < 18446744073709551616) :
    Calls Try.prog 54 #[.int .u64 (n : Int)] w fun e w' => ∃ g c, e = .returned (.slice (some ⟨g, 0, none⟩) (sz n) c) ∧
      w'.ownsRow w.heap.size 5 1 (.slice (some ⟨g, 0, none⟩) (sz n) c) (sz n) (B8 (bytesOf n)) ∧ Below w.heap.size w w' := by
  obtain ⟨i0, hi, hz0, hz1, hz2⟩ := info_parts Try.info5
  go_enter Try.func54, Try.ntmps54
  go_wp2_with fail
  go_loopw [0, 3] (fun nv out wr => BytesLoop w n nv out wr) (fun nv _ _ => (intOf nv).toNat)
  case atStart => exact bytes_start w n
  case round =>
    obtain ⟨j, g, c, m, rfl, rfl, hm, hown, hbel, hj⟩ := hrel
    have HM : Hid (m = n / 128 ^ (j + 1)) := hm
    have HJ : Hid (j = 0 ∨ 128 ^ j ≤ n) := hj
    have hmn : m < 18446744073709551616 := by
      have := Nat.div_le_self n (128 ^ (j + 1)); omega
    have hj9 := bytes_room h1 hj
    have hz := hbel.size
    clear hm hj
    by_cases hpos : 0 < m
    · go_wp2_with (first
        | (at_builtin; refine wpList_append_own _ rfl (.tmp 16) (.tmp 17) 22 rfl w.heap.size 5 i0 (.int .u8 0) 1 1 Try.underlying22 hi hz0 hz1 hz2 rfl (by decide) _ 1 (B8 [(m : Int) % 128 + 128]) rfl (owns_lit_one wr w.heap.size hz _) ⟨g, 0, none⟩ (j + 1) c (B8 (enc n (j + 1))) rfl (by rw [length_B8, length_enc]; omega) (src_owned hown) (B8_one _) (by unfold maxLen; omega) (by omega) (by simp; omega) ?_; intro v' w1 hown1 hgrow1 hnil1))
      have R := bytes_step HM.out hpos hbel hown1 hgrow1
      clear hown1 hgrow1 hnil1 hown hbel
      go_roundw
      case rel => exact R
      case measure => simp [intOf]; omega
    · have hm0 : Hid (m = 0) := (show m = 0 by omega)
      go_wp2
      go_ret
      have e := bytes_end (by rw [← HM.out]; exact hm0.out) HJ.out
      rw [← e] at hown
      exact ⟨g, c, by rw [e]; rfl, hown, hbel⟩
end Go.Proofs.Ytgalmkhgbokidaa
