/-
  What is proved here: when the texts of two lists of bytes are the same, and which of two numbers' texts stands first.
-/
import Derived.Test.YtgalmkhgbokidaaWorld
namespace Go.Proofs.Ytgalmkhgbokidaa
open Go.RowKit
set_option maxRecDepth 20000

/-- A number as a byte. -/
def b8 (z : Int) : UInt8 := UInt8.ofNat z.toNat

theorem toList_str (l : List Int) : (strOfNums l).toList = l.map b8 := by
  rw [ByteArray.toList_eq, strOfNums_data]; rfl

theorem b8_inj {x y : Int} (hx : 0 ≤ x ∧ x < 256) (hy : 0 ≤ y ∧ y < 256) (h : b8 x = b8 y) : x = y := by
  have := congrArg UInt8.toNat h
  simp only [b8, UInt8.toNat_ofNat'] at this
  omega

theorem b8_lt {x y : Int} (hx : 0 ≤ x ∧ x < 256) (hy : 0 ≤ y ∧ y < 256) (h : x < y) : b8 x < b8 y := by
  rw [UInt8.lt_iff_toNat_lt]
  simp only [b8, UInt8.toNat_ofNat']
  omega

theorem map_b8_inj : ∀ (l r : List Int), (∀ z ∈ l, 0 ≤ z ∧ z < 256) → (∀ z ∈ r, 0 ≤ z ∧ z < 256) → l.map b8 = r.map b8 → l = r
  | [], [], _, _, _ => rfl
  | [], _ :: _, _, _, h => by simp at h
  | _ :: _, [], _, _, h => by simp at h
  | x :: l, y :: r, hl, hr, h => by
    simp only [List.map_cons, List.cons.injEq] at h
    rw [b8_inj (hl x (by simp)) (hr y (by simp)) h.1, map_b8_inj l r (fun z hz => hl z (List.mem_cons_of_mem _ hz)) (fun z hz => hr z (List.mem_cons_of_mem _ hz)) h.2]

theorem bytesOf_range (n : Nat) : ∀ z ∈ bytesOf n, 0 ≤ z ∧ z < 256 := enc_range n _

theorem bytesOf_inj {n m : Nat} (h : bytesOf n = bytesOf m) : n = m := by
  rw [← val_bytesOf n, h, val_bytesOf]

theorem str_eq_of (l r : List Int) (hl : ∀ z ∈ l, 0 ≤ z ∧ z < 256) (hr : ∀ z ∈ r, 0 ≤ z ∧ z < 256) : ((strOfNums l).toList == (strOfNums r).toList) = decide (l = r) := by
  rw [toList_str, toList_str]
  by_cases h : l = r
  · subst h; simp
  · rw [decide_eq_false h, beq_eq_false_iff_ne]
    exact fun e => h (map_b8_inj l r hl hr e)

theorem num_eq_of (a b : Int) (ha : 0 ≤ a) (hb : 0 ≤ b) : ((strOfNums (bytesOf a.toNat)).toList == (strOfNums (bytesOf b.toNat)).toList) = (a == b) := by
  rw [str_eq_of _ _ (bytesOf_range _) (bytesOf_range _)]
  by_cases h : a = b
  · subst h; simp
  · rw [decide_eq_false (fun e => h (by have := bytesOf_inj e; omega)), eq_comm, beq_eq_false_iff_ne]
    exact h

theorem enc_less : ∀ (k a b : Nat), a % 128 ^ k < b % 128 ^ k → Op.bytesLess ((enc a k).map b8) ((enc b k).map b8) = true
  | 0, a, b, h => by simp [Nat.mod_one] at h
  | k + 1, a, b, h => by
    simp only [enc, List.map_cons, Op.bytesLess, Bool.or_eq_true, Bool.and_eq_true, decide_eq_true_eq, beq_iff_eq]
    rw [Nat.pow_succ, Nat.mod_mul, Nat.mod_mul] at h
    have ha : a % 128 ^ k < 128 ^ k := Nat.mod_lt _ (pow128_pos k)
    have hb : b % 128 ^ k < 128 ^ k := Nat.mod_lt _ (pow128_pos k)
    rcases Nat.lt_trichotomy (a / 128 ^ k % 128) (b / 128 ^ k % 128) with hh | hh | hh
    · left
      refine b8_lt (grp_range a k) (grp_range b k) ?_
      unfold grp; split <;> omega
    · right
      refine ⟨?_, enc_less k a b ?_⟩
      · congr 1; unfold grp; rw [hh]
      · rw [hh] at h; omega
    · exfalso
      have : 128 ^ k * (b / 128 ^ k % 128 + 1) ≤ 128 ^ k * (a / 128 ^ k % 128) := Nat.mul_le_mul_left _ hh
      rw [Nat.mul_add] at this
      omega

theorem num_less (a b : Int) (ha : 0 ≤ a) (hb : 0 ≤ b) (h : a < b) (hs : sz a.toNat = sz b.toNat) :
    Op.bytesLess (strOfNums (bytesOf a.toNat)).toList (strOfNums (bytesOf b.toNat)).toList = true := by
  rw [toList_str, toList_str, bytesOf, bytesOf, hs]
  refine enc_less _ _ _ ?_
  have h1 := lt_pow_sz a.toNat
  rw [hs] at h1
  rw [Nat.mod_eq_of_lt h1, Nat.mod_eq_of_lt (lt_pow_sz _)]
  omega

theorem str_add (l r : List Int) : strOfNums l ++ strOfNums r = strOfNums (l ++ r) := by
  apply ByteArray.ext
  simp [strOfNums, ByteArray.data_append]

end Go.Proofs.Ytgalmkhgbokidaa
