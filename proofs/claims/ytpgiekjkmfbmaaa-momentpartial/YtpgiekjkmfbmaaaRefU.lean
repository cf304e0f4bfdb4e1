/-
  What is proved here: the document's Unique.
-/
import Derived.Test.YtpgiekjkmfbmaaaAdd
namespace Go.Proofs.Ytpgiekjkmfbmaaa
open Go.RowKit Go.Proofs
set_option linter.unusedVariables false
set_option linter.unusedSimpArgs false

theorem addT_length (l : List T) (t : T) : (addT l t).length ≤ l.length + 1 := by
  induction l with
  | nil => simp [addT]
  | cons y l ih =>
    unfold addT
    split
    · simp; omega
    · split <;> simp

theorem set_addT {l : List T} {t : T} {p q : T → Prop} (h : SetOf l p) (hq : ∀ x, q x ↔ p x ∨ x = t) : SetOf (addT l t) q :=
  ⟨sl_addT l t h.sl, fun x => by rw [mem_addT, h.mem, hq, Or.comm]⟩

set_option maxHeartbeats 1000000 in
theorem refUnique_any (w : World) (a : Option Addr) (cap : Nat) (l : List T) (h : Ts w.heap.size w a l) (hl : l.length ≤ 1000000) :
    Calls Try.prog 20 #[.slice a l.length cap] w fun e w' => ∃ a' c' u, e = .returned (.slice a' u.length c') ∧ u.length ≤ l.length ∧ SetOf u (· ∈ l) ∧ Ts w'.heap.size w' a' u ∧ Below w.heap.size w w' := by
  obtain ⟨n, hn⟩ : ∃ n, l.length = n := ⟨_, rfl⟩
  have HTS := hid' h
  have HN := hid' hn
  rw [hn] at hl ⊢
  clear hn h
  go_enter Try.func20, Try.ntmps20
  go_wp2
  go_loopg [3, 4] n (fun k v i wr => ∃ (j : Nat) (acc : List T) (a3 : Option Addr) (c3 : Nat), j + k = n ∧ i = .int .i64 (j : Int) ∧ v = .slice a3 acc.length c3 ∧ acc.length ≤ c3 ∧ acc.length ≤ j ∧ Sl a3 c3 ∧ Ts wr.heap.size wr a3 acc ∧ SetOf acc (· ∈ l.take j) ∧ Below w.heap.size w wr)
  case atStart => exact ⟨0, [], none, 0, by omega, rfl, rfl, Nat.le_refl _, Nat.le_refl _, .inl ⟨rfl, rfl⟩, Ts.nil _ _ _, ⟨List.Pairwise.nil, fun x => by simp⟩, Below.refl _ _⟩
  case round =>
    obtain ⟨j, acc, a3, c3, hj, rfl, rfl, hc3, haj, hsl, hts, hset, hbel⟩ := hrel
    cases gk with
    | zero =>
      obtain rfl : j = n := by omega
      have HS := hid' hset
      rw [List.take_of_length_le (Nat.le_of_eq HN.out)] at HS
      clear hset
      go_wp2
      go_ret
      exact ⟨a3, c3, acc, rfl, haj, HS.out, hts, hbel⟩
    | succ k =>
      have hjn : j < n := by omega
      have hjl : j < l.length := by rw [HN.out]; exact hjn
      obtain ⟨b, off, rfl, hB, hc⟩ := HTS.out.cells (by rintro rfl; simp at hjl)
      have p1 := (hbel.cell (p := ⟨b, off + j * 2, none⟩) hB).trans (hc j hjl).1
      have p2 := (hbel.cell (p := ⟨b, off + j * 2 + 1, none⟩) hB).trans (hc j hjl).2
      have HA := hid' (add_any wr a3 c3 acc (l.getD j (0, 0)) hts hc3 hsl (HTS.out.range _ (by simp [List.getD, List.getElem?_eq_getElem hjl])) (by omega))
      have HX := hid' (take_snoc l j (0, 0) hjl)
      generalize l.getD j (0, 0) = x at p1 p2 HA HX
      obtain ⟨x1, x2⟩ := x
      simp only at HA
      have HS := hid' hset
      clear hset hc hts hjl
      go_wp2_with fail
      refine HA.out.mono ?_
      clear HA
      rintro e w2 ⟨a4, c4, rfl, hc4, hsl4, hts4, hb4⟩
      have hlen := addT_length acc (x1, x2)
      have HR : Hid (SetOf (addT acc (x1, x2)) (· ∈ l.take (j + 1))) := set_addT HS.out (fun x => by rw [HX.out]; simp)
      obtain ⟨acc', hacc⟩ : ∃ acc', addT acc (x1, x2) = acc' := ⟨_, rfl⟩
      rw [hacc] at hc4 hts4 hlen HR ⊢
      clear hacc
      go_wp2
      go_roundg k
      case measure => omega
      case rel => exact ⟨j + 1, acc', a4, c4, by omega, by simp, rfl, hc4, by omega, hsl4, hts4, HR.out, hbel.trans (hb4.mono hbel.size)⟩

end Go.Proofs.Ytpgiekjkmfbmaaa
