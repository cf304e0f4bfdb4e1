/-
  What is proved here: the statements' own chain (a number that is wrapped by ops) and same (the same texts?); Ops and Code of such an error; live answers true.
-/
import Derived.Test.YtnpnbhgkcaefnaaDoorOps
namespace Go.Proofs.YtnpnbhgkcaefnaaDoor
open Go.RowKit Go.Extern.Stop Go.Stop Go.Extern
set_option linter.unusedVariables false

/-- A slice of texts at a reads as l; it lies below block number B. -/
def Sts (B : Nat) (w : World) (a : Option Addr) (l : List ByteArray) : Prop :=
  l ≠ [] → ∃ b off, a = some ⟨b, off, none⟩ ∧ b < B ∧ ∀ i, i < l.length → w.cell? ⟨b, off + i, none⟩ = some (.string (l.getD i ⟨#[]⟩))

theorem Sts.keep {B : Nat} {w w' : World} {a : Option Addr} {l : List ByteArray} (h : Sts B w a l) (hb : Below B w w') : Sts B w' a l := by
  intro hl
  obtain ⟨b, off, e, hlt, hc⟩ := h hl
  exact ⟨b, off, e, hlt, fun i hi => (hb.cell (p := ⟨b, off + i, none⟩) hlt).trans (hc i hi)⟩

theorem Sts.mono {B B' : Nat} {w : World} {a : Option Addr} {l : List ByteArray} (h : Sts B w a l) (hB : B ≤ B') : Sts B' w a l := by
  intro hl
  obtain ⟨b, off, e, hlt, hc⟩ := h hl
  exact ⟨b, off, e, by omega, hc⟩

theorem Sts.on {w w' : World} {a : Option Addr} {l : List ByteArray} (h : Sts w.heap.size w a l) (hb : Below w.heap.size w w') : Sts w'.heap.size w' a l := (h.keep hb).mono hb.size

theorem owns_len {base : Nat} {w : World} {v : Value} {n : Nat} {l : List ByteArray} (h : w.ownsRow base 9 1 v n (S9 l)) : l.length = n := by
  have := h.1; simp [S9] at this; exact this

/-- What a call owns reads as texts. -/
theorem Sts.of_owns {base : Nat} {w : World} {v : Value} {l : List ByteArray} (h : w.ownsRow base 9 1 v l.length (S9 l)) : ∃ a c, v = .slice a l.length c ∧ Sts w.heap.size w a l := by
  have hh := h
  obtain ⟨h1, ⟨rfl, h0⟩ | ⟨g, cap, cur, rfl, hg, hcur, hle, hm, hs, ht⟩⟩ := h
  · exact ⟨none, 0, by rw [h0], fun hl => absurd (List.length_eq_zero_iff.1 h0) hl⟩
  · refine ⟨_, _, rfl, fun hl => ⟨g, 0, rfl, (hh.lt g rfl).2, fun i hi => ?_⟩⟩
    rw [Nat.zero_add, hh.cellAt i (by omega)]
    simp [S9, List.getElem?_eq_getElem hi, List.getD]

/-- A number that is wrapped by ops; nothing of OK. -/
def chainV (l : List ByteArray) (z : Int) : Value := if z = 0 then .nilIface else wrapV l (numV z)

theorem drop_cons (l : List ByteArray) (i : Nat) (hi : i < l.length) : l.drop i = l.getD i ⟨#[]⟩ :: l.drop (i + 1) := by
  rw [List.drop_eq_getElem_cons hi]; simp [List.getD, List.getElem?_eq_getElem hi]

theorem wrap_chain (op : ByteArray) (l : List ByteArray) (z : Int) (w : World) : Calls Tryd.prog 13 #[.string op, chainV l z] w fun e w' => e = .returned (chainV (op :: l) z) ∧ w' = w := by
  unfold chainV
  by_cases hz : z = 0
  · rw [if_pos hz, if_pos hz]; exact wrap_nil op w
  · rw [if_neg hz, if_neg hz]
    obtain ⟨t, v, h⟩ := wrapV_iface (b := numV z) ⟨_, _, rfl⟩ l
    show Calls Tryd.prog 13 #[.string op, wrapV l (numV z)] w fun e w' => e = .returned (failV op (wrapV l (numV z))) ∧ w' = w
    rw [h]
    exact wrap_some op t v w

theorem new_chain (z : Int) (w : World) : Calls Tryd.prog 18 #[.int .i64 z] w fun e w' => e = .returned (chainV [] z) ∧ w' = w := by
  unfold chainV
  by_cases hz : z = 0
  · subst hz; rw [if_pos rfl]; exact new_zero w
  · rw [if_neg hz]; exact new_some z hz w

set_option maxHeartbeats 1000000 in
theorem chain_any (w : World) (a : Option Addr) (cap : Nat) (l : List ByteArray) (z : Int) (hs : Sts w.heap.size w a l) (hc : l.length ≤ cap) (hl : l.length ≤ 100000) :
    Calls Tryd.prog 7 #[.slice a l.length cap, .int .i64 z] w fun e w' => e = .returned (chainV l z) ∧ w' = w := by
  have HN := hid' (new_chain z w)
  go_enter Tryd.func7, Tryd.ntmps7
  go_wp2_with fail
  refine HN.out.mono ?_
  rintro e w1 ⟨rfl, rfl⟩
  go_wp2
  go_loopg [5, 6] l.length (fun k p i wr => k ≤ l.length ∧ i = .int .i64 ((k : Int) - 1) ∧ p = chainV (l.drop k) z ∧ w1 = wr)
  case atStart => exact ⟨Nat.le_refl _, rfl, by rw [List.drop_length], rfl⟩
  case round =>
    obtain ⟨hk, rfl, rfl, rfl⟩ := hrel
    cases gk with
    | zero =>
      go_wp2
      go_ret
      exact ⟨rfl, rfl⟩
    | succ k =>
      obtain ⟨b, off, rfl, hB, hcell⟩ := hs (by intro e; rw [e] at hk; simp at hk)
      have hcx := hcell k (by omega)
      have HD := hid' (drop_cons l k (by omega))
      clear hcell hs
      generalize l.getD k ⟨#[]⟩ = op at hcx HD
      have HW := hid' (wrap_chain op (l.drop (k + 1)) z w1)
      go_wp2_with fail
      refine HW.out.mono ?_
      rintro e w2 ⟨rfl, rfl⟩
      go_wp2
      go_roundg k
      case measure => omega
      case rel => exact ⟨by omega, by go_num, by rw [HD.out], rfl⟩

set_option maxHeartbeats 1000000 in
theorem same_any (w : World) (a b : Option Addr) (ca cb : Nat) (l : List ByteArray) (ha : Sts w.heap.size w a l) (hb : Sts w.heap.size w b l) (hca : l.length ≤ ca) (hcb : l.length ≤ cb) (hl : l.length ≤ 100000) :
    Calls Tryd.prog 12 #[.slice a l.length ca, .slice b l.length cb] w fun e w' => e = .returned (.bool true) ∧ Below w.heap.size w w' := by
  go_enter Tryd.func12, Tryd.ntmps12
  go_wp2
  go_loopg [5] l.length (fun k i wr => ∃ j : Nat, j + k = l.length ∧ i = .int .i64 (j : Int) ∧ Below w.heap.size w wr)
  case atStart => exact ⟨0, by omega, rfl, Below.refl _ _⟩
  case round =>
    obtain ⟨j, hj, rfl, hbel⟩ := hrel
    cases gk with
    | zero =>
      have HB := hid' hbel
      have hjl : ¬ j < l.length := by omega
      clear hbel
      go_wp2
      go_ret
      exact ⟨rfl, HB.out⟩
    | succ k =>
      have hjl : j < l.length := by omega
      have hne : l ≠ [] := by intro e; rw [e] at hjl; simp at hjl
      obtain ⟨b1, o1, rfl, hB1, hc1⟩ := (ha.keep hbel) hne
      obtain ⟨b2, o2, rfl, hB2, hc2⟩ := (hb.keep hbel) hne
      have h1 := hc1 j hjl
      have h2 := hc2 j hjl
      have hj1 : j < ca := by omega
      have hj2 : j < cb := by omega
      generalize l.getD j ⟨#[]⟩ = op at h1 h2
      have HB := hid' hbel
      have HJ := hid' hj
      have hlen : l.length ≤ ca ∧ l.length ≤ cb := ⟨hca, hcb⟩
      clear hbel hc1 hc2 ha hb hne hj
      go_wp2_with fail
      go_region
      go_wp2
      go_roundg k
      case measure => omega
      case rel => exact ⟨j + 1, by have := HJ.out; omega, by go_num, HB.out.drew⟩

/-- Ops of a wrapped number. -/
theorem ops_chain (l : List ByteArray) (z : Int) (hl : l.length ≤ 100000) (w : World) :
    Calls Tryd.prog 9 #[wrapV l (numV z)] w fun e w' => ∃ a c, e = .returned (.slice a l.length c) ∧ l.length ≤ c ∧ Sts w'.heap.size w' a l ∧ Below w.heap.size w w' := by
  refine (ops_of l 27 (.int .i64 z) hl (fun W => opOf_num _ W) (fun W => inner_num _ W) w).mono ?_
  rintro e w' ⟨v, rfl, hown, hb⟩
  obtain ⟨a, c, rfl, hs⟩ := Sts.of_owns hown
  refine ⟨a, c, rfl, ?_, hs, hb⟩
  rcases hown.2 with ⟨h, h0⟩ | ⟨g', cap', cur, hv, _, _, h, _⟩
  · omega
  · cases hv; exact h

/-- Code where errors.As finds a number. -/
theorem code_at (K : World → Prop) (hst : Stays K) (x : Value) (z : Int) (hx : AsNumK K x true z) (w : World) (hK : K w) (hg : Laid w) : Calls Tryd.prog 8 #[x] w fun e w' => e = .returned (.int .i64 z) ∧ Below w.heap.size w w' := by
  have H := hid' (number_at K hst x true z hx w hK hg)
  clear hK hx
  go_enter Tryd.func8, Tryd.ntmps8
  go_wp2_with fail
  refine H.out.mono ?_
  rintro e w1 ⟨rfl, hb⟩
  have HB := hid' hb
  clear hb
  go_wp2
  go_ret
  exact ⟨rfl, HB.out⟩

theorem code_of (x : Value) (z : Int) (hx : AsNum x true z) (w : World) (hg : Laid w) : Calls Tryd.prog 8 #[x] w fun e w' => e = .returned (.int .i64 z) ∧ Below w.heap.size w w' :=
  code_at (fun _ => True) (fun _ _ _ _ => trivial) x z hx w trivial hg

theorem sts_two (w : World) (s t : ByteArray) : Sts (w.heap.size + 1) (w.alloc (.cells #[.string s, .string t] 9)) (some ⟨w.heap.size, 0, none⟩) [s, t] := by
  intro _
  refine ⟨w.heap.size, 0, rfl, by omega, fun i hi => ?_⟩
  match i, hi with
  | 0, _ => simp
  | 1, _ => simp
  | i + 2, hi => simp at hi; omega

set_option maxHeartbeats 1000000 in
theorem live_any (w : World) (hg : Laid w) : Calls Tryd.prog 6 #[] w fun e w' => e = .returned (.bool true) ∧ Below w.heap.size w w' := by
  have hb0 : Hid (Below w.heap.size w (w.alloc (.cells #[.string ⟨#[97]⟩, .string ⟨#[98]⟩] 9))) := (Below.refl _ _).alloc (Nat.le_refl _) _
  have HC := hid' (chain_any (w.alloc (.cells #[.string ⟨#[97]⟩, .string ⟨#[98]⟩] 9)) (some ⟨w.heap.size, 0, none⟩) 2 [⟨#[97]⟩, ⟨#[98]⟩] 6 (by have := sts_two w ⟨#[97]⟩ ⟨#[98]⟩; simpa using this) (by simp) (by simp))
  have hg1 := hg.keep hb0.out hg.pos
  go_enter Tryd.func6, Tryd.ntmps6
  go_wp2_with fail
  refine HC.out.mono ?_
  rintro e w1 ⟨rfl, hw1⟩
  subst hw1
  have HK := hid' (code_of (wrapV [⟨#[97]⟩, ⟨#[98]⟩] (numV 6)) 6 (asNum_chain _ _) _ hg1)
  rw [show chainV [⟨#[97]⟩, ⟨#[98]⟩] 6 = wrapV [⟨#[97]⟩, ⟨#[98]⟩] (numV 6) from rfl]
  obtain ⟨tx, vx, hx⟩ := wrapV_iface (b := numV 6) ⟨_, _, rfl⟩ [⟨#[97]⟩, ⟨#[98]⟩]
  have HO := hid' (fun W => ops_chain [⟨#[97]⟩, ⟨#[98]⟩] 6 (by simp) W)
  rw [hx] at HK HO ⊢
  clear hx HC
  go_wp2_with fail
  refine HK.out.mono ?_
  rintro e w2 ⟨rfl, hb2⟩
  have HB2 := hid' (hb0.out.trans (hb2.mono hb0.out.size))
  clear hb2
  go_wp2_with fail
  refine (HO.out w2).mono ?_
  rintro e w3 ⟨a, c, rfl, hc, hs, hb3⟩
  have HB3 := hid' (HB2.out.trans (hb3.mono HB2.out.size))
  clear hb3
  have hbx : Below w3.heap.size w3 (w3.alloc (.cells #[.string ⟨#[97]⟩, .string ⟨#[98]⟩] 9)) := (Below.refl _ _).alloc (Nat.le_refl _) _
  have HS := hid' (same_any (w3.alloc (.cells #[.string ⟨#[97]⟩, .string ⟨#[98]⟩] 9)) a (some ⟨w3.heap.size, 0, none⟩) c 2 [⟨#[97]⟩, ⟨#[98]⟩] (hs.on hbx) (by have := sts_two w3 ⟨#[97]⟩ ⟨#[98]⟩; simpa using this) hc (by simp) (by simp))
  have HX := hid' hbx
  clear hs hbx
  go_wp2_with fail
  refine HS.out.mono ?_
  rintro e w4 ⟨rfl, hb4⟩
  have HB4 := hid' (HB3.out.trans ((HX.out.trans (hb4.mono HX.out.size)).mono HB3.out.size))
  clear hb4
  go_wp2
  go_ret
  exact ⟨rfl, HB4.out⟩
end Go.Proofs.YtnpnbhgkcaefnaaDoor
