/-
  What is proved here: the method joins: of each time with the one step that may give a least one; what is in advance of them.
-/
import Derived.Test.YtaadbjnfnmjkfaaMeet
namespace Go.Proofs.Ytaadbjnfnmjkfaa
open Go.RowKit Go.Proofs
set_option linter.unusedVariables false
set_option linter.unusedSimpArgs false

/-- What joins answers. -/
def joinsT (s : List T) : List T → List T
  | [] => []
  | t :: l => if (underT s t.1).2 then joinT (underT s t.1).1 t :: joinsT s l else joinsT s l

theorem joinsT_append (s l r : List T) : joinsT s (l ++ r) = joinsT s l ++ joinsT s r := by
  induction l with
  | nil => rfl
  | cons t l ih => simp only [List.cons_append, joinsT]; split <;> simp [ih]

theorem joinsT_length (s l : List T) : (joinsT s l).length ≤ l.length := by
  induction l with
  | nil => simp [joinsT]
  | cons t l ih => simp only [joinsT]; split <;> simp <;> omega

theorem mem_joinsT (s l : List T) (x : T) : x ∈ joinsT s l ↔ ∃ t ∈ l, (underT s t.1).2 = true ∧ x = joinT (underT s t.1).1 t := by
  induction l with
  | nil => simp [joinsT]
  | cons t l ih =>
    simp only [joinsT]
    split
    · rename_i h
      simp only [List.mem_cons, ih]
      constructor
      · rintro (h' | ⟨u, hu, h1, h2⟩)
        · exact ⟨t, .inl rfl, h, h'⟩
        · exact ⟨u, .inr hu, h1, h2⟩
      · rintro ⟨u, rfl | hu, h1, h2⟩
        · exact .inl h2
        · exact .inr ⟨u, hu, h1, h2⟩
    · rename_i h
      rw [ih]
      constructor
      · rintro ⟨u, hu, h1, h2⟩; exact ⟨u, by simp [hu], h1, h2⟩
      · rintro ⟨u, hu, h1, h2⟩
        rcases List.mem_cons.1 hu with rfl | hu
        · exact absurd h1 h
        · exact ⟨u, hu, h1, h2⟩

/-- What is in advance of the joins both ways round: what is in advance of both. -/
theorem adv_joins {s r : List T} (hs : Stairs s) (hr : Stairs r) (z : T) : Adv (joinsT s r ++ joinsT r s) z ↔ Adv s z ∧ Adv r z := by
  have half : ∀ {s r : List T}, Stairs s → (∀ x, x ∈ joinsT s r → le2 x z = true → Adv s z ∧ Adv r z) := by
    intro s r hs x hx hc
    obtain ⟨t, ht, h1, rfl⟩ := (mem_joinsT s r x).1 hx
    rcases under_spec hs t.1 with ⟨e, _⟩ | ⟨_, hm, _, _⟩
    · rw [e] at h1; cases h1
    · rw [le2_join] at hc
      exact ⟨⟨_, hm, hc.1⟩, ⟨t, ht, hc.2⟩⟩
  have other : ∀ {s r : List T}, Stairs s → ∀ {y t : T}, y ∈ s → t ∈ r → y.1 ≤ t.1 → le2 y z = true → le2 t z = true → ∃ x ∈ joinsT s r, le2 x z = true := by
    intro s r hs y t hy ht hle h1 h2
    rcases under_spec hs t.1 with ⟨_, hn⟩ | ⟨e, hm, h3, h4⟩
    · exact absurd hle (hn y hy)
    · refine ⟨_, (mem_joinsT s r _).2 ⟨t, ht, e, rfl⟩, ?_⟩
      have h5 := h4 y hy hle
      rw [le2_join]
      rw [le2_iff] at h1 h2
      refine ⟨(le2_iff _ _).2 ?_, (le2_iff _ _).2 h2⟩
      omega
  constructor
  · rintro ⟨x, hx, hc⟩
    rcases List.mem_append.1 hx with hx | hx
    · exact half hs x hx hc
    · have := half hr x hx hc; exact ⟨this.2, this.1⟩
  · rintro ⟨⟨y, hy, h1⟩, ⟨t, ht, h2⟩⟩
    rcases Int.le_total y.1 t.1 with h | h
    · obtain ⟨x, hx, hc⟩ := other hs hy ht h h1 h2
      exact ⟨x, List.mem_append_left _ hx, hc⟩
    · obtain ⟨x, hx, hc⟩ := other hr ht hy h h2 h1
      exact ⟨x, List.mem_append_right _ hx, hc⟩

set_option maxRecDepth 20000 in
set_option maxHeartbeats 4000000 in
theorem joins_any (w : World) (p : Nat) (as1 : Option Addr) (cs : Nat) (s : List T) (a : Option Addr) (cap n : Nat) (l : List T) (hp : w.cell? ⟨p, 0, none⟩ = some (.slice as1 s.length cs)) (hts : Ts w.heap.size w as1 s) (hpl : p < w.heap.size) (hst : Stairs s) (hsl : s.length ≤ 100000)
    (hn : l.length = n) (hl : IsL l (.slice a n cap) w) (hln : n ≤ 100000) :
    Calls Try.prog 38 #[.pointer (some ⟨p, 0, none⟩), .slice a n cap] w fun e w' => ∃ x, e = .returned x ∧ IsL (joinsT s l) x w' ∧ Below w.heap.size w w' := by
  obtain ⟨i23, hi23, hy0, hy1, hy2⟩ := info_parts Try.info23
  have HN := hid' hn
  have HL := hid' hl
  have HUN : Hid (∀ (W : World) (ep : Int), Below w.heap.size w W → Calls Try.prog 44 #[.pointer (some ⟨p, 0, none⟩), .int .i64 ep] W fun e w' => e = .returned (.tuple #[tv (underT s ep).1, .bool (underT s ep).2]) ∧ Gr W w') := fun W ep hW =>
    under_any W p as1 cs s ep ((hW.cell (p := ⟨p, 0, none⟩) hpl).trans hp) ((hts.keep hW).mono hW.size) (by have := hW.size; omega) hst.rise (by omega)
  have HRS : Hid (∀ x ∈ s, RT x) := hts.range
  have HRR : Hid (∀ x ∈ joinsT s l, RT x) := fun x hx => by
    obtain ⟨t, ht, h1, rfl⟩ := (mem_joinsT s l x).1 hx
    rcases under_spec hst t.1 with ⟨e, _⟩ | ⟨_, hm, _, _⟩
    · rw [e] at h1; cases h1
    · exact RT.join (hts.range _ hm) (hl.range t ht)
  clear hp hts hpl hst hsl hn hl
  go_enter Try.func38, Try.ntmps38
  go_wp2
  go_loopg [5, 12] n (fun k v i wr => ∃ (j : Nat) (acc : List T), j + k = n ∧ i = .int .i64 (j : Int) ∧ acc.length ≤ j ∧ Hid (acc = joinsT s (l.take j)) ∧ Hid (wr.ownsRow w.heap.size 32 2 v acc.length (flat acc)) ∧ Hid (Below w.heap.size w wr))
  case atStart => exact ⟨0, [], by omega, rfl, by simp, by rw [List.take_zero]; rfl, ⟨rfl, .inl ⟨rfl, rfl⟩⟩, Below.refl _ _⟩
  case round =>
    obtain ⟨j, acc, hj, rfl, haj, hacc, hown, hbel⟩ := hrel
    cases gk with
    | zero =>
      obtain rfl : j = n := by omega
      have HE : Hid (acc = joinsT s l) := by unfold Hid; rw [hacc.out, List.take_of_length_le (Nat.le_of_eq HN.out)]
      go_wp2
      go_ret
      refine ⟨_, rfl, ?_, hbel.out⟩
      rw [← HE.out]
      exact IsL.of_owns hown.out (by rw [HE.out]; exact HRR.out)
    | succ k =>
      have hjl : j < l.length := by rw [HN.out]; omega
      obtain ⟨a', cap', e1, hcap, hsl, hts⟩ := HL.out
      simp at e1
      obtain ⟨rfl, -, rfl⟩ := e1
      obtain ⟨b, off, rfl, hBb, hc⟩ := hts.cells (by rintro rfl; simp at hjl)
      have p1 := (hbel.out.cell (p := ⟨b, off + j * 2, none⟩) hBb).trans (hc j hjl).1
      have p2 := (hbel.out.cell (p := ⟨b, off + j * 2 + 1, none⟩) hBb).trans (hc j hjl).2
      have HX : Hid (joinsT s (l.take (j + 1)) = acc ++ joinsT s [l.getD j (0, 0)]) := by
        unfold Hid
        rw [List.take_add_one, joinsT_append, hacc.out]
        simp [List.getD, List.getElem?_eq_getElem hjl]
      generalize l.getD j (0, 0) = t at p1 p2 HX
      obtain ⟨t1, t2⟩ := t
      simp only at p1 p2
      have hsz := hbel.out.size
      have hba : Below w.heap.size w (wr.alloc (.cells #[.int .i64 t1, .int .i64 t2] 32)) := hbel.out.alloc hsz _
      have HU := hid' (HUN.out (wr.alloc (.cells #[.int .i64 t1, .int .i64 t2] 32)) t1 hba)
      have HJ : Hid (joinsT s [(t1, t2)] = if (underT s t1).2 then [joinT (underT s t1).1 (t1, t2)] else []) := by
        unfold Hid; simp only [joinsT]
      generalize underT s t1 = u at HU HJ
      obtain ⟨⟨u1, u2⟩, ub⟩ := u
      simp only [tv] at HU HJ
      clear hc hts hsl hcap hjl
      go_wp2_with fail
      refine HU.out.mono ?_
      clear HU
      rintro e w2 ⟨rfl, hg2⟩
      have hsz2 := hg2.below.size
      simp at hsz2
      have HB2 : Hid (Below w.heap.size w (w2.alloc (.cells #[.int .i64 u1, .int .i64 u2] 32))) := (hba.trans (hg2.below.mono hba.size)).alloc (by have := (hba.trans (hg2.below.mono hba.size)).size; omega) _
      have HT2 : Hid (Box (w2.alloc (.cells #[.int .i64 u1, .int .i64 u2] 32)) wr.heap.size (t1, t2)) := ((Box.new wr (t1, t2)).on hg2.below).alloc _
      have HS2 : Hid (Box (w2.alloc (.cells #[.int .i64 u1, .int .i64 u2] 32)) w2.heap.size (u1, u2)) := Box.new w2 (u1, u2)
      have HO2 : Hid ((w2.alloc (.cells #[.int .i64 u1, .int .i64 u2] 32)).ownsRow w.heap.size 32 2 u5 acc.length (flat acc)) := (owns_below (hown.out.alloc _) hg2.below).alloc _
      clear hg2 hba p1 p2 hown hbel
      cases ub with
      | false =>
        have HE : Hid (acc = joinsT s (l.take (j + 1))) := by unfold Hid; rw [HX.out, HJ.out]; simp
        go_wp2
        go_roundg k
        case measure => omega
        case rel => exact ⟨j + 1, acc, by omega, by simp, by omega, HE, HO2, HB2⟩
      | true =>
        have HE : Hid (acc ++ [joinT (u1, u2) (t1, t2)] = joinsT s (l.take (j + 1))) := by unfold Hid; rw [HX.out, HJ.out]; simp
        have HJN := hid' (join_any (u1, u2) (t1, t2) (w2.alloc (.cells #[.int .i64 u1, .int .i64 u2] 32)))
        generalize joinT (u1, u2) (t1, t2) = z at HE HJN
        obtain ⟨z1, z2⟩ := z
        simp only [tv] at HJN
        have c1 := HT2.out.c1
        have c2 := HT2.out.c2
        have c3 := HS2.out.c1
        have c4 := HS2.out.c2
        simp only at c1 c2 c3 c4
        go_wp2_with fail
        refine HJN.out.mono ?_
        clear HJN c1 c2 c3 c4
        rintro e w3 ⟨rfl, hg3⟩
        have HB3 : Hid (Below w.heap.size w w3) := HB2.out.trans (hg3.below.mono HB2.out.size)
        have HO3 := hid' (owns_below HO2.out hg3.below)
        have hsz3 := HB3.out.size
        clear hg3 HO2 HB2 HT2 HS2
        go_wp2_with (
          (at_builtin; refine wpList_append_own _ rfl _ _ 22 rfl w.heap.size 32 i23 (.agg #[.int .i64 0, .int .i64 0]) 2 16 Try.underlying22 hi23 hy0 hy1 hy2 rfl (by decide) _ _ _ rfl (HO3.out.alloc _) ⟨w3.heap.size, 0, none⟩ 1 1 [.int .i64 z1, .int .i64 z2] rfl rfl (cell_two_new _ _ _ _) (by intro u hu; simp at hu; rcases hu with rfl | rfl <;> rfl) (by unfold maxLen; omega) (by omega) (by simp; omega) ?_; intro v4 w4 hown4 hgrow4 hnil4))
        have hgr4 : (w3.alloc (.cells #[.int .i64 z1, .int .i64 z2] 32)).grownBy w4 u5.ownBlock := hgrow4
        have HB4 : Hid (Below w.heap.size w w4) := (HB3.out.alloc hsz3 _).grown hgr4 (by simp; omega) (fun q hq => (HO3.out.lt q hq).1)
        have HO4 : Hid (w4.ownsRow w.heap.size 32 2 v4 (acc ++ [(z1, z2)]).length (flat (acc ++ [(z1, z2)]))) := by
          unfold Hid; rw [List.length_append, flat_append, flat_one]; exact hown4
        clear hgrow4 hnil4 hgr4 hown4
        go_roundg k
        case measure => omega
        case rel => exact ⟨j + 1, acc ++ [(z1, z2)], by omega, by simp, by simp; omega, HE, HO4, HB4⟩

end Go.Proofs.Ytaadbjnfnmjkfaa
