/-
  What is proved here: slices.SortFunc by the order of times, slices.SortedFunc over a map's keys: a new slice of the keys in strict order.
-/
import Derived.Test.YtboeodcjcbgeaaaMath
import Derived.Test.YtboeodcjcbgeaaaTs
import Derived.Test.YtboeodcjcbgeaaaShelf
import Derived.Shelf.SlSortCmp.NoneTotal
namespace Go.Proofs.Ytboeodcjcbgeaaa
open Go.RowKit Go.Maps Go.Shelf Go.Proofs
set_option linter.unusedVariables false
set_option linter.unusedSimpArgs false

def encL (x : T) : List Value := [.int .i64 x.1, .int .i64 x.2]

set_option maxRecDepth 100000 in
theorem cmpLays (blk off size : Nat) (w : World) : CmpLays Try.prog 40 #[] encL 2 cfT blk off size w := fun m os dk _ x y =>
  (order_any x y _).mono fun e w' ⟨he, hg⟩ => ⟨he, hg.grow⟩

set_option maxRecDepth 100000 in
theorem flatK_flat (l : List T) : (Sort.flatK encL 2 l.toArray).toList = flat l := by
  apply List.ext_getElem?
  intro t
  by_cases ht : t < l.length * 2
  · have h2 : t / 2 < l.length := by omega
    have hf := flat_get l (t / 2) h2
    have hk := Sort.get_flatK encL 2 l.toArray t (by simpa using ht)
    rw [Array.getElem?_toList, Array.getElem?_eq_getElem (by simpa using ht)]
    rw [getElem!_pos _ t (by simpa using ht)] at hk
    rw [hk]
    have hd : l.toArray[t / 2]! = l.getD (t / 2) (0, 0) := by
      rw [getElem!_pos _ _ (by simpa using h2)]
      simp [List.getD, List.getElem?_eq_getElem h2]
    rw [hd]
    rcases Nat.mod_two_eq_zero_or_one t with h | h
    · have e : t / 2 * 2 = t := by omega
      rw [e] at hf
      rw [hf.1, h]; rfl
    · have e : t / 2 * 2 + 1 = t := by omega
      rw [e] at hf
      rw [hf.2, h]; rfl
  · rw [List.getElem?_eq_none (by simp; omega), List.getElem?_eq_none (by rw [length_flat]; omega)]

set_option maxRecDepth 100000 in
theorem holdsK_of_block {w : World} {g : Nat} {cur : Array Value} {e : TypeId} {l : List T} (hb : w.heap[g]? = some (.cells cur e (0, 0))) (ht : cur.toList.take (l.length * 2) = flat l) : Sort.HoldsK encL 2 w g 0 l.toArray := by
  intro j hj
  have hj' : j < l.length * 2 := by simpa using hj
  refine ⟨?_, by simp [World.frozen?, hb]⟩
  have h1 : (cur.toList.take (l.length * 2))[j]? = (flat l)[j]? := by rw [ht]
  rw [List.getElem?_take_of_lt hj', ← flatK_flat, Array.getElem?_toList, Array.getElem?_toList] at h1
  rw [cell_of_row _ _ _ _ _ _ hb, Nat.zero_add, h1, getElem!_pos (Sort.flatK encL 2 l.toArray) j hj, Array.getElem?_eq_getElem hj]
  rfl

set_option maxRecDepth 100000 in
theorem heap_sortedK {w : World} {g n : Nat} {os : Array Obj} {cur : Array Value} {e : TypeId} {fr : Nat × Nat} (d : Array T) (hb : w.heap[g]? = some (.cells cur e fr)) :
    (sortWorldK encL 2 w g 0 n d os).heap[g]? = some (.cells (Sort.putCells id 0 (Sort.flatK encL 2 d) cur) e fr) := by
  have hg : g < w.heap.size := (Array.getElem?_eq_some_iff.1 hb).1
  unfold sortWorldK
  rw [Sort.heap_grow_old _ _ (by simpa [Sort.putRowK, Sort.putRow, Sort.mapBlock, Sort.ahead] using hg)]
  simp [Sort.putRowK, Sort.putRow, Sort.mapBlock, Sort.ahead, Array.getElem?_modify, hb, Sort.onCells]

set_option maxRecDepth 100000 in
theorem grownBy_sortedK {w : World} {g n : Nat} {os : Array Obj} (d : Array T) : w.grownBy (sortWorldK encL 2 w g 0 n d os) (some g) := by
  unfold sortWorldK
  refine ⟨rfl, rfl, rfl, by simp [Sort.putRowK, Sort.putRow, Sort.mapBlock, Sort.ahead], fun k hk hne => ?_⟩
  rw [Sort.heap_grow_old _ _ (by simpa [Sort.putRowK, Sort.putRow, Sort.mapBlock, Sort.ahead] using hk)]
  have : g ≠ k := fun e => hne (by rw [e])
  simp [Sort.putRowK, Sort.putRow, Sort.mapBlock, Sort.ahead, Array.getElem?_modify, this]

set_option maxRecDepth 100000 in
theorem take_putCellsK (cur F : Array Value) (h : F.size ≤ cur.size) : (Sort.putCells id 0 F cur).toList.take F.size = F.toList := by
  apply List.ext_getElem?
  intro j
  by_cases hj : j < F.size
  · rw [List.getElem?_take_of_lt hj, Array.getElem?_toList]
    simp [Sort.putCells, hj, show j < cur.size by omega]
  · rw [List.getElem?_take_eq_none (by omega), List.getElem?_eq_none (by simp; omega)]

set_option maxRecDepth 100000 in
set_option maxHeartbeats 1000000 in
/-- slices.SortFunc on times that a call owns, none of them twice. -/
theorem sortFunc_any (w : World) (base : Nat) (v : Value) (l : List T) (h : w.ownsRow base 80 2 v l.length (flat l)) (hn : l.Nodup) (hsz : l.length < 4611686018427387904) :
    Calls Try.prog 44 #[v, .func (.func 40) #[] #[]] w fun e w' => e = .returned (.tuple #[]) ∧ ∃ r : List T, SL r ∧ r.length = l.length ∧ (∀ x, x ∈ r ↔ x ∈ l) ∧ w'.ownsRow base 80 2 v r.length (flat r) ∧ w.grownBy w' v.ownBlock := by
  rcases h.2 with ⟨rfl, h0⟩ | ⟨g, cap, cur, rfl, hg, hcur, hle, hm, hs, ht⟩
  · have hl : l = [] := List.length_eq_zero_iff.1 h0
    subst hl
    have hc : Calls Try.prog 44 #[.slice none 0 0, .func (.func 40) #[] #[]] w fun e w' => e = .returned (.tuple #[]) ∧ w' = w := AnyF.slices_SortFunc_none Try.sortT none 0 (.func (.func 40) #[] #[]) w
    refine hc.mono ?_
    rintro e w' ⟨rfl, rfl⟩
    exact ⟨rfl, [], List.Pairwise.nil, rfl, fun _ => Iff.rfl, h, rfl, rfl, rfl, Nat.le_refl _, fun _ _ _ => rfl⟩
  · have eg : ∀ args w, (callFunc 40 args).run Try.prog w = .ok (.enter 40 args) w := enters_of Try.func40 (by kernel_rfl) rfl
    have hblk : g < w.heap.size := (Array.getElem?_eq_some_iff.1 hcur).1
    have hcon := AnyQ.slices_SortFunc Try.sortT 2 Try.isAgg80 Try.sizeOf80 encL (fun _ => rfl) (fun x u hu => by simp [encL] at hu; rcases hu with rfl | rfl <;> rfl) cfT swoT 40 #[] g 0 cap l.toArray w eg (cmpLays g 0 _ w) (holdsK_of_block hcur ht) hblk (by simpa using hsz)
    have hcon' : Calls Try.prog 44 #[.slice (some ⟨g, 0, none⟩) l.length cap, .func (.func 40) #[] #[]] w _ := hcon
    refine hcon'.mono ?_
    rintro e w' ⟨rfl, d', n, os, hp, hso, rfl⟩
    obtain ⟨hp1, hp2, hp3⟩ := hp
    have hsize : d'.size = l.length := by simpa using hp1
    have hperm : d'.toList.Perm l := by
      have e1 : (d'.extract 0 l.toArray.size) = d' := by rw [show l.toArray.size = d'.size by simp [hsize]]; simp
      have e2 : (l.toArray.extract 0 l.toArray.size) = l.toArray := by simp
      rw [e1, e2] at hp3
      simpa using hp3
    refine ⟨rfl, d'.toList, ?_, by simpa using hsize, fun x => hperm.mem_iff, ?_, grownBy_sortedK d'⟩
    · refine sl_of_sorted ((hperm.nodup_iff).2 hn) fun i j hij hj => ?_
      have hj' : j < l.length := by rw [Array.length_toList, hsize] at hj; exact hj
      have := hso i j (Nat.zero_le _) hij (by simpa using hj')
      rw [ltOf_cf] at this
      have hh : ¬ ltT d'[j]! d'[i]! := by simpa using this
      have g1 : ∀ i, i < d'.size → d'[i]! = d'.toList.getD i (0, 0) := fun i hi => by
        rw [getElem!_pos d' i hi]; simp [List.getD, hi]
      rw [g1 j (by omega), g1 i (by omega)] at hh
      exact hh
    · have hF : (Sort.flatK encL 2 d').toList = flat d'.toList := by
        have := flatK_flat d'.toList
        simpa using this
      have hFs : (Sort.flatK encL 2 d').size = l.length * 2 := by simp [hsize]
      refine ⟨by rw [length_flat], .inr ⟨g, cap, _, ?_, hg, heap_sortedK d' hcur, ?_, hm, ?_, ?_⟩⟩
      · simp [hsize]
      · simp [hsize]; exact hle
      · simp [Sort.putCells, hs]
      · rw [Array.length_toList, hsize, ← hFs, take_putCellsK _ _ (by rw [hFs, hs]; omega), hF]

set_option maxRecDepth 100000 in
theorem collect_any (w : World) (lb : Array Value) (S : List T → Prop) (N : Nat) (hN : N ≤ maxLen) (hNb : N * 16 ≤ 140737488355328) (hseq : SeqGives Fence.wide 1 Try.prog 45 lb tv S N w) :
    Calls Try.prog 43 #[.func (.func 45) #[] lb] w fun e w' => ∃ (v : Value) (ss : List T), e = .returned v ∧ S ss ∧ w'.ownsRow w.heap.size 80 2 v ss.length (flat ss) ∧ (v = .slice none 0 0 ↔ ss = []) ∧ Below w.heap.size w w' :=
  callsIn_wide.1 (collect_in Fence.wide 3 trivial trivial rfl (by omega) 45 lb trivial (enters_of Try.func45 (by kernel_rfl) rfl) S N hN hNb w hseq)

set_option maxRecDepth 100000 in
theorem keys_any (mb : Option Nat) (w : World) : Calls Try.prog 39 #[.map mb] w fun e w' => e = .returned (.func (.func 45) #[] #[.pointer (some ⟨w.heap.size, 0, none⟩)]) ∧ w' = w.alloc (.cells #[.map mb] 78) :=
  (callsIn_wide (n := 1)).1 (keys_in Fence.wide 1 trivial rfl mb w)

set_option maxRecDepth 100000 in
set_option maxHeartbeats 1000000 in
/-- slices.SortedFunc over the keys of a map of times. -/
theorem sortedFunc_any {H : Type} (w : World) (Bm b nn : Nat) (D0 : DataW H) {R : Value → Option (DataW H × List MemPlace)} (hBm : Bm < w.heap.size) (hm : w.cell? ⟨Bm, 0, none⟩ = some (.map (some b))) (hown : w.ownsMap Try.prog 80 R b nn D0)
    (hN : Maps.size D0 ≤ maxLen) (hNb : Maps.size D0 * 16 ≤ 140737488355328) (hL : Maps.size D0 < 4611686018427387904) :
    Calls Try.prog 38 #[.func (.func 45) #[] #[.pointer (some ⟨Bm, 0, none⟩)], .func (.func 40) #[] #[]] w fun e w' => ∃ (v : Value) (ss : List T), e = .returned v ∧ SL ss ∧ KeysAre D0 ss ∧ w'.ownsRow w.heap.size 80 2 v ss.length (flat ss) ∧ Below w.heap.size w w' := by
  have HC := hid' (collect_any w #[.pointer (some ⟨Bm, 0, none⟩)] (KeysAre D0) (Maps.size D0) hN hNb (keys_gives Fence.wide 1 trivial rfl (by omega) Bm b nn D0 w hBm hm hown))
  clear hown hm
  go_enter Try.func38, Try.ntmps38
  go_wp2_with fail
  refine HC.out.mono ?_
  clear HC
  rintro e w1 ⟨v, ss, rfl, hk, hrow, hnil, hb⟩
  have HS := hid' (sortFunc_any w1 w.heap.size v ss hrow hk.nodup (Nat.lt_of_le_of_lt hk.len hL))
  have HR := hid' hrow
  have HK := hid' hk
  clear hrow hnil hk hL
  go_wp2_with fail
  refine HS.out.mono ?_
  clear HS
  rintro e w2 ⟨rfl, r, hsl, hlen, hmem, hrow2, hg2⟩
  go_wp2
  go_ret
  refine ⟨v, r, rfl, hsl, ⟨by rw [hlen]; exact HK.out.len, hsl.nodup, fun x hx => HK.out.range x ((hmem x).1 hx), fun x hx => (hmem x).trans (HK.out.mem x hx)⟩, hrow2, hb.grown hg2 hb.size (fun k hk => (HR.out.lt k hk).1)⟩

end Go.Proofs.Ytboeodcjcbgeaaa
