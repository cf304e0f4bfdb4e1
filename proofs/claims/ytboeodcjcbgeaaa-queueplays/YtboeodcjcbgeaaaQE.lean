/-
  What is proved here: Push.
-/
import Derived.Test.YtboeodcjcbgeaaaQD
import Derived.Test.YtboeodcjcbgeaaaTail
namespace Go.Proofs.Ytboeodcjcbgeaaa
open Go.RowKit Go.Proofs
set_option linter.unusedVariables false
set_option linter.unusedSimpArgs false

section
variable {a : Act} {t u c : Nat} {dst : Option Tmp} {ty : TypeId} {pos : String} {aft : Array Edge} {guard : Option (Nat × Bool)}

theorem run_nilQ {g : Nat} (w : World) (h : PB.slot a t = .pointer (some ⟨g, 0, none⟩)) :
    (execOp a.eval { dst := dst, op := .nilCheck (.tmp t), type := ty, pos := pos, after := aft, guard := guard }).run Try.prog w = .ok (.value (.pointer (some ⟨g, 0, none⟩))) w := by
  have h1 : a.tmps[t]?.getD undef = .pointer (some ⟨g, 0, none⟩) := by rw [← Array.getD_eq_getD_getElem?]; exact h
  go_simp

theorem run_fieldQ1 {g : Nat} (w : World) (h : PB.slot a t = .pointer (some ⟨g, 0, none⟩)) :
    (execOp a.eval { dst := dst, op := .fieldAddr 57 (.tmp t) 1, type := ty, pos := pos, after := aft, guard := guard }).run Try.prog w = .ok (.value (.pointer (some ⟨g, 1, none⟩))) w := by
  have h1 : a.tmps[t]?.getD undef = .pointer (some ⟨g, 0, none⟩) := by rw [← Array.getD_eq_getD_getElem?]; exact h
  go_simp

theorem run_fieldQ3 {g : Nat} (w : World) (h : PB.slot a t = .pointer (some ⟨g, 0, none⟩)) :
    (execOp a.eval { dst := dst, op := .fieldAddr 57 (.tmp t) 3, type := ty, pos := pos, after := aft, guard := guard }).run Try.prog w = .ok (.value (.pointer (some ⟨g, 3, none⟩))) w := by
  have h1 : a.tmps[t]?.getD undef = .pointer (some ⟨g, 0, none⟩) := by rw [← Array.getD_eq_getD_getElem?]; exact h
  go_simp

theorem run_loadQ {b o : Nat} {x : Option Addr} {n m : Nat} (w : World) (h : PB.slot a t = .pointer (some ⟨b, o, none⟩)) (hc : w.cell? ⟨b, o, none⟩ = some (.slice x n m)) :
    (execOp a.eval { dst := dst, op := .load 30 (.tmp t), type := ty, pos := pos, after := aft, guard := guard }).run Try.prog w = .ok (.value (.slice x n m)) w := by
  have h0 : a.tmps[t]?.getD undef = .pointer (some ⟨b, o, none⟩) := by rw [← Array.getD_eq_getD_getElem?]; exact h
  go_simp

theorem run_loadI {b o : Nat} {x : Int} (w : World) (h : PB.slot a t = .pointer (some ⟨b, o, none⟩)) (h1 : w.cell? ⟨b, o, none⟩ = some (.int .i64 x)) :
    (execOp a.eval { dst := dst, op := .load 3 (.tmp t), type := ty, pos := pos, after := aft, guard := guard }).run Try.prog w = .ok (.value (.int .i64 x)) w := by
  have h0 : a.tmps[t]?.getD undef = .pointer (some ⟨b, o, none⟩) := by rw [← Array.getD_eq_getD_getElem?]; exact h
  go_simp

theorem run_loadU {b o : Nat} {s : Slot} (w : World) (h : PB.slot a t = .pointer (some ⟨b, o, none⟩)) (hc : C4 w b o s) :
    (execOp a.eval { dst := dst, op := .load 38 (.tmp t), type := ty, pos := pos, after := aft, guard := guard }).run Try.prog w = .ok (.value s.val) w := by
  have h0 : a.tmps[t]?.getD undef = .pointer (some ⟨b, o, none⟩) := by rw [← Array.getD_eq_getD_getElem?]; exact h
  obtain ⟨h1, h2, h3, h4⟩ := hc
  unfold Slot.val
  go_simp

theorem run_indexU {b off n cap i : Nat} (w : World) (h : PB.slot a t = .slice (some ⟨b, off, none⟩) n cap) (h' : PB.slot a u = .int .i64 (i : Int)) (hi : i < n) (hn : n ≤ 1000000000) :
    (execOp a.eval { dst := dst, op := .indexAddr 30 (.tmp t) (.tmp u), type := ty, pos := pos, after := aft, guard := guard }).run Try.prog w = .ok (.value (.pointer (some ⟨b, off + i * 4, none⟩))) w := by
  have h1 : a.tmps[t]?.getD undef = .slice (some ⟨b, off, none⟩) n cap := by rw [← Array.getD_eq_getD_getElem?]; exact h
  have h2 : a.tmps[u]?.getD undef = .int .i64 (i : Int) := by rw [← Array.getD_eq_getD_getElem?]; exact h'
  go_simp
end

/-- A change with a row that is new since there were B blocks. -/
def OwnIs (B : Nat) (u : U) : Value → World → Prop := fun v w => ∃ s : Slot, v = s.val ∧ Rd (Since B) w s u

theorem ownIs_lasts (B : Nat) (u : U) : PB.Lasts (OwnIs B u) := by
  rintro v w w' ⟨s, rfl, h⟩ hb
  exact ⟨s, rfl, h.keep (fun k hP hk => ⟨hb.block k hk, hP⟩) hb.size⟩

theorem own_newB (B : Nat) (w : World) (P : Nat → Prop) (s : Slot) (u : U) (h : Rd P w s u) (hf : Fit u) (hB : B ≤ w.heap.size) :
    Calls Try.prog 24 #[s.val] w fun e w' => ∃ v, e = .returned v ∧ Below w.heap.size w w' ∧ OwnIs B u v w' := by
  refine (own_any w P s u h hf).mono ?_
  rintro e w' ⟨s', rfl, hr, hb⟩
  exact ⟨_, rfl, hb, s', rfl, hr.mono (fun k hk => Nat.le_trans hB hk)⟩

theorem place_newB (G : Nat) (f i n : Nat) (ra : Option Addr) (w : World) (hf : f ≤ 1000000000) (hi : i ≤ 1000000000) (hn : 0 < n) (hn' : n ≤ 1000000000) (h1 : w.cell? ⟨G, 1, none⟩ = some (.slice ra n n)) (h2 : w.cell? ⟨G, 2, none⟩ = some (.int .i64 (f : Int))) :
    Calls Try.prog 21 #[.pointer (some ⟨G, 0, none⟩), .int .i64 (i : Int)] w fun e w' => ∃ v, e = .returned v ∧ Below w.heap.size w w' ∧ PB.E (.int .i64 (((f + i) % n : Nat) : Int)) v w' :=
  (place_at G f i n ra w hf hi hn hn' h1 h2).mono fun e w' ⟨he, hb⟩ => ⟨_, he, hb, rfl⟩

section
variable {w : World} {G R : Nat} {room : Int} {L : List U} {p : Nat} {S : List Slot} {f : Nat} {ra : Option Addr}

/-- One change more waits. -/
theorem Qs.push (h : Qs w G R room L p S f ra) (hl : L.length < S.length) {W : World} (hb : Below w.heap.size w W) {s : Slot} {u : U} (hr : Rd (Since w.heap.size) W s u) (hu : Fit u) :
    Qs ((set4 W R (((f + L.length) % S.length) * 4) s).setCell ⟨G, 3, none⟩ (.int .i64 ((L.length : Int) + 1))) G R room (L ++ [u]) p (S.set ((f + L.length) % S.length) s) f ra ∧ Kp G R w ((set4 W R (((f + L.length) % S.length) * 4) s).setCell ⟨G, 3, none⟩ (.int .i64 ((L.length : Int) + 1))) := by
  have hS : S ≠ [] := by rintro rfl; simp at hl
  obtain ⟨h1, h2, h3, h4, h5⟩ := h.ne hS
  have hGl := h.lt
  have hq : (f + L.length) % S.length < S.length := md_lt (by omega)
  have hlen : (S.set ((f + L.length) % S.length) s).length = S.length := by simp
  have hk : Kp G R w ((set4 W R (((f + L.length) % S.length) * 4) s).setCell ⟨G, 3, none⟩ (.int .i64 ((L.length : Int) + 1))) := ((Kp.of_below hb).trans (set4_kp W G R _ s)).trans (Kp.set (.inl rfl) _)
  have hGW : (set4 W R (((f + L.length) % S.length) * 4) s).heap[G]? = _ := (set4_other W R _ s h4).trans ((hb.block G hGl).trans h.obj)
  refine ⟨⟨?_, .inr ⟨by rw [hlen]; exact h1, h2, ?_⟩, by rw [hlen, List.length_append]; simp; omega, by rw [hlen]; exact h.most, fun i hi => ?_, fun x hx => ?_⟩, hk⟩
  · rw [hlen]
    simp [World.setCell, Array.getElem?_modify, hGW]
  · rw [Below.heap_setCell _ _ _ _ (Ne.symm h4)]
    exact set4_at ((hb.block R h5).trans h3) hq s
  · rw [List.length_append, List.length_singleton] at hi
    rw [hlen]
    by_cases hil : i < L.length
    · have hne : (f + i) % S.length ≠ (f + L.length) % S.length := by
        intro e
        have := md_inj h1 (by omega) hl e
        omega
      rw [getD_set_other hne, show (L ++ [u]).getD i u0 = L.getD i u0 by simp [List.getD, List.getElem?_append_left hil]]
      exact hk.rd (h.reads i hil)
    · obtain rfl : i = L.length := by omega
      rw [getD_set_same hq, show (L ++ [u]).getD L.length u0 = u by simp [List.getD]]
      refine hr.keep (fun k hP hkw => ?_) ?_
      · unfold Since at hP
        refine ⟨?_, by omega, by omega⟩
        rw [Below.heap_setCell _ _ _ _ (by show k ≠ G; omega), set4_other W R _ s (by omega)]
      · simp [set4_size]
  · rw [List.mem_append, List.mem_singleton] at hx
    rcases hx with hx | rfl
    · exact h.good x hx
    · exact hu

end

theorem push_nil (w : World) (v : Value) : Calls Try.prog 12 #[.pointer none, v] w fun e w' => e = .returned (.int .i64 5) ∧ w' = w := by
  go_enter Try.func12, Try.ntmps12
  go_wp2
  go_ret
  exact ⟨rfl, rfl⟩

set_option maxRecDepth 10000 in
set_option maxHeartbeats 1000000 in
/-- Push of too many. -/
theorem push_many (w : World) (G : Nat) (a : Option Addr) (n c q : Nat) (h3 : w.cell? ⟨G, 3, none⟩ = some (.int .i64 (q : Int))) (hq : q ≤ 131072) (hn : 65536 < q + n) (hn' : n ≤ 100000) : Calls Try.prog 12 #[.pointer (some ⟨G, 0, none⟩), .slice a n c] w fun e w' => e = .returned (.int .i64 3) ∧ w' = w := by
  have hgt : (n : Int) > 65536 - (q : Int) := by omega
  go_enter Try.func12, Try.ntmps12
  go_wp2
  go_ret
  exact ⟨rfl, rfl⟩

/-- How the queue stands behind j changes of a push. -/
def Pj (w0 : World) (G R R' : Nat) (room : Int) (L l : List U) (p : Nat) (m : Nat) (j : Nat) (wr : World) : Prop := ∃ S f ra, Qs wr G R' room (L ++ l.take j) p S f ra ∧ m ≤ S.length ∧ Kp G R w0 wr

set_option maxRecDepth 20000 in
set_option maxHeartbeats 4000000 in
theorem push_ok (w : World) (G R : Nat) (room : Int) (L l : List U) (p n c : Nat) (a : Option Addr) (h : Q w G R room L p) (hn : l.length = n) (hfit : ∀ u ∈ l, Fit u) (hmax : L.length + n ≤ 65536)
    (hl : l ≠ [] → ∃ b off, a = some ⟨b, off, none⟩ ∧ b < w.heap.size ∧ b ≠ G ∧ b ≠ R ∧ Us (Out G R) w b off l) :
    Calls Try.prog 12 #[.pointer (some ⟨G, 0, none⟩), .slice a n c] w fun e w' => e = .returned (.int .i64 0) ∧ ∃ R', (R' = R ∨ w.heap.size ≤ R') ∧ Q w' G R' room (L ++ l) p ∧ Kp G R w w' := by
  have mixed : Try.prog.follows .mixedOrders = true := by kernel_rfl
  obtain ⟨S, f, ra, h⟩ := h
  have q3 := h.cells.2.2.2.1
  have hle : ¬ (n : Int) > 65536 - (L.length : Int) := by omega
  have hLl : L.length ≤ 65536 := by omega
  have HGR := hid' (grow_any w G R room L p S f ra h (L.length + n) hmax)
  simp only [Int.natCast_add] at HGR
  have HN := hid' hn
  have HF := hid' hfit
  have HL := hid' hl
  have hGl := h.lt
  clear h hn hfit hl
  go_enter Try.func12, Try.ntmps12
  go_wp2_with fail
  refine HGR.out.mono ?_
  rintro e w1 ⟨rfl, R', S', f', ra', hR', hm, hq, hk⟩
  clear HGR q3 hle
  have HR' := hid' hR'
  have HP : Hid (Pj w G R R' room L l p (L.length + n) 0 w1) := ⟨S', f', ra', by simpa using hq, hm, hk⟩
  clear hq hm hk hR'
  go_wp2
  go_loopg [30] n (fun k i wr => ∃ j : Nat, j + k = n ∧ i = .int .i64 (j : Int) ∧ Hid (Pj w G R R' room L l p (L.length + n) j wr))
  case atStart => exact ⟨0, by omega, rfl, HP⟩
  case round =>
    obtain ⟨j, hj, rfl, hP⟩ := hrel
    cases gk with
    | zero =>
      obtain rfl : j = n := by omega
      go_wp2
      go_ret
      obtain ⟨S, f, ra, h1, h2, h3⟩ := hP.out
      rw [List.take_of_length_le (by rw [HN.out]; omega)] at h1
      exact ⟨rfl, R', HR'.out, ⟨S, f, ra, h1⟩, h3⟩
    | succ k =>
      have hjl : j < l.length := by rw [HN.out]; omega
      obtain ⟨b, off, rfl, hbw, hbG, hbR, hus⟩ := HL.out (by rintro rfl; simp at hjl)
      obtain ⟨S, f, ra, hq, hm, hk⟩ := hP.out
      have hlen : (L ++ l.take j).length = L.length + j := by rw [List.length_append, List.length_take, Nat.min_eq_left (by omega)]
      have hS : S ≠ [] := by rintro rfl; simp at hm; omega
      obtain ⟨h1, rfl, h3, h4, h5⟩ := hq.ne hS
      have hbR' : b ≠ R' := by rcases HR'.out with h | h <;> omega
      have hblk : wr.heap[b]? = w.heap[b]? := hk.block b hbw hbG hbR
      obtain ⟨s, hc4, hrd⟩ := hus j hjl
      have hc4 := hc4.keep hblk
      have hrd := hk.rd hrd
      have hfu : Fit (l.getD j u0) := HF.out _ (by rw [List.getD, List.getElem?_eq_getElem hjl]; exact List.getElem_mem hjl)
      have hnext : l.take (j + 1) = l.take j ++ [l.getD j u0] := by rw [List.take_add_one, List.getD, List.getElem?_eq_getElem hjl]; rfl
      have HNX := hid' hnext
      generalize l.getD j u0 = u at hrd hfu HNX
      have HQ := hid' hq
      have HC := hid' hc4
      have HRD := hid' hrd
      have HFU := hid' hfu
      have HK := hid' hk
      have hmost := hq.most
      have hGr := hq.lt
      have HM := hid' hm
      obtain ⟨k0, k1, k2, k3⟩ := hc4
      have hSl : L.length + n ≤ S.length := hm
      clear hnext hrd hfu hk hus hq hm h3 hjl hP
      go_wp2_with fail
      generalize hw2 : wr.alloc (.cells #[.slice s.a s.n s.c, .int .i64 s.t.1, .int .i64 s.t.2, .int .i64 s.d] 38) = w2
      have hb2 : Below wr.heap.size wr w2 := by rw [← hw2]; exact (Below.refl _ wr).alloc (Nat.le_refl _) _
      have HB2 := hid' hb2
      have HQ2 := hid' (HQ.out.on hb2)
      have HV : Hid (∀ W, Below w2.heap.size w2 W → C4 W wr.heap.size 0 s) := by
        intro W hB
        have : W.heap[wr.heap.size]? = some (.cells (flatS [s]).toArray 38 (0, 0)) := by
          rw [hB.block wr.heap.size (by rw [← hw2]; simp), ← hw2]
          exact heap_alloc_new wr _
        exact C4.of_block this (i := 0) (by simp)
      have HRW : Hid (∀ W, Below w2.heap.size w2 W → Rd (Out G R) W s u) := fun W hB => (Kp.of_below (hb2.trans (hB.mono hb2.size))).rd HRD.out
      have HGQ : Hid (∀ W, Below w2.heap.size w2 W → W.cell? ⟨G, 1, none⟩ = some (.slice (some ⟨R', 0, none⟩) S.length S.length) ∧ W.cell? ⟨G, 2, none⟩ = some (.int .i64 (f : Int)) ∧ W.cell? ⟨G, 3, none⟩ = some (.int .i64 ((L.length + j : Nat) : Int))) := by
        intro W hB
        obtain ⟨c0, c1, c2, c3, c4⟩ := (HQ2.out.on hB).cells
        rw [hlen] at c3
        exact ⟨c1, c2, c3⟩
      have hszw : w2.heap.size = wr.heap.size + 1 := by rw [← hw2]; simp
      have hpl := @md_lt f (L.length + j) S.length (by omega)
      clear hw2 hb2 k0 k1 k2 k3
      refine PT.wp_region_tail 13 (PB.phi [PB.E (.pointer (some ⟨G, 0, none⟩)), PB.E (.pointer (some ⟨G, 0, none⟩)), PB.E (.pointer (some ⟨G, 1, none⟩)), PB.E (.slice (some ⟨R', 0, none⟩) S.length S.length), PB.E (.pointer (some ⟨G, 0, none⟩)), PB.E (.pointer (some ⟨G, 0, none⟩)), PB.E (.pointer (some ⟨G, 0, none⟩)), PB.E (.pointer (some ⟨G, 3, none⟩)), PB.E (.int .i64 ((L.length + j : Nat) : Int)), PB.E (.int .i64 (((f + (L.length + j)) % S.length : Nat) : Int)), PB.E (s.val), OwnIs w2.heap.size u, PB.E (.pointer (some ⟨R', 0 + (f + (L.length + j)) % S.length * 4, none⟩))]) mixed (by kernel_rfl)
        (PB.phi_lasts _ ⟨PB.E_lasts _, PB.E_lasts _, PB.E_lasts _, PB.E_lasts _, PB.E_lasts _, PB.E_lasts _, PB.E_lasts _, PB.E_lasts _, PB.E_lasts _, PB.E_lasts _, PB.E_lasts _, ownIs_lasts _ _, PB.E_lasts _, trivial⟩) ?_ ?_
      · refine ⟨?_, ?_, ?_, ?_, ?_, ?_, ?_, ?_, ?_, ?_, ?_, ?_, ?_, trivial⟩ <;> intro A W hB hS hA hF
        · exact Or.inl (PB.does_move (PB.wanted_free rfl) rfl (hS.slots 0 rfl))
        · exact Or.inl (PB.does_run (PB.wanted_free rfl) (run_nilQ W (hA 0 rfl)) rfl)
        · exact Or.inl (PB.does_run (PB.wanted_free rfl) (run_fieldQ1 W (hA 1 rfl)) rfl)
        · exact Or.inl (PB.does_run (PB.wanted_free rfl) (run_loadQ W (hA 2 rfl) (HGQ.out W hB).1) rfl)
        · exact Or.inl (PB.does_move (PB.wanted_free rfl) rfl (hS.slots 0 rfl))
        · exact Or.inl (PB.does_move (PB.wanted_free rfl) rfl (hS.slots 0 rfl))
        · exact Or.inl (PB.does_run (PB.wanted_free rfl) (run_nilQ W (hA 5 rfl)) rfl)
        · exact Or.inl (PB.does_run (PB.wanted_free rfl) (run_fieldQ3 W (hA 6 rfl)) rfl)
        · exact Or.inl (PB.does_run (PB.wanted_free rfl) (run_loadI W (hA 7 rfl) (HGQ.out W hB).2.2) rfl)
        · exact Or.inl (PB.does_call #[.pointer (some ⟨G, 0, none⟩), .int .i64 ((L.length + j : Nat) : Int)] (PB.wanted_free rfl) rfl Try.func21 rfl rfl (by show [PB.slot A 38, PB.slot A 42] = _; rw [show PB.slot A 38 = .pointer (some ⟨G, 0, none⟩) from (hA 4 rfl), show PB.slot A 42 = .int .i64 ((L.length + j : Nat) : Int) from (hA 8 rfl)]) (place_newB G f (L.length + j) S.length _ W (by omega) (by omega) (by omega) (by omega) (HGQ.out W hB).1 (HGQ.out W hB).2.1))
        · exact Or.inl (PB.does_run (PB.wanted_free rfl) (run_loadU W (hS.slots 6 rfl) (HV.out W hB)) rfl)
        · exact Or.inl (PB.does_call #[s.val] (PB.wanted_free rfl) rfl Try.func24 rfl rfl (by show [PB.slot A 44] = _; rw [show PB.slot A 44 = s.val from (hA 10 rfl)]) (own_newB w2.heap.size W _ s u (HRW.out W hB) HFU.out hB.size))
        · exact Or.inl (PB.does_run (PB.wanted_free rfl) (run_indexU W (hA 3 rfl) (hA 9 rfl) hpl (by omega)) rfl)
      · intro A W hB hS hL
        have h_34 : PB.slot A 34 = .pointer (some ⟨G, 0, none⟩) := hL 0 (by decide)
        have h_35 : PB.slot A 35 = .pointer (some ⟨G, 0, none⟩) := hL 1 (by decide)
        have h_36 : PB.slot A 36 = .pointer (some ⟨G, 1, none⟩) := hL 2 (by decide)
        have h_37 : PB.slot A 37 = .slice (some ⟨R', 0, none⟩) S.length S.length := hL 3 (by decide)
        have h_38 : PB.slot A 38 = .pointer (some ⟨G, 0, none⟩) := hL 4 (by decide)
        have h_39 : PB.slot A 39 = .pointer (some ⟨G, 0, none⟩) := hL 5 (by decide)
        have h_40 : PB.slot A 40 = .pointer (some ⟨G, 0, none⟩) := hL 6 (by decide)
        have h_41 : PB.slot A 41 = .pointer (some ⟨G, 3, none⟩) := hL 7 (by decide)
        have h_42 : PB.slot A 42 = .int .i64 ((L.length + j : Nat) : Int) := hL 8 (by decide)
        have h_43 : PB.slot A 43 = .int .i64 (((f + (L.length + j)) % S.length : Nat) : Int) := hL 9 (by decide)
        have h_44 : PB.slot A 44 = s.val := hL 10 (by decide)
        have h_46 : PB.slot A 46 = .pointer (some ⟨R', 0 + (f + (L.length + j)) % S.length * 4, none⟩) := hL 12 (by decide)
        have HOWN : OwnIs w2.heap.size u (PB.slot A 45) W := hL 11 (by decide)
        have q_0 := hS.slots 0 rfl
        have q_1 := hS.slots 1 rfl
        have q_2 := hS.slots 2 rfl
        have q_3 := hS.slots 3 rfl
        have q_4 := hS.slots 4 rfl
        have q_5 := hS.slots 5 rfl
        have q_6 := hS.slots 6 rfl
        have q_7 := hS.slots 7 rfl
        have q_8 := hS.slots 8 rfl
        have q_9 := hS.slots 9 rfl
        have q_10 := hS.slots 10 rfl
        have q_11 := hS.slots 11 rfl
        have q_12 := hS.slots 12 rfl
        have q_13 := hS.slots 13 rfl
        have q_14 := hS.slots 14 rfl
        have q_15 := hS.slots 15 rfl
        have q_16 := hS.slots 16 rfl
        have q_17 := hS.slots 17 rfl
        have q_18 := hS.slots 18 rfl
        have q_19 := hS.slots 19 rfl
        have q_20 := hS.slots 20 rfl
        have q_21 := hS.slots 21 rfl
        have q_22 := hS.slots 22 rfl
        have q_23 := hS.slots 23 rfl
        have q_24 := hS.slots 24 rfl
        have q_25 := hS.slots 25 rfl
        have q_26 := hS.slots 26 rfl
        have q_27 := hS.slots 27 rfl
        have q_28 := hS.slots 28 rfl
        have q_29 := hS.slots 29 rfl
        have q_30 := hS.slots 30 rfl
        have q_31 := hS.slots 31 rfl
        have q_32 := hS.slots 32 rfl
        have q_33 := hS.slots 33 rfl
        have q_47 := hS.slots 47 rfl
        have q_48 := hS.slots 48 rfl
        have q_49 := hS.slots 49 rfl
        have q_50 := hS.slots 50 rfl
        have q_51 := hS.slots 51 rfl
        have q_52 := hS.slots 52 rfl
        have q_53 := hS.slots 53 rfl
        have q_54 := hS.slots 54 rfl
        simp only [PB.slot, Array.getD_eq_getD_getElem?, List.getElem?_toArray, List.getElem?_cons_succ, List.getElem?_cons_zero, Option.getD_some] at q_0 q_1 q_2 q_3 q_4 q_5 q_6 q_7 q_8 q_9 q_10 q_11 q_12 q_13 q_14 q_15 q_16 q_17 q_18 q_19 q_20 q_21 q_22 q_23 q_24 q_25 q_26 q_27 q_28 q_29 q_30 q_31 q_32 q_33 q_47 q_48 q_49 q_50 q_51 q_52 q_53 q_54
        have q_0 := (PT.slot_get A 0).trans q_0
        have q_1 := (PT.slot_get A 1).trans q_1
        have q_2 := (PT.slot_get A 2).trans q_2
        have q_3 := (PT.slot_get A 3).trans q_3
        have q_4 := (PT.slot_get A 4).trans q_4
        have q_5 := (PT.slot_get A 5).trans q_5
        have q_6 := (PT.slot_get A 6).trans q_6
        have q_7 := (PT.slot_get A 7).trans q_7
        have q_8 := (PT.slot_get A 8).trans q_8
        have q_9 := (PT.slot_get A 9).trans q_9
        have q_10 := (PT.slot_get A 10).trans q_10
        have q_11 := (PT.slot_get A 11).trans q_11
        have q_12 := (PT.slot_get A 12).trans q_12
        have q_13 := (PT.slot_get A 13).trans q_13
        have q_14 := (PT.slot_get A 14).trans q_14
        have q_15 := (PT.slot_get A 15).trans q_15
        have q_16 := (PT.slot_get A 16).trans q_16
        have q_17 := (PT.slot_get A 17).trans q_17
        have q_18 := (PT.slot_get A 18).trans q_18
        have q_19 := (PT.slot_get A 19).trans q_19
        have q_20 := (PT.slot_get A 20).trans q_20
        have q_21 := (PT.slot_get A 21).trans q_21
        have q_22 := (PT.slot_get A 22).trans q_22
        have q_23 := (PT.slot_get A 23).trans q_23
        have q_24 := (PT.slot_get A 24).trans q_24
        have q_25 := (PT.slot_get A 25).trans q_25
        have q_26 := (PT.slot_get A 26).trans q_26
        have q_27 := (PT.slot_get A 27).trans q_27
        have q_28 := (PT.slot_get A 28).trans q_28
        have q_29 := (PT.slot_get A 29).trans q_29
        have q_30 := (PT.slot_get A 30).trans q_30
        have q_31 := (PT.slot_get A 31).trans q_31
        have q_32 := (PT.slot_get A 32).trans q_32
        have q_33 := (PT.slot_get A 33).trans q_33
        have q_47 := (PT.slot_get A 47).trans q_47
        have q_48 := (PT.slot_get A 48).trans q_48
        have q_49 := (PT.slot_get A 49).trans q_49
        have q_50 := (PT.slot_get A 50).trans q_50
        have q_51 := (PT.slot_get A 51).trans q_51
        have q_52 := (PT.slot_get A 52).trans q_52
        have q_53 := (PT.slot_get A 53).trans q_53
        have q_54 := (PT.slot_get A 54).trans q_54
        have hA := PT.frame_of (A := A) (n := 55) hS.size
        have hd : A.defers = [] := hS.defers
        rw [hd] at hA
        obtain ⟨fr, hf⟩ : ∃ f, PB.slot A = f := ⟨_, rfl⟩
        rw [hf] at hA h_34 h_35 h_36 h_37 h_38 h_39 h_40 h_41 h_42 h_43 h_44 h_46 q_0 q_1 q_2 q_3 q_4 q_5 q_6 q_7 q_8 q_9 q_10 q_11 q_12 q_13 q_14 q_15 q_16 q_17 q_18 q_19 q_20 q_21 q_22 q_23 q_24 q_25 q_26 q_27 q_28 q_29 q_30 q_31 q_32 q_33 q_47 q_48 q_49 q_50 q_51 q_52 q_53 q_54 HOWN
        rw [hA]
        clear hA hf hd hL hS
        simp only [List.range, List.range.loop, List.map_cons, List.map_nil, List.drop_succ_cons, List.drop_zero, h_34, h_35, h_36, h_37, h_38, h_39, h_40, h_41, h_42, h_43, h_44, h_46, q_0, q_1, q_2, q_3, q_4, q_5, q_6, q_7, q_8, q_9, q_10, q_11, q_12, q_13, q_14, q_15, q_16, q_17, q_18, q_19, q_20, q_21, q_22, q_23, q_24, q_25, q_26, q_27, q_28, q_29, q_30, q_31, q_32, q_33, q_47, q_48, q_49, q_50, q_51, q_52, q_53, q_54]
        clear h_34 h_35 h_36 h_37 h_38 h_39 h_40 h_41 h_42 h_43 h_44 h_46 q_0 q_1 q_2 q_3 q_4 q_5 q_6 q_7 q_8 q_9 q_10 q_11 q_12 q_13 q_14 q_15 q_16 q_17 q_18 q_19 q_20 q_21 q_22 q_23 q_24 q_25 q_26 q_27 q_28 q_29 q_30 q_31 q_32 q_33 q_47 q_48 q_49 q_50 q_51 q_52 q_53 q_54
        obtain ⟨s', hs', hrd'⟩ := HOWN
        rw [hs']
        clear hs'
        have HPU := hid' (HQ2.out.push (by rw [hlen]; omega) hB (s := s') (u := u) hrd' HFU.out)
        rw [hlen] at HPU
        have hq2 := HQ2.out.on hB
        obtain ⟨_, _, hR2, _, hRl⟩ := hq2.ne hS
        have HOB := hid' hq2.obj
        rw [hlen] at HOB
        obtain ⟨c0, c1, c2, c3, c4⟩ := q5 HOB.out
        obtain ⟨r0, r1, r2, r3⟩ := C4.of_block hR2 hpl
        have f0 := frozen_of hR2 (0 + (f + (L.length + j)) % S.length * 4)
        have f1 := frozen_of hR2 (0 + (f + (L.length + j)) % S.length * 4 + 1)
        have f2 := frozen_of hR2 (0 + (f + (L.length + j)) % S.length * 4 + 2)
        have f3 := frozen_of hR2 (0 + (f + (L.length + j)) % S.length * 4 + 3)
        have g3 := frozen_of HOB.out 3
        generalize (f + (L.length + j)) % S.length = q at *
        rw [Nat.zero_add] at *
        unfold Slot.val
        have HKW := hid' (HK.out.trans' HR'.out (Kp.of_below HB2.out))
        have HRE : Hid (Pj w G R R' room L l p (L.length + n) (j + 1) ((set4 W R' (q * 4) s').setCell ⟨G, 3, none⟩ (.int .i64 ((L.length : Int) + (j : Int) + 1)))) := by
          simp only [Int.natCast_add] at HPU
          refine ⟨S.set q s', f, some ⟨R', 0, none⟩, ?_, by simpa using hSl, HKW.out.trans' HR'.out HPU.out.2⟩
          rw [HNX.out, ← List.append_assoc]
          exact HPU.out.1
        clear hB hrd' hR2 hq2 HV HRW HGQ HQ HC HRD HFU HNX HK HM HQ2 HPU HKW
        go_wp2
        go_roundg k
        case measure => omega
        case rel => exact ⟨j + 1, by omega, by simp, HRE⟩

end Go.Proofs.Ytboeodcjcbgeaaa
