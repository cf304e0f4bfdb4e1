/-
  What is proved here: what a reader has read; numbers, counts and times that it takes.
-/
import Derived.Test.YtgalmkhgbokidaaWI
namespace Go.Proofs.Ytgalmkhgbokidaa
open Go.RowKit Go.Proofs
set_option maxRecDepth 20000
set_option linter.unusedVariables false
set_option linter.unusedSimpArgs false

/-- A reader in block g goes through the bytes l, which lie at ba; s: what is left, or none if something was wrong. -/
def RdS (w : World) (g : Nat) (ba : Option Addr) (cap : Nat) (l : List Int) (s : Option (List Int)) : Prop :=
  ∃ at' : Nat, at' ≤ l.length ∧ ((∃ r, s = some r ∧ l.drop at' = r ∧ Bx w g #[.slice ba l.length cap, .int .i64 (at' : Int), .bool false] 82) ∨ (s = none ∧ Bx w g #[.slice ba l.length cap, .int .i64 (at' : Int), .bool true] 82))

section
variable {w w' : World} {g : Nat} {ba : Option Addr} {cap : Nat} {l : List Int} {s : Option (List Int)}

theorem RdS.lt (h : RdS w g ba cap l s) : g < w.heap.size := by
  obtain ⟨a, _, ⟨r, _, _, hb⟩ | ⟨_, hb⟩⟩ := h <;> exact hb.lt

theorem RdS.keep (h : RdS w g ba cap l s) (hb : w'.heap[g]? = w.heap[g]?) : RdS w' g ba cap l s := by
  obtain ⟨a, h1, ⟨r, h2, h3, h4⟩ | ⟨h2, h4⟩⟩ := h
  · exact ⟨a, h1, .inl ⟨r, h2, h3, hb.trans h4⟩⟩
  · exact ⟨a, h1, .inr ⟨h2, hb.trans h4⟩⟩

theorem RdS.on (h : RdS w g ba cap l s) (hb : Below w.heap.size w w') : RdS w' g ba cap l s := h.keep (hb.block g h.lt)

theorem RdS.set (h : RdS w g ba cap l s) {b i : Nat} {v : Value} (hb : b ≠ g) : RdS (w.setCell ⟨b, i, none⟩ v) g ba cap l s := h.keep (Below.heap_setCell _ _ _ _ (Ne.symm hb))

/-- Where it stands, and whether something was wrong. -/
theorem RdS.open' (h : RdS w g ba cap l s) : ∃ (at' : Nat) (bad : Bool), at' ≤ l.length ∧ Bx w g #[.slice ba l.length cap, .int .i64 (at' : Int), .bool bad] 82 ∧ s = (if bad = true then none else some (l.drop at')) := by
  obtain ⟨a, h1, ⟨r, h2, h3, h4⟩ | ⟨h2, h4⟩⟩ := h
  · exact ⟨a, false, h1, h4, by rw [h2, h3]; rfl⟩
  · exact ⟨a, true, h1, h4, by rw [h2]; rfl⟩
end

theorem But.setNew {g b i : Nat} {w X : World} (h : But g w X) (hb : w.heap.size ≤ b) (v : Value) : But g w (X.setCell ⟨b, i, none⟩ v) :=
  ⟨h.os, h.tape, h.output, by simpa using h.size, fun k hk hg => (Below.heap_setCell _ _ _ _ (by show k ≠ b; omega)).trans (h.block k hk hg)⟩
theorem But.alloc {g : Nat} {w w' : World} (h : But g w w') (o : Obj) : But g w (w'.alloc o) := h.trans (But.of_below ((Below.refl _ _).alloc (Nat.le_refl _) o))

/-- What a function told that looks from a place on: a thing of D that stands there, and the place behind; or that there is none. -/
def GotR {α : Type} (f : α → List Int) (D : α → Prop) (Rep : α → Value → World → Prop) (l : List Int) (at' : Nat) (v : Value) (next er : Int) (W : World) : Prop :=
  ∃ x, Rep x v W ∧ ((er = 0 ∧ D x ∧ l.drop at' = f x ++ l.drop next.toNat ∧ (next.toNat : Int) = next ∧ next.toNat ≤ l.length) ∨ (er ≠ 0 ∧ ∀ y r, D y → l.drop at' ≠ f y ++ r))

/-- What a reader's call answers. -/
def RdAns {α : Type} (f : α → List Int) (D : α → Prop) (Rep : α → Value → World → Prop) (w : World) (g : Nat) (ba : Option Addr) (cap : Nat) (l : List Int) (s : Option (List Int)) (e : Ending) (w' : World) : Prop :=
  ∃ x v s', e = .returned v ∧ Rep x v w' ∧ Rd f D s x s' ∧ RdS w' g ba cap l s' ∧ But g w w'

theorem take_rd {α : Type} {f : α → List Int} {D : α → Prop} {Rep : α → Value → World → Prop} {w w' : World} {g : Nat} {ba : Option Addr} {cap : Nat} {l : List Int} {at' : Nat} {bad : Bool} {e : Ending} (ha : at' ≤ l.length) (hRep : ∀ x v W W', Rep x v W → But g W W' → Rep x v W')
    (h : TkAns (GotR f D Rep l at') w g (.slice ba l.length cap) (at' : Int) bad e w') : RdAns f D Rep w g ba cap l (if bad = true then none else some (l.drop at')) e w' := by
  obtain ⟨v, next, er, W, rfl, ⟨x, hx, hc⟩, hb, hbut, hbx⟩ := h
  have hx' := hRep x v W w' hx hbut
  have hB : But g w w' := (But.of_below hb).trans hbut
  cases bad with
  | true =>
    simp only [true_or, if_true, Bool.true_or] at hbx
    exact ⟨x, v, none, rfl, hx', trivial, ⟨at', ha, .inr ⟨rfl, hbx⟩⟩, hB⟩
  | false =>
    rcases hc with ⟨rfl, h1, h2, h3, h4⟩ | ⟨h0, h1⟩
    · have hbx' : Bx w' g #[.slice ba l.length cap, .int .i64 next, .bool false] 82 := by simpa using hbx
      refine ⟨x, v, some (l.drop next.toNat), rfl, hx', ?_, ⟨next.toNat, h4, .inl ⟨_, rfl, rfl, by rw [h3]; exact hbx'⟩⟩, hB⟩
      exact ⟨h1, h2⟩
    · have hb0 : (er != 0) = true := by simpa using h0
      have hbx' : Bx w' g #[.slice ba l.length cap, .int .i64 (at' : Int), .bool true] 82 := by simpa [h0, hb0] using hbx
      exact ⟨x, v, none, rfl, hx', h1, ⟨at', ha, .inr ⟨rfl, hbx'⟩⟩, hB⟩

theorem zig_unzig {n : Int} (h0 : 0 ≤ n) : zig (unzig n) = n := by
  unfold zig unzig
  by_cases h : n % 2 = 1
  · rw [if_pos h, if_pos (by omega)]; omega
  · rw [if_neg h, if_neg (by omega)]; omega

theorem unzig_rng {n : Int} (h0 : 0 ≤ n) (h1 : n ≤ 18446744073709551615) : R64 (unzig n) := by
  unfold R64 unzig
  by_cases h : n % 2 = 1
  · rw [if_pos h]; omega
  · rw [if_neg h]; omega

theorem drop_hit {l : List Int} {at' n : Nat} (h : (l.drop at').take (sz n) = bytesOf n) : l.drop at' = bytesOf n ++ l.drop (at' + sz n) := by
  have e : l.drop at' = (l.drop at').take (sz n) ++ (l.drop at').drop (sz n) := (List.take_append_drop _ _).symm
  rw [e, h, List.drop_drop]

/-- A number that is told. -/
theorem get_yes {l : List Int} {at' : Nat} {n next : Int} (h : GetRel l (at' : Int) n next 0) : l.drop at' = bytesOf n.toNat ++ l.drop next.toNat ∧ 0 ≤ n ∧ n ≤ 18446744073709551615 ∧ (next.toNat : Int) = next ∧ next.toNat ≤ l.length := by
  obtain ⟨h0, h1, h2, h3, h4, h5, _⟩ := h.yes
  rw [Int.toNat_natCast] at h3
  have e := drop_hit h3
  have en : next.toNat = at' + sz n.toNat := by omega
  rw [en]
  exact ⟨e, h1, h2, by omega, by omega⟩

/-- None is told. -/
theorem get_no {l : List Int} {at' : Nat} {n next er : Int} (ha : at' ≤ l.length) (h : GetRel l (at' : Int) n next er) (he : er ≠ 0) : ∀ m r, m < 18446744073709551616 → l.drop at' ≠ bytesOf m ++ r := by
  intro m r hm e
  have hit : Hit (l.drop at') m := ⟨hm, by rw [e, List.take_append_of_le_length (by rw [length_bytesOf]; exact Nat.le_refl _), List.take_of_length_le (by rw [length_bytesOf]; exact Nat.le_refl _)]⟩
  rcases h with ⟨a, _⟩ | ⟨_, _, _, _, _, rfl⟩ | ⟨_, _, c, _⟩
  · omega
  · exact he rfl
  · exact c m (by simpa using hit)

def RepI (x : Int) (v : Value) (_ : World) : Prop := v = .int .i64 x
def RepU (x : Nat) (v : Value) (_ : World) : Prop := v = .int .u64 (x : Int)
def U64 (n : Nat) : Prop := n < 18446744073709551616

theorem got_int {l : List Int} {at' : Nat} {n next er : Int} (ha : at' ≤ l.length) (h : GetRel l (at' : Int) n next er) (W : World) : GotR oneB R64 RepI l at' (.int .i64 (unzig n)) next er W := by
  refine ⟨unzig n, rfl, ?_⟩
  by_cases h0 : er = 0
  · subst h0
    obtain ⟨y1, y2, y3, y4, y5⟩ := get_yes h
    refine .inl ⟨rfl, unzig_rng y2 y3, ?_, y4, y5⟩
    unfold oneB
    rw [zig_unzig y2]
    exact y1
  · exact .inr ⟨h0, fun y r hy => get_no ha h h0 _ r (zig_small hy)⟩

theorem got_num {l : List Int} {at' : Nat} {n next er : Int} (ha : at' ≤ l.length) (h : GetRel l (at' : Int) n next er) (W : World) : GotR bytesOf U64 RepU l at' (.int .u64 n) next er W := by
  have hr := h.range
  refine ⟨n.toNat, by unfold RepU; rw [Int.toNat_of_nonneg hr.1], ?_⟩
  by_cases h0 : er = 0
  · subst h0
    obtain ⟨y1, y2, y3, y4, y5⟩ := get_yes h
    exact .inl ⟨rfl, by unfold U64; omega, y1, y4, y5⟩
  · exact .inr ⟨h0, fun y r hy => get_no ha h h0 _ r hy⟩

theorem takeInt_any (w : World) (g : Nat) (ba : Option Addr) (cap : Nat) (l : List Int) (s : Option (List Int)) (hr : RdS w g ba cap l s) (hb : Bts g w ba l) (hc : l.length ≤ cap) (hl : l.length ≤ 1000000000) :
    Calls Try.prog 61 #[.pointer (some ⟨g, 0, none⟩), .func (.func 63) #[] #[]] w (RdAns oneB R64 RepI w g ba cap l s) := by
  have hgl := hr.lt
  obtain ⟨at', bad, ha, hbx, rfl⟩ := hr.open'
  refine (takeI_any (GotR oneB R64 RepI l at') 63 _ Try.func63 rfl rfl w g ba l.length cap at' bad hbx (fun W hW => ?_)).mono (fun e w' h => take_rd ha (fun x v W W' h _ => h) h)
  refine (getInt_any W ba cap l at' ((hb.keep (hW.mono (Nat.le_of_lt hgl))).mono (by have := hW.size; omega)) hc hl).mono ?_
  rintro e w' ⟨⟨n, next, er, rfl, hrel⟩, rfl⟩
  exact ⟨_, next, er, rfl, got_int ha hrel _, Below.refl _ _⟩

theorem takeNum_any (w : World) (g : Nat) (ba : Option Addr) (cap : Nat) (l : List Int) (s : Option (List Int)) (hr : RdS w g ba cap l s) (hb : Bts g w ba l) (hc : l.length ≤ cap) (hl : l.length ≤ 1000000000) :
    Calls Try.prog 48 #[.pointer (some ⟨g, 0, none⟩), .func (.func 49) #[] #[]] w (RdAns bytesOf U64 RepU w g ba cap l s) := by
  have hgl := hr.lt
  obtain ⟨at', bad, ha, hbx, rfl⟩ := hr.open'
  refine (takeU_any (GotR bytesOf U64 RepU l at') 49 _ Try.func49 rfl rfl w g ba l.length cap at' bad hbx (fun W hW => ?_)).mono (fun e w' h => take_rd ha (fun x v W W' h _ => h) h)
  refine (get_any W ba cap l at' ((hb.keep (hW.mono (Nat.le_of_lt hgl))).mono (by have := hW.size; omega)) hc hl).mono ?_
  rintro e w' ⟨⟨n, next, er, rfl, hrel⟩, rfl⟩
  exact ⟨_, next, er, rfl, got_num ha hrel _, Below.refl _ _⟩

def RepT (x : T) (v : Value) (_ : World) : Prop := v = .agg #[.int .i64 x.1, .int .i64 x.2]

theorem Bts.but {g : Nat} {w w' : World} {a : Option Addr} {l : List Int} (h : Bts g w a l) (hb : But g w w') (hg : g ≤ w.heap.size) : Bts g w' a l := h.keep (hb.below hg)

set_option maxHeartbeats 2000000 in
theorem time_any (w : World) (g : Nat) (ba : Option Addr) (cap : Nat) (l : List Int) (s : Option (List Int)) (hr : RdS w g ba cap l s) (hb : Bts g w ba l) (hc : l.length ≤ cap) (hl : l.length ≤ 1000000000) :
    Calls Try.prog 50 #[.pointer (some ⟨g, 0, none⟩)] w (RdAns timeB RT RepT w g ba cap l s) := by
  have hgl := hr.lt
  have BA : Below w.heap.size w (w.alloc (.cells #[.int .i64 0, .int .i64 0] 26)) := (Below.refl _ _).alloc (Nat.le_refl _) _
  have H1 := hid' (takeInt_any _ g ba cap l s (hr.on BA) (hb.keep (BA.mono (Nat.le_of_lt hgl))) hc hl)
  have X0 := hid' (Bx.new w #[.int .i64 0, .int .i64 0] 26)
  have B0 := hid' (But.of_below (g := g) BA)
  have HB := hid' hb
  have H2 := hid' (fun W s' (h : RdS W g ba cap l s') (hbt : Bts g W ba l) => takeInt_any W g ba cap l s' h hbt hc hl)
  have HF : Hid (∀ x y s1 s2 w', Rd oneB R64 s x s1 → Rd oneB R64 s1 y s2 → RdS w' g ba cap l s2 → But g w w' → RdAns timeB RT RepT w g ba cap l s (.returned (.agg #[.int .i64 x, .int .i64 y])) w') := fun x y s1 s2 w' h1 h2 h3 h4 =>
    ⟨(x, y), _, s2, rfl, rfl, Rd.seq (f := oneB) (g := oneB) pf_one (fun c => c.1) (fun c => c.2) (fun c h => h.1) (fun c h => h.2) (fun c _ => rfl) rfl rfl (fun a b => ⟨a, b⟩) h1 h2, h3, h4⟩
  clear hr hb BA
  go_enter Try.func50, Try.ntmps50
  go_wp2_with fail
  refine H1.out.mono ?_
  rintro e w1 ⟨x, v, s1, rfl, rfl, hrd1, hrs1, hbut1⟩
  have X1 := hid' (X0.out.but hbut1 (by omega))
  have B1 := hid' (B0.out.trans hbut1)
  have HR1 := hid' hrd1
  have T2 := hid' (H2.out w1 s1 hrs1 (HB.out.keep (B1.out.below (Nat.le_of_lt hgl))))
  clear H1 H2 X0 B0 hrd1 hrs1 hbut1
  go_wp2_with fail
  refine T2.out.mono ?_
  rintro e w2 ⟨y, v, s2, rfl, rfl, hrd2, hrs2, hbut2⟩
  have X2 := X1.out.but hbut2 (by omega)
  have B2 := hid' (B1.out.trans hbut2)
  have c0 : w2.cell? ⟨w.heap.size, 0, none⟩ = some (.int .i64 0) := X2.cell 0
  have c1 : w2.cell? ⟨w.heap.size, 1, none⟩ = some (.int .i64 0) := X2.cell 1
  have f0 := X2.frozen 0
  have f1 := X2.frozen 1
  have X3 : Bx ((w2.setCell ⟨w.heap.size, 0, none⟩ (.int .i64 x)).setCell ⟨w.heap.size, 1, none⟩ (.int .i64 y)) w.heap.size #[.int .i64 x, .int .i64 y] 26 := (X2.setCell (i := 0) (v := .int .i64 x)).setCell (i := 1) (v := .int .i64 y)
  have d0 : ((w2.setCell ⟨w.heap.size, 0, none⟩ (.int .i64 x)).setCell ⟨w.heap.size, 1, none⟩ (.int .i64 y)).cell? ⟨w.heap.size, 0, none⟩ = some (.int .i64 x) := X3.cell 0
  have d1 : ((w2.setCell ⟨w.heap.size, 0, none⟩ (.int .i64 x)).setCell ⟨w.heap.size, 1, none⟩ (.int .i64 y)).cell? ⟨w.heap.size, 1, none⟩ = some (.int .i64 y) := X3.cell 1
  have HZ := hid' (HF.out x y s1 s2 ((w2.setCell ⟨w.heap.size, 0, none⟩ (.int .i64 x)).setCell ⟨w.heap.size, 1, none⟩ (.int .i64 y)) HR1.out hrd2 ((hrs2.set (by omega)).set (by omega)) ((B2.out.setNew (Nat.le_refl _) _).setNew (Nat.le_refl _) _))
  clear T2 X1 X2 X3 B1 hrd2 hrs2 hbut2 HF B2
  go_wp2
  refine bodyPost_ret (v := .agg #[.int .i64 x, .int .i64 y]) ?_ rfl HZ.out
  unfold results
  go_simp

end Go.Proofs.Ytgalmkhgbokidaa
