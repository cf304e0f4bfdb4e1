/-
  What is proved here: plain facts on the bytes of plans (no Go text is named): each thing's bytes tell just it and where the rest begins; what a reader has read of bytes.
-/
import Derived.Test.YtjpjeledbjpaeaaEnc3
namespace Go.Proofs.Ytjpjeledbjpaeaa
set_option linter.unusedVariables false
set_option linter.unusedSimpArgs false

/-- Bytes of things of D tell the thing and what comes behind. -/
def PF {α : Type} (f : α → List Int) (D : α → Prop) : Prop := ∀ x y r s, D x → D y → f x ++ r = f y ++ s → x = y ∧ r = s

def U64 (n : Nat) : Prop := n < 18446744073709551616

theorem take_app {a r : List Int} : (a ++ r).take a.length = a := by simp

theorem bytes_pf {n m : Nat} {r s : List Int} (h : bytesOf n ++ r = bytesOf m ++ s) : n = m ∧ r = s := by
  have e := form_prefix_eq (bytesOf n) (bytesOf m) (bytesOf n ++ r) (bytesOf_form n) (bytesOf_form m) take_app (by rw [h]; exact take_app)
  have e2 := bytesOf_inj e
  subst e2
  exact ⟨rfl, List.append_cancel_left h⟩

theorem pf_cnt : PF bytesOf (fun _ => True) := fun n m r s _ _ h => bytes_pf h

theorem zig_inj {x y : Int} (h : (zig x).toNat = (zig y).toNat) : x = y := by
  have hx : 0 ≤ zig x := by unfold zig; split <;> omega
  have hy : 0 ≤ zig y := by unfold zig; split <;> omega
  have e : zig x = zig y := by omega
  have := congrArg unzig e
  rwa [unzig_zig, unzig_zig] at this

theorem pf_one : PF oneB R64 := fun x y r s _ _ h => by
  obtain ⟨h1, h2⟩ := bytes_pf h
  exact ⟨zig_inj h1, h2⟩

theorem nums_inj {s t : ByteArray} (h : nums s = nums t) : s = t := by
  rw [← str_nums s, h, str_nums]

theorem pf_str : PF strB (fun _ => True) := fun x y r s _ _ h => by
  unfold strB at h
  rw [List.append_assoc, List.append_assoc] at h
  obtain ⟨h1, h2⟩ := bytes_pf h
  have h3 : (nums x).length = (nums y).length := by rw [nums_length, nums_length, h1]
  obtain ⟨h4, h5⟩ := List.append_inj h2 h3
  exact ⟨nums_inj h4, h5⟩

theorem flat_pf {α : Type} {f : α → List Int} {D : α → Prop} (hf : PF f D) : ∀ (l l' : List α) (r s : List Int), l.length = l'.length → (∀ x ∈ l, D x) → (∀ x ∈ l', D x) → l.flatMap f ++ r = l'.flatMap f ++ s → l = l' ∧ r = s
  | [], [], r, s, _, _, _, h => ⟨rfl, by simpa using h⟩
  | [], _ :: _, r, s, hl, _, _, _ => by simp at hl
  | _ :: _, [], r, s, hl, _, _, _ => by simp at hl
  | x :: l, y :: l', r, s, hl, h1, h2, h => by
    rw [List.flatMap_cons, List.flatMap_cons, List.append_assoc, List.append_assoc] at h
    obtain ⟨rfl, h3⟩ := hf x y _ _ (h1 x (by simp)) (h2 y (by simp)) h
    obtain ⟨rfl, h4⟩ := flat_pf hf l l' r s (by simpa using hl) (fun z hz => h1 z (List.mem_cons_of_mem _ hz)) (fun z hz => h2 z (List.mem_cons_of_mem _ hz)) h3
    exact ⟨rfl, h4⟩

/-- A list of at most k things of D. -/
def LD {α : Type} (k : Nat) (D : α → Prop) (l : List α) : Prop := l.length ≤ k ∧ ∀ x ∈ l, D x

theorem pf_list {α : Type} {f : α → List Int} {D : α → Prop} (hf : PF f D) (k : Nat) : PF (listB f) (LD k D) := fun l l' r s h1 h2 h => by
  unfold listB at h
  rw [List.append_assoc, List.append_assoc] at h
  obtain ⟨h3, h4⟩ := bytes_pf h
  exact flat_pf hf l l' r s h3 h1.2 h2.2 h4

theorem pf_step : PF stepB TOK := fun x y r s hx hy h => by
  obtain ⟨x1, x2, x3⟩ := x
  obtain ⟨y1, y2, y3⟩ := y
  unfold stepB at h
  simp only [List.append_assoc] at h
  obtain ⟨e1, h1⟩ := pf_one _ _ _ _ hx.op hy.op h
  obtain ⟨e2, h2⟩ := pf_one _ _ _ _ hx.int hy.int h1
  obtain ⟨e3, h3⟩ := pf_str _ _ _ _ trivial trivial h2
  refine ⟨?_, h3⟩
  simp only at e1 e2 e3
  rw [e1, e2, e3]

theorem pf_steps : PF stepsB (LD 64 TOK) := pf_list pf_step 64
theorem pf_exprs : PF exprsB (LD 16 (LD 64 TOK)) := pf_list pf_steps 16
theorem pf_nums (k : Nat) : PF numsB (LD k R64) := pf_list pf_one k

theorem pf_node : PF nodeB NdOK := fun x y r s hx hy h => by
  unfold nodeB at h
  simp only [List.append_assoc] at h
  obtain ⟨e0, h⟩ := pf_one _ _ _ _ hx.kind hy.kind h
  obtain ⟨e1, h⟩ := pf_nums 8 _ _ _ _ ⟨hx.n1, hx.ins⟩ ⟨hy.n1, hy.ins⟩ h
  obtain ⟨e2, h⟩ := pf_nums 16 _ _ _ _ ⟨hx.n2, hx.kinds⟩ ⟨hy.n2, hy.kinds⟩ h
  obtain ⟨e3, h⟩ := pf_exprs _ _ _ _ ⟨hx.n3, hx.exprs⟩ ⟨hy.n3, hy.exprs⟩ h
  obtain ⟨e4, h⟩ := pf_nums 16 _ _ _ _ ⟨hx.n4, hx.cols⟩ ⟨hy.n4, hy.cols⟩ h
  obtain ⟨e5, h⟩ := pf_one _ _ _ _ hx.key hy.key h
  obtain ⟨e6, h⟩ := pf_one _ _ _ _ hx.n hy.n h
  obtain ⟨e7, h⟩ := pf_one _ _ _ _ hx.size hy.size h
  obtain ⟨e8, h⟩ := pf_one _ _ _ _ hx.slide hy.slide h
  refine ⟨?_, h⟩
  cases x
  cases y
  simp only at e0 e1 e2 e3 e4 e5 e6 e7 e8
  subst e0 e1 e2 e3 e4 e5 e6 e7 e8
  rfl

theorem pf_plan : PF planB PlOK := fun x y r s hx hy h => by
  unfold planB at h
  simp only [List.append_assoc] at h
  have h := List.append_cancel_left h
  obtain ⟨e0, h⟩ := pf_one _ _ _ _ hx.room hy.room h
  obtain ⟨e1, h⟩ := pf_nums 8 _ _ _ _ ⟨hx.m2, hx.outs⟩ ⟨hy.m2, hy.outs⟩ h
  obtain ⟨e2, h⟩ := pf_list pf_node 64 _ _ _ _ ⟨hx.m1, hx.nodes⟩ ⟨hy.m1, hy.nodes⟩ h
  refine ⟨?_, h⟩
  cases x
  cases y
  simp only at e0 e1 e2
  subst e0 e1 e2
  rfl

/-- What a reader makes of the bytes that are left (none: something was wrong): it reads x, and leaves the rest; or nothing of D stands there. -/
def Rd {α : Type} (f : α → List Int) (D : α → Prop) (s : Option (List Int)) (x : α) (s' : Option (List Int)) : Prop :=
  match s, s' with
  | none, none => True
  | none, some _ => False
  | some r, some r' => D x ∧ r = f x ++ r'
  | some r, none => ∀ y r', D y → r ≠ f y ++ r'

theorem Rd.bad {α : Type} {f : α → List Int} {D : α → Prop} {x : α} {s' : Option (List Int)} (h : Rd f D none x s') : s' = none := by
  cases s' with
  | none => rfl
  | some _ => exact h.elim

/-- One behind the other. -/
theorem Rd.seq {α β γ : Type} {f : α → List Int} {g : β → List Int} {h : γ → List Int} {D : α → Prop} {E : β → Prop} {F : γ → Prop} (hf : PF f D) {s s1 s2 : Option (List Int)} {x : α} {y : β} {z : γ} (p1 : γ → α) (p2 : γ → β) (hD : ∀ c, F c → D (p1 c)) (hE : ∀ c, F c → E (p2 c)) (hh : ∀ c, h c = f (p1 c) ++ g (p2 c))
    (hz1 : p1 z = x) (hz2 : p2 z = y) (hF : D x → E y → F z) (h1 : Rd f D s x s1) (h2 : Rd g E s1 y s2) : Rd h F s z s2 := by
  cases s with
  | none =>
    have e := h1.bad
    subst e
    have e := h2.bad
    subst e
    trivial
  | some r =>
    cases s1 with
    | none =>
      have e := h2.bad
      subst e
      intro c r' hc e
      rw [hh, List.append_assoc] at e
      exact h1 (p1 c) _ (hD c hc) e
    | some r1 =>
      obtain ⟨d1, e1⟩ := h1
      cases s2 with
      | none =>
        intro c r' hc e
        rw [hh, List.append_assoc, e1] at e
        obtain ⟨_, e3⟩ := hf _ _ _ _ d1 (hD c hc) e
        exact h2 (p2 c) _ (hE c hc) e3
      | some r2 =>
        obtain ⟨d2, e2⟩ := h2
        refine ⟨hF d1 d2, ?_⟩
        rw [hh, hz1, hz2, List.append_assoc, e1, e2]

/-- Some of a list of n things have been read. -/
def RdL {α : Type} (f : α → List Int) (D : α → Prop) (k n : Nat) (s : Option (List Int)) (xs : List α) (s' : Option (List Int)) : Prop :=
  match s, s' with
  | none, none => True
  | none, some _ => False
  | some r, some r' => n ≤ k ∧ (∀ x ∈ xs, D x) ∧ r = bytesOf n ++ (xs.flatMap f ++ r')
  | some r, none => ∀ l r', LD k D l → r ≠ listB f l ++ r'

theorem RdL.start {α : Type} {f : α → List Int} {D : α → Prop} {k n : Nat} {s s1 : Option (List Int)} (h : Rd bytesOf (fun m => m ≤ k) s n s1) : RdL f D k n s [] s1 := by
  cases s with
  | none => rw [h.bad]; trivial
  | some r =>
    cases s1 with
    | none =>
      intro l r' hl e
      unfold listB at e
      rw [List.append_assoc] at e
      exact h _ _ hl.1 e
    | some r1 => exact ⟨h.1, by simp, by simpa using h.2⟩

theorem RdL.push {α : Type} {f : α → List Int} {D : α → Prop} (hf : PF f D) {k n : Nat} {s s1 s2 : Option (List Int)} {xs : List α} {x : α} (hx : xs.length < n) (h : RdL f D k n s xs s1) (h2 : Rd f D s1 x s2) : RdL f D k n s (xs ++ [x]) s2 := by
  cases s with
  | none =>
    cases s1 with
    | none => rw [h2.bad]; trivial
    | some _ => exact h.elim
  | some r =>
    cases s1 with
    | none => rw [h2.bad]; exact h
    | some r1 =>
      obtain ⟨a1, a2, a3⟩ := h
      cases s2 with
      | none =>
        intro l r' hl e
        rw [a3] at e
        unfold listB at e
        rw [List.append_assoc] at e
        obtain ⟨e1, e2⟩ := bytes_pf e
        have el : l = l.take xs.length ++ l.drop xs.length := (List.take_append_drop _ _).symm
        have hlt : xs.length < l.length := by omega
        rw [List.drop_eq_getElem_cons hlt] at el
        rw [el, List.flatMap_append, List.flatMap_cons, List.append_assoc, List.append_assoc] at e2
        obtain ⟨_, e4⟩ := flat_pf hf xs (l.take xs.length) _ _ (by rw [List.length_take]; omega) a2 (fun y hy => hl.2 y (List.mem_of_mem_take hy)) e2
        exact h2 _ _ (hl.2 _ (List.getElem_mem hlt)) e4
      | some r2 =>
        obtain ⟨b1, b2⟩ := h2
        refine ⟨a1, fun y hy => ?_, ?_⟩
        · rcases List.mem_append.1 hy with hy | hy
          · exact a2 y hy
          · simp at hy; subst hy; exact b1
        · rw [a3, b2]; simp

theorem RdL.done {α : Type} {f : α → List Int} {D : α → Prop} {k n : Nat} {s s1 : Option (List Int)} {xs : List α} (h : RdL f D k n s xs s1) (hn : s1 = none ∨ xs.length = n) : Rd (listB f) (LD k D) s xs s1 := by
  cases s with
  | none =>
    cases s1 with
    | none => trivial
    | some _ => exact h.elim
  | some r =>
    cases s1 with
    | none => exact h
    | some r1 =>
      obtain ⟨a1, a2, a3⟩ := h
      rcases hn with hn | hn
      · cases hn
      · subst hn
        refine ⟨⟨a1, a2⟩, ?_⟩
        unfold listB
        rw [List.append_assoc]
        exact a3

end Go.Proofs.Ytjpjeledbjpaeaa
