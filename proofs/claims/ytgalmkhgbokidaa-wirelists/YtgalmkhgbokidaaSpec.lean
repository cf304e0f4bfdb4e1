/-
  What is proved here: plain facts (no Go text is named): the bytes of rows, frontiers and commands; which may be told; that bytes tell the thing and what comes behind.
-/
import Derived.Test.YtgalmkhgbokidaaBase
namespace Go.Proofs.Ytgalmkhgbokidaa
set_option linter.unusedVariables false
set_option linter.unusedSimpArgs false

/-- A number's bytes. -/
def oneB (z : Int) : List Int := bytesOf (zig z).toNat

/-- How many there are, and each. -/
def listB {α : Type} (f : α → List Int) (l : List α) : List Int := bytesOf l.length ++ l.flatMap f

def strB (s : ByteArray) : List Int := bytesOf s.size ++ nums s
def shB (l : List Int) : List Int := bytesOf l.length ++ l
def valB (v : V) : List Int := v.1 :: (if v.1 = 1 then strB v.2.2 else oneB v.2.1)
def rowB (l : List V) : List Int := listB valB l
def timeB (t : T) : List Int := oneB t.1 ++ oneB t.2
def frontB (l : List T) : List Int := listB timeB l
def tailB (c : Cm) : List Int := if c.op = 1 then rowB c.row ++ (timeB c.time ++ oneB c.diff) else if c.op = 2 ∨ c.op = 4 then frontB c.front else if c.op = 3 then oneB c.fuel else if c.op = 5 then timeB c.time else []
def cmdB (c : Cm) : List Int := c.op :: (if c.op = 0 then shB c.sheet else oneB c.node ++ tailB c)

/-- Which fields a command uses. -/
def mask (d : Int) : Int := if d = 0 then 4 else if d = 1 then 57 else if d = 2 ∨ d = 4 then 65 else if d = 3 then 3 else if d = 5 then 17 else if d = 6 then 1 else 0

/-- What a command uses. -/
def plain (c : Cm) : Cm :=
  ⟨c.op, if 1 ≤ c.op ∧ c.op ≤ 6 then c.node else 0, if c.op = 1 then c.row else [], if c.op = 1 ∨ c.op = 5 then c.time else (0, 0), if c.op = 1 then c.diff else 0, if c.op = 2 ∨ c.op = 4 then c.front else [], if c.op = 3 then c.fuel else 0, if c.op = 0 then c.sheet else []⟩

/-- row.Check. -/
def chkV (v : V) : Int := if v.1 = 1 then (if 4096 < v.2.2.size then 2 else 0) else if v.1 = 0 then 0 else 8
def chkL : List V → Int
  | [] => 0
  | v :: l => if chkV v = 0 then chkL l else chkV v
def chkR (l : List V) : Int := if 16 < l.length then 3 else chkL l

/-- May it be told? -/
def chk (c : Cm) : Int :=
  if c.op < 0 ∨ 6 < c.op then 8 else if c.op = 0 then (if 65536 < c.sheet.length then 2 else 0) else if c.op = 2 ∨ c.op = 4 then (if 16 < c.front.length then 3 else 0) else if c.op = 1 then chkR c.row else 0

/-- A value as bytes tell it: the field that plays no part is nothing. -/
def norm (v : V) : V := if v.1 = 1 then (1, 0, v.2.2) else (v.1, v.2.1, ⟨#[]⟩)
def normC (c : Cm) : Cm := { plain c with row := (plain c).row.map norm }

/-- Values that bytes tell. -/
def VN (v : V) : Prop := (v.1 = 0 ∧ R64 v.2.1 ∧ v.2.2 = ⟨#[]⟩) ∨ (v.1 = 1 ∧ v.2.1 = 0 ∧ v.2.2.size ≤ 4096)

/-- All of a list are bytes. -/
def Byt (l : List Int) : Prop := ∀ z ∈ l, 0 ≤ z ∧ z < 256

/-- A list of at most k things of D. -/
def LD {α : Type} (k : Nat) (D : α → Prop) (l : List α) : Prop := l.length ≤ k ∧ ∀ x ∈ l, D x

def SN (l : List Int) : Prop := l.length ≤ 65536 ∧ Byt l

/-- Commands that bytes tell. -/
structure Nice (c : Cm) : Prop where
  lo : 0 ≤ c.op
  hi : c.op ≤ 6
  pl : plain c = c
  node : R64 c.node
  diff : R64 c.diff
  fuel : R64 c.fuel
  time : RT c.time
  front : LD 16 RT c.front
  row : LD 16 VN c.row
  sheet : SN c.sheet

theorem r64_0 : R64 0 := by unfold R64; omega

theorem Nice.num {c : Cm} (h : Nice c) : CmN c := by
  refine ⟨?_, h.node, h.diff, h.fuel, h.time, h.front.2, fun v hv => ?_⟩
  · have := h.lo; have := h.hi; unfold R64; omega
  · rcases h.row.2 v hv with ⟨h1, h2, _⟩ | ⟨h1, h2, _⟩
    · exact ⟨by rw [h1]; exact r64_0, h2⟩
    · exact ⟨by rw [h1]; unfold R64; omega, by rw [h2]; exact r64_0⟩

theorem Byt.app {l r : List Int} (h : Byt l) (k : Byt r) : Byt (l ++ r) := fun z hz => by
  rcases List.mem_append.1 hz with hz | hz
  · exact h z hz
  · exact k z hz
theorem Byt.cons {x : Int} {r : List Int} (h : 0 ≤ x ∧ x < 256) (k : Byt r) : Byt (x :: r) := fun z hz => by
  rcases List.mem_cons.1 hz with rfl | hz
  · exact h
  · exact k z hz
theorem Byt.nil : Byt [] := fun z hz => by simp at hz
theorem byt_num (n : Nat) : Byt (bytesOf n) := bytesOf_range _
theorem byt_one (z : Int) : Byt (oneB z) := bytesOf_range _
theorem byt_list {α : Type} (f : α → List Int) (l : List α) (h : ∀ x ∈ l, Byt (f x)) : Byt (listB f l) := (byt_num _).app fun z hz => by
  obtain ⟨x, h1, hx⟩ := List.mem_flatMap.1 hz
  exact h x h1 z hx
theorem byt_time (t : T) : Byt (timeB t) := (byt_one _).app (byt_one _)
theorem byt_front (l : List T) : Byt (frontB l) := byt_list _ _ fun t _ => byt_time t
theorem byt_str (s : ByteArray) : Byt (strB s) := (byt_num _).app (nums_range _)
theorem byt_val (v : V) (h : chkV v = 0) : Byt (valB v) := by
  unfold valB chkV at *
  by_cases h1 : v.1 = 1
  · rw [if_pos h1, h1]
    exact Byt.cons (by omega) (byt_str _)
  · rw [if_neg h1] at h ⊢
    by_cases h0 : v.1 = 0
    · rw [h0]; exact Byt.cons (by omega) (byt_one _)
    · rw [if_neg h0] at h; omega

theorem chkL_all {l : List V} (h : chkL l = 0) : ∀ v ∈ l, chkV v = 0 := by
  induction l with
  | nil => intro v hv; simp at hv
  | cons x l ih =>
    intro v hv
    unfold chkL at h
    by_cases hx : chkV x = 0
    · rw [if_pos hx] at h
      rcases List.mem_cons.1 hv with rfl | hv
      · exact hx
      · exact ih h v hv
    · rw [if_neg hx] at h; exact absurd h hx

theorem chkL_of {l : List V} (h : ∀ v ∈ l, chkV v = 0) : chkL l = 0 := by
  induction l with
  | nil => rfl
  | cons x l ih => unfold chkL; rw [if_pos (h x (by simp))]; exact ih fun v hv => h v (List.mem_cons_of_mem _ hv)

theorem chkR_ok {l : List V} (h : chkR l = 0) : l.length ≤ 16 ∧ ∀ v ∈ l, chkV v = 0 := by
  unfold chkR at h
  by_cases h1 : 16 < l.length
  · rw [if_pos h1] at h; omega
  · rw [if_neg h1] at h; exact ⟨by omega, chkL_all h⟩

theorem byt_row (l : List V) (h : chkR l = 0) : Byt (rowB l) := byt_list _ _ fun v hv => byt_val v ((chkR_ok h).2 v hv)

/-! What may be told is told by bytes. -/
theorem chkV_norm {v : V} (h : chkV v = 0) (hr : R64 v.2.1) : VN (norm v) := by
  unfold chkV at h
  unfold VN norm
  by_cases h1 : v.1 = 1
  · rw [if_pos h1] at h ⊢
    right
    refine ⟨rfl, rfl, ?_⟩
    show v.2.2.size ≤ 4096
    split at h <;> omega
  · rw [if_neg h1] at h ⊢
    by_cases h0 : v.1 = 0
    · exact .inl ⟨h0, hr, rfl⟩
    · rw [if_neg h0] at h; omega

theorem valB_norm (v : V) : valB (norm v) = valB v := by
  unfold valB norm
  by_cases h1 : v.1 = 1
  · simp [h1]
  · simp [h1]

theorem rowB_norm (l : List V) : rowB (l.map norm) = rowB l := by
  unfold rowB listB
  rw [List.length_map, List.flatMap_map]
  congr 1
  congr 1
  funext v
  exact valB_norm v

theorem op_cases {d : Int} (h0 : 0 ≤ d) (h1 : d ≤ 6) : d = 0 ∨ d = 1 ∨ d = 2 ∨ d = 3 ∨ d = 4 ∨ d = 5 ∨ d = 6 := by omega

theorem chk_lo {c : Cm} (h : chk c = 0) : 0 ≤ c.op ∧ c.op ≤ 6 := by
  unfold chk at h
  by_cases h1 : c.op < 0 ∨ 6 < c.op
  · rw [if_pos h1] at h; omega
  · omega

theorem plain_plain (c : Cm) : plain (plain c) = plain c := by
  unfold plain
  simp only [Cm.mk.injEq, true_and]
  refine ⟨?_, ?_, ?_, ?_, ?_, ?_, ?_⟩ <;> split <;> simp_all

theorem chk_sheet {c : Cm} (h : chk c = 0) (h0 : c.op = 0) : c.sheet.length ≤ 65536 := by
  unfold chk at h; rw [h0] at h; simp at h; omega
theorem chk_front {c : Cm} (h : chk c = 0) (h0 : c.op = 2 ∨ c.op = 4) : c.front.length ≤ 16 := by
  unfold chk at h; rcases h0 with h0 | h0 <;> rw [h0] at h <;> simp at h <;> omega
theorem chk_row {c : Cm} (h : chk c = 0) (h0 : c.op = 1) : chkR c.row = 0 := by
  unfold chk at h; rw [h0] at h; simpa using h

theorem normC_nice {c : Cm} (h : chk c = 0) (hn : CmN c) (hb : Byt c.sheet) : Nice (normC c) := by
  obtain ⟨l0, l1⟩ := chk_lo h
  refine ⟨l0, l1, ?_, ?_, ?_, ?_, ?_, ?_, ?_, ?_⟩
  · unfold normC plain
    simp only [Cm.mk.injEq, true_and]
    refine ⟨?_, ?_, ?_, ?_, ?_, ?_, ?_⟩ <;> split <;> simp_all
  · show R64 (if _ then _ else _); split; exact hn.node; exact r64_0
  · show R64 (if _ then _ else _); split; exact hn.diff; exact r64_0
  · show R64 (if _ then _ else _); split; exact hn.fuel; exact r64_0
  · show RT (if _ then _ else _); split; exact hn.time; exact ⟨r64_0, r64_0⟩
  · show LD 16 RT (if _ then _ else _)
    split
    · rename_i h0; exact ⟨chk_front h h0, hn.front⟩
    · exact ⟨by simp, by simp⟩
  · show LD 16 VN (List.map norm (if _ then _ else _))
    split
    · rename_i h0
      obtain ⟨a1, a2⟩ := chkR_ok (chk_row h h0)
      refine ⟨by rw [List.length_map]; exact a1, fun v hv => ?_⟩
      obtain ⟨u, hu, rfl⟩ := List.mem_map.1 hv
      exact chkV_norm (a2 u hu) (hn.row u hu).2
    · exact ⟨by simp, by simp⟩
  · show SN (if _ then _ else _)
    split
    · rename_i h0; exact ⟨chk_sheet h h0, hb⟩
    · exact ⟨by simp, Byt.nil⟩

theorem cmdB_norm {c : Cm} (h : chk c = 0) : cmdB (normC c) = cmdB c := by
  obtain ⟨l0, l1⟩ := chk_lo h
  obtain ⟨op, node, row, time, diff, front, fuel, sheet⟩ := c
  simp only at l0 l1
  rcases op_cases l0 l1 with rfl | rfl | rfl | rfl | rfl | rfl | rfl <;> simp [cmdB, tailB, normC, plain, rowB_norm]

theorem byt_cmd {c : Cm} (h : chk c = 0) (hb : Byt c.sheet) : Byt (cmdB c) := by
  obtain ⟨l0, l1⟩ := chk_lo h
  unfold cmdB
  refine Byt.cons (by omega) ?_
  split
  · exact (byt_num _).app hb
  · refine (byt_one _).app ?_
    unfold tailB
    split
    · rename_i h0; exact (byt_row _ (chk_row h h0)).app ((byt_time _).app (byt_one _))
    · split
      · exact byt_front _
      · split
        · exact byt_one _
        · split
          · exact byt_time _
          · exact Byt.nil

/-! Lengths. -/
theorem zig_small {z : Int} (h : R64 z) : (zig z).toNat < 18446744073709551616 := by
  have := zig_range z h.1 h.2
  omega

theorem len_one {z : Int} (h : R64 z) : (oneB z).length ≤ 10 := by
  unfold oneB
  rw [length_bytesOf]
  exact sz_le_ten _ (zig_small h)

theorem len_flat {α : Type} (f : α → List Int) (m : Nat) : ∀ l : List α, (∀ x ∈ l, (f x).length ≤ m) → (l.flatMap f).length ≤ l.length * m
  | [], _ => by simp
  | x :: l, h => by
    rw [List.flatMap_cons, List.length_append, List.length_cons, Nat.add_mul]
    have h1 := h x (by simp)
    have h2 := len_flat f m l fun y hy => h y (List.mem_cons_of_mem _ hy)
    omega

theorem len_list {α : Type} (f : α → List Int) (m k : Nat) (l : List α) (hk : l.length ≤ k) (hk1 : k ≤ 1000000000) (h : ∀ x ∈ l, (f x).length ≤ m) : (listB f l).length ≤ 10 + k * m := by
  unfold listB
  have h1 := len_flat f m l h
  have h2 := sz_le_ten l.length (by omega)
  have h3 : l.length * m ≤ k * m := Nat.mul_le_mul_right _ hk
  rw [List.length_append, length_bytesOf]
  omega

theorem len_time {t : T} (h : RT t) : (timeB t).length ≤ 20 := by
  have h1 := len_one h.1
  have h2 := len_one h.2
  unfold timeB
  rw [List.length_append]; omega

theorem len_str {s : ByteArray} (h : s.size ≤ 1000000) : (strB s).length ≤ s.size + 10 := by
  have := sz_le_ten s.size (by omega)
  unfold strB
  rw [List.length_append, length_bytesOf, nums_length]; omega

theorem len_val {v : V} (h : chkV v = 0) (hr : R64 v.2.1) : (valB v).length ≤ 4107 := by
  unfold valB chkV at *
  by_cases h1 : v.1 = 1
  · rw [if_pos h1] at h ⊢
    have h2 : v.2.2.size ≤ 4096 := by split at h <;> omega
    have := len_str (s := v.2.2) (by omega)
    rw [List.length_cons]; omega
  · rw [if_neg h1]
    have := len_one hr
    rw [List.length_cons]; omega

theorem len_row {l : List V} (h : chkR l = 0) (hr : ∀ v ∈ l, R64 v.1 ∧ R64 v.2.1) : (rowB l).length ≤ 65722 := by
  obtain ⟨h1, h2⟩ := chkR_ok h
  have := len_list valB 4107 16 l h1 (by omega) fun v hv => len_val (h2 v hv) (hr v hv).2
  unfold rowB; omega

theorem len_front {l : List T} {k : Nat} (hk : l.length ≤ k) (hk1 : k ≤ 1000000) (hr : ∀ t ∈ l, RT t) : (frontB l).length ≤ 10 + k * 20 := len_list timeB 20 k l hk (by omega) fun t ht => len_time (hr t ht)

theorem len_cmd {c : Cm} (h : chk c = 0) (hn : CmN c) : (cmdB c).length ≤ 66000 := by
  have hnode := len_one hn.node
  have hdiff := len_one hn.diff
  have hfuel := len_one hn.fuel
  have htime := len_time hn.time
  unfold cmdB
  rw [List.length_cons]
  split
  · rename_i h0
    have := chk_sheet h h0
    have := sz_le_ten c.sheet.length (by omega)
    unfold shB
    rw [List.length_append, length_bytesOf]; omega
  · unfold tailB
    rw [List.length_append]
    split
    · rename_i h0
      have := len_row (chk_row h h0) hn.row
      rw [List.length_append, List.length_append]; omega
    · split
      · rename_i h0
        have := len_front (chk_front h h0) (by omega) hn.front
        omega
      · split
        · omega
        · split
          · omega
          · simp; omega

/-! Bytes tell the thing and what comes behind. -/
def PF {α : Type} (f : α → List Int) (D : α → Prop) : Prop := ∀ x y r s, D x → D y → f x ++ r = f y ++ s → x = y ∧ r = s

theorem take_app {a r : List Int} : (a ++ r).take a.length = a := by simp

theorem bytes_pf {n m : Nat} {r s : List Int} (h : bytesOf n ++ r = bytesOf m ++ s) : n = m ∧ r = s := by
  have e := form_prefix_eq (bytesOf n) (bytesOf m) (bytesOf n ++ r) (bytesOf_form n) (bytesOf_form m) take_app (by rw [h]; exact take_app)
  have e2 := bytesOf_inj e
  subst e2
  exact ⟨rfl, List.append_cancel_left h⟩

theorem pf_cnt : PF bytesOf (fun _ => True) := fun n m r s _ _ h => bytes_pf h

theorem zig_inj {x y : Int} (h : (zig x).toNat = (zig y).toNat) : x = y := by
  have hx : 0 ≤ zig x := by unfold zig; split <;> omega
  have hy : 0 ≤ zig y := by unfold zig; split <;> omega
  have e : zig x = zig y := by omega
  have := congrArg unzig e
  rwa [unzig_zig, unzig_zig] at this

theorem pf_one : PF oneB R64 := fun x y r s _ _ h => by
  obtain ⟨h1, h2⟩ := bytes_pf h
  exact ⟨zig_inj h1, h2⟩

theorem nums_inj {s t : ByteArray} (h : nums s = nums t) : s = t := by
  rw [← str_nums s, h, str_nums]

theorem pf_str : PF strB (fun _ => True) := fun x y r s _ _ h => by
  unfold strB at h
  rw [List.append_assoc, List.append_assoc] at h
  obtain ⟨h1, h2⟩ := bytes_pf h
  have h3 : (nums x).length = (nums y).length := by rw [nums_length, nums_length, h1]
  obtain ⟨h4, h5⟩ := List.append_inj h2 h3
  exact ⟨nums_inj h4, h5⟩

theorem pf_sh : PF shB (fun _ => True) := fun x y r s _ _ h => by
  unfold shB at h
  rw [List.append_assoc, List.append_assoc] at h
  obtain ⟨h1, h2⟩ := bytes_pf h
  exact List.append_inj h2 h1

theorem flat_pf {α : Type} {f : α → List Int} {D : α → Prop} (hf : PF f D) : ∀ (l l' : List α) (r s : List Int), l.length = l'.length → (∀ x ∈ l, D x) → (∀ x ∈ l', D x) → l.flatMap f ++ r = l'.flatMap f ++ s → l = l' ∧ r = s
  | [], [], r, s, _, _, _, h => ⟨rfl, by simpa using h⟩
  | [], _ :: _, r, s, hl, _, _, _ => by simp at hl
  | _ :: _, [], r, s, hl, _, _, _ => by simp at hl
  | x :: l, y :: l', r, s, hl, h1, h2, h => by
    rw [List.flatMap_cons, List.flatMap_cons, List.append_assoc, List.append_assoc] at h
    obtain ⟨rfl, h3⟩ := hf x y _ _ (h1 x (by simp)) (h2 y (by simp)) h
    obtain ⟨rfl, h4⟩ := flat_pf hf l l' r s (by simpa using hl) (fun z hz => h1 z (List.mem_cons_of_mem _ hz)) (fun z hz => h2 z (List.mem_cons_of_mem _ hz)) h3
    exact ⟨rfl, h4⟩

theorem pf_list {α : Type} {f : α → List Int} {D : α → Prop} (hf : PF f D) (k : Nat) : PF (listB f) (LD k D) := fun l l' r s h1 h2 h => by
  unfold listB at h
  rw [List.append_assoc, List.append_assoc] at h
  obtain ⟨h3, h4⟩ := bytes_pf h
  exact flat_pf hf l l' r s h3 h1.2 h2.2 h4

theorem pf_val : PF valB VN := fun x y r s hx hy h => by
  obtain ⟨x1, x2, x3⟩ := x
  obtain ⟨y1, y2, y3⟩ := y
  unfold valB at h
  simp only [List.cons_append, List.cons.injEq] at h
  obtain ⟨e1, h⟩ := h
  subst e1
  unfold VN at hx hy
  simp only at hx hy
  by_cases h1 : x1 = 1
  · subst h1
    simp only [if_pos] at h
    obtain ⟨e3, h3⟩ := pf_str _ _ _ _ trivial trivial h
    refine ⟨?_, h3⟩
    have a : x2 = 0 := by rcases hx with ⟨a, _⟩ | ⟨_, a, _⟩; omega; exact a
    have b : y2 = 0 := by rcases hy with ⟨a, _⟩ | ⟨_, a, _⟩; omega; exact a
    rw [a, b, e3]
  · rw [if_neg h1, if_neg h1] at h
    obtain ⟨_, a1, a2⟩ : x1 = 0 ∧ R64 x2 ∧ x3 = ⟨#[]⟩ := by rcases hx with a | ⟨a, _⟩; exact a; exact absurd a h1
    obtain ⟨_, b1, b2⟩ : x1 = 0 ∧ R64 y2 ∧ y3 = ⟨#[]⟩ := by rcases hy with a | ⟨a, _⟩; exact a; exact absurd a h1
    obtain ⟨e2, h2⟩ := pf_one _ _ _ _ a1 b1 h
    exact ⟨by rw [e2, a2, b2], h2⟩

theorem pf_time : PF timeB RT := fun x y r s hx hy h => by
  obtain ⟨x1, x2⟩ := x
  obtain ⟨y1, y2⟩ := y
  unfold timeB at h
  simp only [List.append_assoc] at h
  obtain ⟨e1, h1⟩ := pf_one _ _ _ _ hx.1 hy.1 h
  obtain ⟨e2, h2⟩ := pf_one _ _ _ _ hx.2 hy.2 h1
  simp only at e1 e2
  exact ⟨by rw [e1, e2], h2⟩

theorem pf_row : PF rowB (LD 16 VN) := pf_list pf_val 16
theorem pf_front : PF frontB (LD 16 RT) := pf_list pf_time 16

theorem pf_cmd : PF cmdB Nice := fun x y r s hx hy h => by
  have px := hx.pl
  have py := hy.pl
  have l0 := hx.lo
  have l1 := hx.hi
  obtain ⟨xo, xn, xr, xt, xd, xf, xu, xs⟩ := x
  obtain ⟨yo, yn, yr, yt, yd, yf, yu, ys⟩ := y
  unfold cmdB tailB at h
  simp only [List.cons_append, List.cons.injEq] at h
  obtain ⟨e1, h⟩ := h
  simp only at e1 h l0 l1
  subst e1
  rw [← px, ← py]
  unfold plain
  simp only
  have nn := pf_one xn yn
  rcases op_cases l0 l1 with rfl | rfl | rfl | rfl | rfl | rfl | rfl
  · simp only [if_true] at h
    obtain ⟨e, h⟩ := pf_sh _ _ _ _ trivial trivial h
    exact ⟨by simp [e], h⟩
  · simp [List.append_assoc] at h
    obtain ⟨e2, h⟩ := pf_one _ _ _ _ hx.node hy.node h
    obtain ⟨e3, h⟩ := pf_row _ _ _ _ hx.row hy.row h
    obtain ⟨e4, h⟩ := pf_time _ _ _ _ hx.time hy.time h
    obtain ⟨e5, h⟩ := pf_one _ _ _ _ hx.diff hy.diff h
    simp only at e2 e3 e4 e5
    exact ⟨by simp [e2, e3, e4, e5], h⟩
  · simp [List.append_assoc] at h
    obtain ⟨e2, h⟩ := pf_one _ _ _ _ hx.node hy.node h
    obtain ⟨e3, h⟩ := pf_front _ _ _ _ hx.front hy.front h
    simp only at e2 e3
    exact ⟨by simp [e2, e3], h⟩
  · simp [List.append_assoc] at h
    obtain ⟨e2, h⟩ := pf_one _ _ _ _ hx.node hy.node h
    obtain ⟨e3, h⟩ := pf_one _ _ _ _ hx.fuel hy.fuel h
    simp only at e2 e3
    exact ⟨by simp [e2, e3], h⟩
  · simp [List.append_assoc] at h
    obtain ⟨e2, h⟩ := pf_one _ _ _ _ hx.node hy.node h
    obtain ⟨e3, h⟩ := pf_front _ _ _ _ hx.front hy.front h
    simp only at e2 e3
    exact ⟨by simp [e2, e3], h⟩
  · simp [List.append_assoc] at h
    obtain ⟨e2, h⟩ := pf_one _ _ _ _ hx.node hy.node h
    obtain ⟨e3, h⟩ := pf_time _ _ _ _ hx.time hy.time h
    simp only at e2 e3
    exact ⟨by simp [e2, e3], h⟩
  · simp [List.append_assoc] at h
    obtain ⟨e2, h⟩ := pf_one _ _ _ _ hx.node hy.node h
    simp only at e2
    exact ⟨by simp [e2], h⟩

/-! Readers. -/

/-- What a reader makes of the bytes that are left (none: something was wrong): it reads x, and leaves the rest; or nothing of D stands there. -/
def Rd {α : Type} (f : α → List Int) (D : α → Prop) (s : Option (List Int)) (x : α) (s' : Option (List Int)) : Prop :=
  match s, s' with
  | none, none => True
  | none, some _ => False
  | some r, some r' => D x ∧ r = f x ++ r'
  | some r, none => ∀ y r', D y → r ≠ f y ++ r'

theorem Rd.bad {α : Type} {f : α → List Int} {D : α → Prop} {x : α} {s' : Option (List Int)} (h : Rd f D none x s') : s' = none := by
  cases s' with
  | none => rfl
  | some _ => exact h.elim

/-- One behind the other. -/
theorem Rd.seq {α β γ : Type} {f : α → List Int} {g : β → List Int} {h : γ → List Int} {D : α → Prop} {E : β → Prop} {F : γ → Prop} (hf : PF f D) {s s1 s2 : Option (List Int)} {x : α} {y : β} {z : γ} (p1 : γ → α) (p2 : γ → β) (hD : ∀ c, F c → D (p1 c)) (hE : ∀ c, F c → E (p2 c)) (hh : ∀ c, F c → h c = f (p1 c) ++ g (p2 c))
    (hz1 : p1 z = x) (hz2 : p2 z = y) (hF : D x → E y → F z) (h1 : Rd f D s x s1) (h2 : Rd g E s1 y s2) : Rd h F s z s2 := by
  cases s with
  | none =>
    have e := h1.bad
    subst e
    have e := h2.bad
    subst e
    trivial
  | some r =>
    cases s1 with
    | none =>
      have e := h2.bad
      subst e
      intro c r' hc e
      rw [hh c hc, List.append_assoc] at e
      exact h1 (p1 c) _ (hD c hc) e
    | some r1 =>
      obtain ⟨d1, e1⟩ := h1
      cases s2 with
      | none =>
        intro c r' hc e
        rw [hh c hc, List.append_assoc, e1] at e
        obtain ⟨_, e3⟩ := hf _ _ _ _ d1 (hD c hc) e
        exact h2 (p2 c) _ (hE c hc) e3
      | some r2 =>
        obtain ⟨d2, e2⟩ := h2
        have hz := hF d1 d2
        refine ⟨hz, ?_⟩
        rw [hh z hz, hz1, hz2, List.append_assoc, e1, e2]

/-- The same thing under another name. -/
theorem Rd.as {α β : Type} {f : α → List Int} {g : β → List Int} {D : α → Prop} {E : β → Prop} {s s1 : Option (List Int)} {x : α} {y : β} (p : β → α) (hD : ∀ c, E c → D (p c) ∧ g c = f (p c)) (hz : p y = x) (hE : D x → E y) (h : Rd f D s x s1) : Rd g E s y s1 := by
  cases s with
  | none => rw [h.bad]; trivial
  | some r =>
    cases s1 with
    | none =>
      intro c r' hc e
      rw [(hD c hc).2] at e
      exact h (p c) r' (hD c hc).1 e
    | some r1 =>
      have hy := hE h.1
      refine ⟨hy, ?_⟩
      rw [(hD y hy).2, hz]
      exact h.2

/-- Some of a list of n things have been read. -/
def RdL {α : Type} (f : α → List Int) (D : α → Prop) (k n : Nat) (s : Option (List Int)) (xs : List α) (s' : Option (List Int)) : Prop :=
  match s, s' with
  | none, none => True
  | none, some _ => False
  | some r, some r' => n ≤ k ∧ (∀ x ∈ xs, D x) ∧ r = bytesOf n ++ (xs.flatMap f ++ r')
  | some r, none => ∀ l r', LD k D l → r ≠ listB f l ++ r'

theorem RdL.start {α : Type} {f : α → List Int} {D : α → Prop} {k n : Nat} {s s1 : Option (List Int)} (h : Rd bytesOf (fun m => m ≤ k) s n s1) : RdL f D k n s [] s1 := by
  cases s with
  | none => rw [h.bad]; trivial
  | some r =>
    cases s1 with
    | none =>
      intro l r' hl e
      unfold listB at e
      rw [List.append_assoc] at e
      exact h _ _ hl.1 e
    | some r1 => exact ⟨h.1, by simp, by simpa using h.2⟩

theorem RdL.push {α : Type} {f : α → List Int} {D : α → Prop} (hf : PF f D) {k n : Nat} {s s1 s2 : Option (List Int)} {xs : List α} {x : α} (hx : xs.length < n) (h : RdL f D k n s xs s1) (h2 : Rd f D s1 x s2) : RdL f D k n s (xs ++ [x]) s2 := by
  cases s with
  | none =>
    cases s1 with
    | none => rw [h2.bad]; trivial
    | some _ => exact h.elim
  | some r =>
    cases s1 with
    | none => rw [h2.bad]; exact h
    | some r1 =>
      obtain ⟨a1, a2, a3⟩ := h
      cases s2 with
      | none =>
        intro l r' hl e
        rw [a3] at e
        unfold listB at e
        rw [List.append_assoc] at e
        obtain ⟨e1, e2⟩ := bytes_pf e
        have el : l = l.take xs.length ++ l.drop xs.length := (List.take_append_drop _ _).symm
        have hlt : xs.length < l.length := by omega
        rw [List.drop_eq_getElem_cons hlt] at el
        rw [el, List.flatMap_append, List.flatMap_cons, List.append_assoc, List.append_assoc] at e2
        obtain ⟨_, e4⟩ := flat_pf hf xs (l.take xs.length) _ _ (by rw [List.length_take]; omega) a2 (fun y hy => hl.2 y (List.mem_of_mem_take hy)) e2
        exact h2 _ _ (hl.2 _ (List.getElem_mem hlt)) e4
      | some r2 =>
        obtain ⟨b1, b2⟩ := h2
        refine ⟨a1, fun y hy => ?_, ?_⟩
        · rcases List.mem_append.1 hy with hy | hy
          · exact a2 y hy
          · simp at hy; subst hy; exact b1
        · rw [a3, b2]; simp

theorem RdL.done {α : Type} {f : α → List Int} {D : α → Prop} {k n : Nat} {s s1 : Option (List Int)} {xs : List α} (h : RdL f D k n s xs s1) (hn : s1 = none ∨ xs.length = n) : Rd (listB f) (LD k D) s xs s1 := by
  cases s with
  | none =>
    cases s1 with
    | none => trivial
    | some _ => exact h.elim
  | some r =>
    cases s1 with
    | none => exact h
    | some r1 =>
      obtain ⟨a1, a2, a3⟩ := h
      rcases hn with hn | hn
      · cases hn
      · subst hn
        refine ⟨⟨a1, a2⟩, ?_⟩
        unfold listB
        rw [List.append_assoc]
        exact a3

end Go.Proofs.Ytgalmkhgbokidaa
