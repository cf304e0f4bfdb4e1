/-
  What is proved here: two commands that are alike; lists of commands in memory.
-/
import Derived.Test.YtgalmkhgbokidaaWZ
import Derived.Test.YtgalmkhgbokidaaWY
namespace Go.Proofs.Ytgalmkhgbokidaa
open Go.RowKit Go.Proofs
set_option maxRecDepth 20000
set_option linter.unusedVariables false
set_option linter.unusedSimpArgs false

/-- Two commands that are the same but for fields of values that play no part. -/
structure AlC (x y : Cm) : Prop where
  op : x.op = y.op
  node : x.node = y.node
  row : AlR x.row y.row
  time : x.time = y.time
  diff : x.diff = y.diff
  front : x.front = y.front
  fuel : x.fuel = y.fuel
  sheet : x.sheet = y.sheet

theorem AlC.refl (x : Cm) : AlC x x := ⟨rfl, rfl, AlR.refl _, rfl, rfl, rfl, rfl, rfl⟩
theorem AlC.ofNorm (c : Cm) : AlC (normC c) (plain c) := ⟨rfl, rfl, AlR.ofNorm _, rfl, rfl, rfl, rfl, rfl⟩

/-- No longer than is asked. -/
def Sm (c : Cm) : Prop := c.row.length ≤ 1000 ∧ c.front.length ≤ 1000000 ∧ c.sheet.length ≤ 1000000

theorem Sm.plain {c : Cm} (h : Sm c) : Sm (plain c) := by
  unfold Sm Go.Proofs.Ytgalmkhgbokidaa.plain at *
  refine ⟨?_, ?_, ?_⟩ <;> simp only <;> split <;> simp_all <;> omega

/-- A list of commands in memory. -/
structure Cms (P : Nat → Prop) (w : World) (a : Option Addr) (X : List (Cm × CmS)) : Prop where
  cells : SP 9 cCm (c0, s0) P w a X
  each : ∀ q ∈ X, CmR P w q.1 q.2

theorem Cms.on {P : Nat → Prop} {w w' : World} {a : Option Addr} {X : List (Cm × CmS)} (h : Cms P w a X) (hb : Below w.heap.size w w') : Cms P w' a X := ⟨SP.on h.cells hb, fun q hq => (h.each q hq).on hb⟩
theorem Cms.mono {P Q : Nat → Prop} {w : World} {a : Option Addr} {X : List (Cm × CmS)} (h : Cms P w a X) (hk : ∀ k, P k → Q k) : Cms Q w a X := ⟨SP.mono h.cells hk, fun q hq => (h.each q hq).mono hk⟩
theorem Cms.at {P : Nat → Prop} {w : World} {b off : Nat} {X : List (Cm × CmS)} (h : Cms P w (some ⟨b, off, none⟩) X) {i : Nat} (hi : i < X.length) : b < w.heap.size ∧ ∀ j, j < 9 → w.cell? ⟨b, off + i * 9 + j, none⟩ = (cmA (X.getD i (c0, s0)).1 (X.getD i (c0, s0)).2)[j]? := by
  obtain ⟨b', off', e, _, hb, hc⟩ := h.cells.cells (by rintro rfl; simp at hi)
  cases e
  refine ⟨hb, fun j hj => ?_⟩
  have := hc i j hi hj
  rw [← Nat.add_assoc] at this
  rw [this]
  unfold cCm
  rw [Array.getElem?_toList]

/-- A list of one command, in a block of its own. -/
theorem Cms.one {P : Nat → Prop} {w : World} {g : Nat} {c : Cm} {s : CmS} (hb : Bx w g (cmA c s) 31) (hp : P g) (hc : CmR P w c s) : Cms P w (some ⟨g, 0, none⟩) [(c, s)] :=
  ⟨⟨fun _ => ⟨g, 0, rfl, hp, hb.lt, fun i j hi hj => by
    have : i = 0 := by simpa using hi
    subst this
    rw [Nat.zero_add, Nat.zero_mul, Nat.zero_add, hb.cell j]
    show _ = (cCm (c, s))[j]?
    unfold cCm
    rw [Array.getElem?_toList]⟩⟩, fun q hq => by simp at hq; subst hq; exact hc⟩

theorem cm9_one (c : Cm) (s : CmS) : (cmA c s).all (·.oneCell') = true := by
  simp [cmA, Value.oneCell']

def vals6 (b1 o1 n ca b2 o2 cb j : Nat) (x y : Value) (i : Nat) : Option Value :=
  [some (.slice (some ⟨b1, o1, none⟩) n ca), some (.int .i64 (j : Int)), some (.pointer (some ⟨b1, o1 + j * 9, none⟩)), some x, some (.slice (some ⟨b2, o2, none⟩) n cb), some (.int .i64 (j : Int)), some (.pointer (some ⟨b2, o2 + j * 9, none⟩)), some y].getD i none

theorem vals6_lt {b1 o1 n ca b2 o2 cb j : Nat} {x y : Value} : ∀ k v, vals6 b1 o1 n ca b2 o2 cb j x y k = some v → k < 8 := by
  intro k v h
  rcases Nat.lt_or_ge k 8 with hk | hk
  · exact hk
  · unfold vals6 List.getD at h
    rw [List.getElem?_eq_none (by simpa using hk)] at h
    cases h

def plVal (x y : Value) (i : Nat) : Option Value := [some x, none, some y, none, none, none].getD i none

/-- What holds while x, y = Plain(x), Plain(y) goes on. -/
def plInv (wr : World) (g8 g9 : Nat) (x y : Cm) (sx sy : CmS) (vs : List Value) (W : World) : Prop :=
  Below wr.heap.size wr W ∧ wr.heap.size ≤ g8 ∧ wr.heap.size ≤ g9 ∧ g8 ≠ g9 ∧ match vs with
    | [] => Bx W g8 (cmA x sx) 31 ∧ Bx W g9 (cmA y sy) 31
    | [p] => Bx W g8 (cmA x sx) 31 ∧ Bx W g9 (cmA y sy) 31 ∧ p = cmV (plain x) (plainS x sx)
    | [p, q] => Bx W g8 (cmA x sx) 31 ∧ Bx W g9 (cmA y sy) 31 ∧ p = cmV (plain x) (plainS x sx) ∧ q = cmV (plain y) (plainS y sy)
    | [_, q, _] => Bx W g8 (cmA (plain x) (plainS x sx)) 31 ∧ Bx W g9 (cmA y sy) 31 ∧ q = cmV (plain y) (plainS y sy)
    | [_, _, _, _] => Bx W g8 (cmA (plain x) (plainS x sx)) 31 ∧ Bx W g9 (cmA (plain y) (plainS y sy)) 31
    | _ => False

end Go.Proofs.Ytgalmkhgbokidaa
