/-
  What is proved here: the law FaultDeep answers true for every number and every count of wraps, and writes nothing that was there.
-/
import Derived.Test.YtnpnbhgkcaefnaaDoorChain
namespace Go.Proofs.YtnpnbhgkcaefnaaDoor
open Go.RowKit Go.Extern.Stop Go.Stop Go.Extern
set_option linter.unusedVariables false

/-- Wrapped so many times. -/
def againV (k : Nat) (z : Int) : Value := wrapV (List.replicate k ⟨#[97, 103, 97, 105, 110]⟩) (numV z)

theorem wrap_again (k : Nat) (z : Int) (w : World) : Calls Tryd.prog 13 #[.string ⟨#[97, 103, 97, 105, 110]⟩, againV k z] w fun e w' => e = .returned (againV (k + 1) z) ∧ w' = w := by
  unfold againV
  obtain ⟨t, v, h⟩ := wrapV_iface (b := numV z) ⟨_, _, rfl⟩ (List.replicate k ⟨#[97, 103, 97, 105, 110]⟩)
  rw [List.replicate_succ]
  show Calls Tryd.prog 13 #[.string ⟨#[97, 103, 97, 105, 110]⟩, wrapV (List.replicate k ⟨#[97, 103, 97, 105, 110]⟩) (numV z)] w fun e w' => e = .returned (failV ⟨#[97, 103, 97, 105, 110]⟩ (wrapV (List.replicate k ⟨#[97, 103, 97, 105, 110]⟩) (numV z))) ∧ w' = w
  rw [h]
  exact wrap_some _ t v w

set_option maxHeartbeats 1000000 in
theorem deep_walk (w : World) (z : Int) (n : Nat) (hn : n ≤ 65535) (hg : Laid w) :
    Calls Tryd.prog 5 #[.int .i64 z, .int .u16 (n : Int)] w fun e w' => e = .returned (.bool true) ∧ Below w.heap.size w w' := by
  by_cases hz : z = 0
  · subst hz
    have HL := hid' (live_any w hg)
    go_enter Tryd.func5, Tryd.ntmps5
    go_wp2_with fail
    refine HL.out.mono ?_
    rintro e w1 ⟨rfl, hb⟩
    go_wp2
    go_ret
    exact ⟨rfl, hb⟩
  · have HN := hid' (new_some z hz w)
    have HK := hid' (fun W hW => code_of (againV n z) z (asNum_chain _ _) W hW)
    have HO := hid' (fun W => ops_chain (List.replicate n ⟨#[97, 103, 97, 105, 110]⟩) z (by simp; omega) W)
    rw [List.length_replicate] at HO
    go_enter Tryd.func5, Tryd.ntmps5
    go_wp2_with fail
    refine HN.out.mono ?_
    rintro e w1 ⟨rfl, rfl⟩
    go_wp2
    go_loopg [5, 6] n (fun k p i wr => ∃ j : Nat, j + k = n ∧ i = .int .i64 (j : Int) ∧ p = againV j z ∧ w1 = wr)
    case atStart => exact ⟨0, by omega, rfl, rfl, rfl⟩
    case round =>
      obtain ⟨j, hj, rfl, rfl, rfl⟩ := hrel
      cases gk with
      | zero =>
        have e : j = n := by omega
        subst e
        have hK := HK.out w1 hg
        have hO := HO.out
        change ∀ W : World, Calls Tryd.prog 9 #[againV j z] W _ at hO
        clear HK HO
        obtain ⟨tx, vx, hx⟩ : ∃ t v, againV j z = .iface t v := wrapV_iface (b := numV z) ⟨_, _, rfl⟩ _
        rw [hx] at hK hO ⊢
        have HK := hid' hK
        have HO := hid' hO
        clear hx hK hO
        go_wp2_with fail
        refine HK.out.mono ?_
        rintro e w2 ⟨rfl, hb2⟩
        have HB2 := hid' hb2
        clear hb2
        go_wp2_with fail
        refine (HO.out w2).mono ?_
        rintro e w3 ⟨a, c, rfl, hc, hs, hb3⟩
        have HB3 := hid' (HB2.out.trans (hb3.mono HB2.out.size))
        have HL := hid' (live_any w3 (hg.keep HB3.out hg.pos))
        clear hb3 hs
        go_wp2_with fail
        refine HL.out.mono ?_
        rintro e w4 ⟨rfl, hb4⟩
        have HB4 := hid' (HB3.out.trans (hb4.mono HB3.out.size))
        clear hb4
        go_wp2
        go_ret
        exact ⟨rfl, HB4.out⟩
      | succ k =>
        have hjn : j < n := by omega
        have HJ := hid' hj
        have HW := hid' (wrap_again j z w1)
        clear hj
        go_wp2_with fail
        refine HW.out.mono ?_
        rintro e w2 ⟨rfl, rfl⟩
        go_wp2
        go_roundg k
        case measure => omega
        case rel => exact ⟨j + 1, by have := HJ.out; omega, by go_num, rfl, rfl⟩
end Go.Proofs.YtnpnbhgkcaefnaaDoor
