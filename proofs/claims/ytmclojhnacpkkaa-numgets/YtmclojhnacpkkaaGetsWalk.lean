/-
  What is proved here: the law NumGets answers true for all bytes and every place and writes nothing that was there.
-/
import Derived.Test.YtmclojhnacpkkaaLive
import Derived.Test.YtmclojhnacpkkaaRGet
namespace Go.Proofs.Ytmclojhnacpkkaa
open Go.RowKit
set_option linter.unusedVariables false

set_option maxHeartbeats 1000000 in
theorem gets_walk (w : World) (a : Option Addr) (cap : Nat) (l : List Int) (at' : Int) (hb : Bts w.heap.size w a l) (hc : l.length ≤ cap) :
    Calls Try.prog 4 #[.slice a l.length cap, .int .i64 at'] w fun e w' => e = .returned (.bool true) ∧ Below w.heap.size w w' := by
  by_cases hlen : 5000 < l.length
  · go_enter Try.func4, Try.ntmps4
    go_wp2_with fail
    refine (live_any w).mono ?_
    rintro e w3 ⟨rfl, hb3⟩
    go_wp2
    go_ret
    exact ⟨rfl, hb3⟩
  · go_enter Try.func4, Try.ntmps4
    go_wp2_with fail
    refine (get_any w a cap l at' hb hc (by omega)).mono ?_
    rintro e w' ⟨⟨n, next, er, rfl, hrel⟩, rfl⟩
    go_wp2_with fail
    refine (rget_any w' a cap l at' hb hc (by omega)).mono ?_
    rintro e w2 ⟨⟨n2, next2, er2, rfl, hrel2⟩, hbel⟩
    obtain ⟨rfl, rfl, rfl⟩ := hrel.uniq hrel2
    have hz := hbel.size
    clear hrel hrel2 hb
    go_wp2_with fail
    refine (code_any er w2).mono ?_
    rintro e w3 ⟨rfl, rfl⟩
    go_wp2_with fail
    refine (live_any w3).mono ?_
    rintro e w4 ⟨rfl, hb4⟩
    go_wp2
    go_ret
    exact ⟨rfl, hbel.trans (hb4.mono hz)⟩
end Go.Proofs.Ytmclojhnacpkkaa
