/-
  Given for the seat's laws: BreakerOne where nothing is asked of it: a cool-down beyond its bounds, too many acts. No condition but those of the theorems.
-/
import Derived.Test.YtcnlcjlipbpjoaaBAwake
namespace Go.Proofs.Ytcnlcjlipbpjoaa.bk
open Go.RowKit mem
open Go.Sort (grow)
set_option linter.unusedVariables false

set_option maxRecDepth 100000 in
set_option maxHeartbeats 2000000 in
theorem one_out (c : Int) (A : Option Addr) (n q : Nat) (w : World) (h : c < 1 ∨ 1000 < c ∨ 200 < n) : Calls Try.prog 5 #[.int .i64 c, .slice A n q] w (True_ w) := by
  have HA := Bx.mk (awake_any w)
  unfold True_
  rcases h with h | h | h
  · go_enter Try.func5, Try.ntmps5
    go_wp2_with fail
    refine HA.out.mono ?_
    rintro e w1 ⟨rfl, hg⟩
    go_wp2_with fail
    go_ret
    exact ⟨rfl, hg.below⟩
  · have h2 : (1 : Int) ≤ c := by omega
    go_enter Try.func5, Try.ntmps5
    go_wp2_with fail
    refine HA.out.mono ?_
    rintro e w1 ⟨rfl, hg⟩
    go_wp2_with fail
    go_ret
    exact ⟨rfl, hg.below⟩
  · by_cases h1 : c < 1
    · go_enter Try.func5, Try.ntmps5
      go_wp2_with fail
      refine HA.out.mono ?_
      rintro e w1 ⟨rfl, hg⟩
      go_wp2_with fail
      go_ret
      exact ⟨rfl, hg.below⟩
    · by_cases h2 : 1000 < c
      · go_enter Try.func5, Try.ntmps5
        go_wp2_with fail
        refine HA.out.mono ?_
        rintro e w1 ⟨rfl, hg⟩
        go_wp2_with fail
        go_ret
        exact ⟨rfl, hg.below⟩
      · go_enter Try.func5, Try.ntmps5
        go_wp2_with fail
        refine HA.out.mono ?_
        rintro e w1 ⟨rfl, hg⟩
        have h3 : (200 : Int) < (n : Int) := by omega
        go_wp2_with fail
        go_ret
        exact ⟨rfl, hg.below⟩
end Go.Proofs.Ytcnlcjlipbpjoaa.bk
