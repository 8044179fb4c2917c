/-
  Given for the seat's laws: the contracts of both Size functions. No condition but those of the theorems.
-/
import Derived.Test.YtghdaengkgiekaaGreatDoorYSMem
namespace Go.Proofs.YtghdaengkgiekaaGreatDoor.sx
open Go.RowKit mem
set_option linter.unusedVariables false

theorem size_any (n : Nat) (hn : n ≤ 100000) (w : World) : Calls Tryz.prog 57 #[.int .i64 (n : Int)] w fun e w' => e = .returned (.int .i64 ((size n : Nat) : Int)) ∧ w' = w := by
  by_cases h0 : n = 0
  · subst h0
    go_enter Tryz.func57, Tryz.ntmps57
    go_wp2
    go_ret
    exact ⟨rfl, rfl⟩
  · have HS := Lib.hid (show ((n : Int) + 3 - 1) / 3 * 4 = ((size n : Nat) : Int) by unfold size; omega)
    have hd : decide ((n : Int) < 1) = false := decide_eq_false (by omega)
    go_enter Tryz.func57, Tryz.ntmps57
    go_wp2
    go_ret
    exact ⟨by rw [← HS.out]; rfl, rfl⟩
theorem size_low (n : Int) (hn : n < 0) (w : World) : Calls Tryz.prog 57 #[.int .i64 n] w fun e w' => e = .returned (.int .i64 0) ∧ w' = w := by
  go_enter Tryz.func57, Tryz.ntmps57
  go_wp2
  go_ret
  exact ⟨rfl, rfl⟩

end Go.Proofs.YtghdaengkgiekaaGreatDoor.sx
