/-
  Given for the seat's laws: the contracts of both Size functions. No condition but those of the theorems.
-/
import Derived.Test.YtiloeffnmkcaoaaSDec
namespace Go.Proofs.Ytiloeffnmkcaoaa.sx
open Go.RowKit mem
set_option linter.unusedVariables false

theorem size_any (n : Nat) (hn : n ≤ 100000) (w : World) : Calls Try.prog 10 #[.int .i64 (n : Int)] w fun e w' => e = .returned (.int .i64 ((size n : Nat) : Int)) ∧ w' = w := by
  by_cases h0 : n = 0
  · subst h0
    go_enter Try.func10, Try.ntmps10
    go_wp2
    go_ret
    exact ⟨rfl, rfl⟩
  · have HS := Lib.hid (show ((n : Int) + 3 - 1) / 3 * 4 = ((size n : Nat) : Int) by unfold size; omega)
    have hd : decide ((n : Int) < 1) = false := decide_eq_false (by omega)
    go_enter Try.func10, Try.ntmps10
    go_wp2
    go_ret
    exact ⟨by rw [← HS.out]; rfl, rfl⟩
theorem size_low (n : Int) (hn : n < 0) (w : World) : Calls Try.prog 10 #[.int .i64 n] w fun e w' => e = .returned (.int .i64 0) ∧ w' = w := by
  go_enter Try.func10, Try.ntmps10
  go_wp2
  go_ret
  exact ⟨rfl, rfl⟩

set_option maxHeartbeats 400000 in
theorem rsize_any (n : Nat) (hn : n ≤ 100000) (w : World) : Calls Try.prog 11 #[.int .i64 (n : Int)] w fun e w' => e = .returned (.int .i64 ((size n : Nat) : Int)) ∧ w' = w := by
  go_enter Try.func11, Try.ntmps11
  go_wp2
  go_loop [3, 4] (fun s3 s4 => ∃ k : Nat, 3 * k ≤ n + 2 ∧ s3 = .int .i64 (((4 * k : Nat)) : Int) ∧ s4 = .int .i64 (((3 * k : Nat)) : Int)) (fun _ s4 => n + 3 - (intOf s4).toNat)
  case atStart => exact ⟨0, by omega, rfl, rfl⟩
  case round =>
    obtain ⟨k, hk, rfl, rfl⟩ := hrel
    by_cases hlt : 3 * k < n
    · have e1 : ((4 * k : Nat) : Int) + 4 = ((4 * (k + 1) : Nat) : Int) := by omega
      have e2 : ((3 * k : Nat) : Int) + 3 = ((3 * (k + 1) : Nat) : Int) := by omega
      have HE1 := Lib.hid e1
      have HE2 := Lib.hid e2
      clear e1 e2
      obtain ⟨a, ha⟩ : ∃ a : Nat, a = 4 * k := ⟨_, rfl⟩
      obtain ⟨b, hb⟩ : ∃ b : Nat, b = 3 * k := ⟨_, rfl⟩
      rw [← ha, ← hb]
      rw [← hb] at hlt
      have HA := Lib.hid ha
      have HB := Lib.hid hb
      have hal : a ≤ 200000 := by omega
      clear ha hb
      go_wp2
      go_round
      case rel => exact ⟨k + 1, by have := HB.out; omega, by rw [← HE1.out, ← HA.out], by rw [← HE2.out, ← HB.out]⟩
      case measure => simp [intOf]; omega
    · have HS := Lib.hid (show 4 * k = size n by unfold size; omega)
      rw [HS.out]
      go_wp2
      go_ret
      exact ⟨rfl, rfl⟩
set_option maxHeartbeats 400000 in
theorem rsize_low (n : Int) (hn : n < 0) (w : World) : Calls Try.prog 11 #[.int .i64 n] w fun e w' => e = .returned (.int .i64 0) ∧ w' = w := by
  go_enter Try.func11, Try.ntmps11
  go_wp2
  refine wp_loop_rounds 1 ?_
  rw [rounds_succ]
  go_wp2
  go_ret
  exact ⟨rfl, rfl⟩
end Go.Proofs.Ytiloeffnmkcaoaa.sx
