/-
  Given for the seat's laws: the contracts of the two rotations and of the document's round. No condition but those of the theorems.
-/
import Derived.Test.YtimlcjdpnhhjdaaPMade
namespace Go.Proofs.Ytimlcjdpnhhjdaa.sp
open Go.RowKit mem
set_option linter.unusedVariables false

theorem rotl_any (x : W64) (k : Nat) (h0 : 0 < k) (hk : k < 64) (w : World) : Calls Try.prog 64 #[.int .u64 (num x), .int .i64 (k : Int)] w fun e w' => e = .returned (.int .u64 (num (rl k x))) ∧ w' = w := by
  have h1 := bits_or_rl x k h0 hk
  have hm : bits .and .u64 (k : Int) 63 = (k : Int) := by
    have := u64_and_nat k 63 (by omega) (by omega)
    rw [show ((63 : Nat) : Int) = 63 from rfl] at this
    rw [this, show k &&& 63 = k from by
      have := Nat.and_two_pow_sub_one_eq_mod k 6
      rw [show 2 ^ 6 - 1 = 63 from rfl] at this
      rw [this]; omega]
  have hs : IntKind.u64.wrap (k : Int) = (k : Int) := by rw [IntKind.wrap_u64]; omega
  go_enter Try.func64, Try.ntmps64
  go_wp2
  go_ret
  exact ⟨rfl, rfl⟩

theorem left_any (x : W64) (k : Nat) (hk : k < 64) (w : World) : Calls Try.prog 40 #[.int .u64 (num x), .int .i64 (k : Int)] w fun e w' => e = .returned (.int .u64 (num (rl k x))) ∧ w' = w := by
  have h0 := rl_zero x
  have H0 := Lib.hid h0
  clear h0
  go_enter Try.func40, Try.ntmps40
  go_wp2
  go_loop [0, 5] (fun s0 s5 => ∃ j : Nat, j ≤ k ∧ s5 = .int .i64 (j : Int) ∧ s0 = .int .u64 (num (rl j x))) (fun _ s5 => k - (intOf s5).toNat)
  case atStart => exact ⟨0, by omega, rfl, by rw [H0.out]⟩
  case round =>
    obtain ⟨j, hj, rfl, rfl⟩ := hrel
    by_cases hlt : j < k
    · have hs := rl_succ x j (by omega)
      have ho := rl_one (rl j x)
      rw [hs] at ho
      have hr := num_range (rl j x)
      clear hs
      go_wp2
      go_round
      case rel => exact ⟨j + 1, by omega, by go_num, by first | rfl | rw [ho]⟩
      case measure => simp [intOf]; omega
    · obtain rfl : j = k := by omega
      go_wp2
      go_ret
      exact ⟨rfl, rfl⟩
end Go.Proofs.Ytimlcjdpnhhjdaa.sp
