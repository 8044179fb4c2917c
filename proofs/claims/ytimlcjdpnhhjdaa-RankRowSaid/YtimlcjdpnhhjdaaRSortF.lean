/-
  Given for the seat's laws: the contract of slices.SortFunc at a short row of places, under the comparison by scores. No condition but those of the theorems.
-/
import Derived.Test.YtimlcjdpnhhjdaaRPdq
namespace Go.Proofs.Ytimlcjdpnhhjdaa.rk
open Go.RowKit mem sp
open Go.Sort (grow swp PermIn SortedIn)
set_option linter.unusedVariables false

set_option maxHeartbeats 1000000 in
set_option maxRecDepth 100000 in
theorem len64_0 (w : World) : Calls Try.prog 50 #[.int .u64 0] w fun e w' => e = .returned (.int .i64 0) ∧ w' = w := by
  go_enter Try.func50, Try.ntmps50
  go_wp2
  go_ret
  exact ⟨by kernel_rfl, rfl⟩
set_option maxHeartbeats 1000000 in
set_option maxRecDepth 100000 in
theorem len_0 (w : World) : Calls Try.prog 33 #[.int .u64 0] w fun e w' => e = .returned (.int .i64 0) ∧ w' = w := by
  go_enter Try.func33, Try.ntmps33
  go_wp2_with (first | (go_at_call 50; refine (len64_0 _).mono ?_; rintro e w' ⟨rfl, rfl⟩))
  go_ret
  exact ⟨rfl, rfl⟩
set_option maxHeartbeats 1000000 in
set_option maxRecDepth 100000 in
theorem len64_1 (w : World) : Calls Try.prog 50 #[.int .u64 1] w fun e w' => e = .returned (.int .i64 1) ∧ w' = w := by
  go_enter Try.func50, Try.ntmps50
  go_wp2
  go_ret
  exact ⟨by kernel_rfl, rfl⟩
set_option maxHeartbeats 1000000 in
set_option maxRecDepth 100000 in
theorem len_1 (w : World) : Calls Try.prog 33 #[.int .u64 1] w fun e w' => e = .returned (.int .i64 1) ∧ w' = w := by
  go_enter Try.func33, Try.ntmps33
  go_wp2_with (first | (go_at_call 50; refine (len64_1 _).mono ?_; rintro e w' ⟨rfl, rfl⟩))
  go_ret
  exact ⟨rfl, rfl⟩
set_option maxHeartbeats 1000000 in
set_option maxRecDepth 100000 in
theorem len64_2 (w : World) : Calls Try.prog 50 #[.int .u64 2] w fun e w' => e = .returned (.int .i64 2) ∧ w' = w := by
  go_enter Try.func50, Try.ntmps50
  go_wp2
  go_ret
  exact ⟨by kernel_rfl, rfl⟩
set_option maxHeartbeats 1000000 in
set_option maxRecDepth 100000 in
theorem len_2 (w : World) : Calls Try.prog 33 #[.int .u64 2] w fun e w' => e = .returned (.int .i64 2) ∧ w' = w := by
  go_enter Try.func33, Try.ntmps33
  go_wp2_with (first | (go_at_call 50; refine (len64_2 _).mono ?_; rintro e w' ⟨rfl, rfl⟩))
  go_ret
  exact ⟨rfl, rfl⟩
set_option maxHeartbeats 1000000 in
set_option maxRecDepth 100000 in
theorem len64_3 (w : World) : Calls Try.prog 50 #[.int .u64 3] w fun e w' => e = .returned (.int .i64 2) ∧ w' = w := by
  go_enter Try.func50, Try.ntmps50
  go_wp2
  go_ret
  exact ⟨by kernel_rfl, rfl⟩
set_option maxHeartbeats 1000000 in
set_option maxRecDepth 100000 in
theorem len_3 (w : World) : Calls Try.prog 33 #[.int .u64 3] w fun e w' => e = .returned (.int .i64 2) ∧ w' = w := by
  go_enter Try.func33, Try.ntmps33
  go_wp2_with (first | (go_at_call 50; refine (len64_3 _).mono ?_; rintro e w' ⟨rfl, rfl⟩))
  go_ret
  exact ⟨rfl, rfl⟩
set_option maxHeartbeats 1000000 in
set_option maxRecDepth 100000 in
theorem len64_4 (w : World) : Calls Try.prog 50 #[.int .u64 4] w fun e w' => e = .returned (.int .i64 3) ∧ w' = w := by
  go_enter Try.func50, Try.ntmps50
  go_wp2
  go_ret
  exact ⟨by kernel_rfl, rfl⟩
set_option maxHeartbeats 1000000 in
set_option maxRecDepth 100000 in
theorem len_4 (w : World) : Calls Try.prog 33 #[.int .u64 4] w fun e w' => e = .returned (.int .i64 3) ∧ w' = w := by
  go_enter Try.func33, Try.ntmps33
  go_wp2_with (first | (go_at_call 50; refine (len64_4 _).mono ?_; rintro e w' ⟨rfl, rfl⟩))
  go_ret
  exact ⟨rfl, rfl⟩
set_option maxHeartbeats 1000000 in
set_option maxRecDepth 100000 in
theorem len64_5 (w : World) : Calls Try.prog 50 #[.int .u64 5] w fun e w' => e = .returned (.int .i64 3) ∧ w' = w := by
  go_enter Try.func50, Try.ntmps50
  go_wp2
  go_ret
  exact ⟨by kernel_rfl, rfl⟩
set_option maxHeartbeats 1000000 in
set_option maxRecDepth 100000 in
theorem len_5 (w : World) : Calls Try.prog 33 #[.int .u64 5] w fun e w' => e = .returned (.int .i64 3) ∧ w' = w := by
  go_enter Try.func33, Try.ntmps33
  go_wp2_with (first | (go_at_call 50; refine (len64_5 _).mono ?_; rintro e w' ⟨rfl, rfl⟩))
  go_ret
  exact ⟨rfl, rfl⟩
set_option maxHeartbeats 1000000 in
set_option maxRecDepth 100000 in
theorem len64_6 (w : World) : Calls Try.prog 50 #[.int .u64 6] w fun e w' => e = .returned (.int .i64 3) ∧ w' = w := by
  go_enter Try.func50, Try.ntmps50
  go_wp2
  go_ret
  exact ⟨by kernel_rfl, rfl⟩
set_option maxHeartbeats 1000000 in
set_option maxRecDepth 100000 in
theorem len_6 (w : World) : Calls Try.prog 33 #[.int .u64 6] w fun e w' => e = .returned (.int .i64 3) ∧ w' = w := by
  go_enter Try.func33, Try.ntmps33
  go_wp2_with (first | (go_at_call 50; refine (len64_6 _).mono ?_; rintro e w' ⟨rfl, rfl⟩))
  go_ret
  exact ⟨rfl, rfl⟩
set_option maxHeartbeats 1000000 in
set_option maxRecDepth 100000 in
theorem len64_7 (w : World) : Calls Try.prog 50 #[.int .u64 7] w fun e w' => e = .returned (.int .i64 3) ∧ w' = w := by
  go_enter Try.func50, Try.ntmps50
  go_wp2
  go_ret
  exact ⟨by kernel_rfl, rfl⟩
set_option maxHeartbeats 1000000 in
set_option maxRecDepth 100000 in
theorem len_7 (w : World) : Calls Try.prog 33 #[.int .u64 7] w fun e w' => e = .returned (.int .i64 3) ∧ w' = w := by
  go_enter Try.func33, Try.ntmps33
  go_wp2_with (first | (go_at_call 50; refine (len64_7 _).mono ?_; rintro e w' ⟨rfl, rfl⟩))
  go_ret
  exact ⟨rfl, rfl⟩
set_option maxHeartbeats 1000000 in
set_option maxRecDepth 100000 in
theorem len64_8 (w : World) : Calls Try.prog 50 #[.int .u64 8] w fun e w' => e = .returned (.int .i64 4) ∧ w' = w := by
  go_enter Try.func50, Try.ntmps50
  go_wp2
  go_ret
  exact ⟨by kernel_rfl, rfl⟩
set_option maxHeartbeats 1000000 in
set_option maxRecDepth 100000 in
theorem len_8 (w : World) : Calls Try.prog 33 #[.int .u64 8] w fun e w' => e = .returned (.int .i64 4) ∧ w' = w := by
  go_enter Try.func33, Try.ntmps33
  go_wp2_with (first | (go_at_call 50; refine (len64_8 _).mono ?_; rintro e w' ⟨rfl, rfl⟩))
  go_ret
  exact ⟨rfl, rfl⟩
set_option maxHeartbeats 1000000 in
set_option maxRecDepth 100000 in
theorem len64_9 (w : World) : Calls Try.prog 50 #[.int .u64 9] w fun e w' => e = .returned (.int .i64 4) ∧ w' = w := by
  go_enter Try.func50, Try.ntmps50
  go_wp2
  go_ret
  exact ⟨by kernel_rfl, rfl⟩
set_option maxHeartbeats 1000000 in
set_option maxRecDepth 100000 in
theorem len_9 (w : World) : Calls Try.prog 33 #[.int .u64 9] w fun e w' => e = .returned (.int .i64 4) ∧ w' = w := by
  go_enter Try.func33, Try.ntmps33
  go_wp2_with (first | (go_at_call 50; refine (len64_9 _).mono ?_; rintro e w' ⟨rfl, rfl⟩))
  go_ret
  exact ⟨rfl, rfl⟩
set_option maxHeartbeats 1000000 in
set_option maxRecDepth 100000 in
theorem len64_10 (w : World) : Calls Try.prog 50 #[.int .u64 10] w fun e w' => e = .returned (.int .i64 4) ∧ w' = w := by
  go_enter Try.func50, Try.ntmps50
  go_wp2
  go_ret
  exact ⟨by kernel_rfl, rfl⟩
set_option maxHeartbeats 1000000 in
set_option maxRecDepth 100000 in
theorem len_10 (w : World) : Calls Try.prog 33 #[.int .u64 10] w fun e w' => e = .returned (.int .i64 4) ∧ w' = w := by
  go_enter Try.func33, Try.ntmps33
  go_wp2_with (first | (go_at_call 50; refine (len64_10 _).mono ?_; rintro e w' ⟨rfl, rfl⟩))
  go_ret
  exact ⟨rfl, rfl⟩
set_option maxHeartbeats 1000000 in
set_option maxRecDepth 100000 in
theorem len64_11 (w : World) : Calls Try.prog 50 #[.int .u64 11] w fun e w' => e = .returned (.int .i64 4) ∧ w' = w := by
  go_enter Try.func50, Try.ntmps50
  go_wp2
  go_ret
  exact ⟨by kernel_rfl, rfl⟩
set_option maxHeartbeats 1000000 in
set_option maxRecDepth 100000 in
theorem len_11 (w : World) : Calls Try.prog 33 #[.int .u64 11] w fun e w' => e = .returned (.int .i64 4) ∧ w' = w := by
  go_enter Try.func33, Try.ntmps33
  go_wp2_with (first | (go_at_call 50; refine (len64_11 _).mono ?_; rintro e w' ⟨rfl, rfl⟩))
  go_ret
  exact ⟨rfl, rfl⟩
set_option maxHeartbeats 1000000 in
set_option maxRecDepth 100000 in
theorem len64_12 (w : World) : Calls Try.prog 50 #[.int .u64 12] w fun e w' => e = .returned (.int .i64 4) ∧ w' = w := by
  go_enter Try.func50, Try.ntmps50
  go_wp2
  go_ret
  exact ⟨by kernel_rfl, rfl⟩
set_option maxHeartbeats 1000000 in
set_option maxRecDepth 100000 in
theorem len_12 (w : World) : Calls Try.prog 33 #[.int .u64 12] w fun e w' => e = .returned (.int .i64 4) ∧ w' = w := by
  go_enter Try.func33, Try.ntmps33
  go_wp2_with (first | (go_at_call 50; refine (len64_12 _).mono ?_; rintro e w' ⟨rfl, rfl⟩))
  go_ret
  exact ⟨rfl, rfl⟩
theorem len_any {N : Nat} (h : N ≤ 16) : ∃ l : Nat, N < 12 + l ∧ l ≤ 100 ∧ ∀ w, Calls Try.prog 33 #[.int .u64 (N : Int)] w fun e w' => e = .returned (.int .i64 (l : Int)) ∧ w' = w := by
  rcases (show N = 0 ∨ N = 1 ∨ N = 2 ∨ N = 3 ∨ N = 4 ∨ N = 5 ∨ N = 6 ∨ N = 7 ∨ N = 8 ∨ N = 9 ∨ N = 10 ∨ N = 11 ∨ N = 12 ∨ N = 13 ∨ N = 14 ∨ N = 15 ∨ N = 16 by omega) with rfl | rfl | rfl | rfl | rfl | rfl | rfl | rfl | rfl | rfl | rfl | rfl | rfl | rfl | rfl | rfl | rfl
  · exact ⟨0, by omega, by omega, len_0⟩
  · exact ⟨1, by omega, by omega, len_1⟩
  · exact ⟨2, by omega, by omega, len_2⟩
  · exact ⟨2, by omega, by omega, len_3⟩
  · exact ⟨3, by omega, by omega, len_4⟩
  · exact ⟨3, by omega, by omega, len_5⟩
  · exact ⟨3, by omega, by omega, len_6⟩
  · exact ⟨3, by omega, by omega, len_7⟩
  · exact ⟨4, by omega, by omega, len_8⟩
  · exact ⟨4, by omega, by omega, len_9⟩
  · exact ⟨4, by omega, by omega, len_10⟩
  · exact ⟨4, by omega, by omega, len_11⟩
  · exact ⟨4, by omega, by omega, len_12⟩
  · exact ⟨4, by omega, by omega, len_13⟩
  · exact ⟨4, by omega, by omega, len_14⟩
  · exact ⟨4, by omega, by omega, len_15⟩
  · exact ⟨5, by omega, by omega, len_16⟩
def SrtTo (w0 : World) (g sb : Nat) (S : Nat → Sc) (n N : Nat) (d : Array Nat) (e : Ending) (w' : World) : Prop :=
  ∃ f : Array Nat, e = .returned (.tuple #[]) ∧ PermIn 0 N d f ∧ SortedIn (before S) 0 N f ∧ SS w0 g sb S n f w'
set_option maxHeartbeats 2000000 in
set_option maxRecDepth 100000 in
theorem sort_any {w0 W : World} {g sb n N : Nat} {S : Nat → Sc} {d : Array Nat} (hsb : sb < w0.heap.size) (hn : n ≤ 1000) (hN : N ≤ 16) (hs : SS w0 g sb S n d W) (hsz : d.size = N) (hnd : d.toList.Nodup) :
    Calls Try.prog 26 #[.slice (some ⟨g, 0, none⟩) N N, fv sb n] W (SrtTo w0 g sb S n N d) := by
  obtain ⟨l, hl1, hl2, hl⟩ := len_any hN
  have HL := Bx.mk hl
  have HP := Bx.mk (pdq_any hsb hn hN (N - 0) W 0 N l d rfl hs hsz (Nat.zero_le _) (Nat.le_refl _) (by omega) hl2 hnd (.inl rfl))
  rw [show ((0 : Nat) : Int) = 0 by rfl] at HP
  clear hs hl
  go_enter Try.func26, Try.ntmps26
  go_wp2_with (first | (go_at_call 33; refine (HL.out _).mono ?_; rintro e w' ⟨rfl, rfl⟩))
  refine HP.out.mono ?_
  rintro e w1 ⟨f, rfl, hp, ho, hs1⟩
  have HS := Bx.mk hs1
  clear hs1
  go_wp2
  go_end0
  exact ⟨f, rfl, hp, ho, HS.out⟩
end Go.Proofs.Ytimlcjdpnhhjdaa.rk
