/-
  Given for the seat's laws: the contracts of the library's numbers without order and of its powers of two. No condition but those of the theorems.
-/
import Derived.Test.YtimlcjdpnhhjdaaRSort0
import Derived.BigRegion
namespace Go.Proofs.Ytimlcjdpnhhjdaa.rk
open Go.RowKit mem sp
open Go.Sort (grow swp PermIn SortedIn)
set_option linter.unusedVariables false

/-- .. and a number without order stands in a block of its own -/
structure XS (w0 : World) (g sb : Nat) (S : Nat → Sc) (n : Nat) (d : Array Nat) (h : Nat) (r : W64) (W : World) : Prop where
  ss : SS w0 g sb S n d W
  cnt : Lies W h 94 #[.int .u64 (num r)]
  ge : w0.heap.size ≤ h
  ne : h ≠ g
  ne2 : h ≠ sb
section
variable {w0 W W' : World} {g sb n h : Nat} {r : W64} {S : Nat → Sc} {d d' : Array Nat}
theorem XS.grew (c : XS w0 g sb S n d h r W) (hg : Grew W W') : XS w0 g sb S n d h r W' := ⟨c.ss.grew hg, c.cnt.below hg.below c.cnt.lt, c.ge, c.ne, c.ne2⟩
theorem XS.drew (c : XS w0 g sb S n d h r W) : XS w0 g sb S n d h r W.drew := c.grew ((Grew.refl W).drew)
theorem XS.set (c : XS w0 g sb S n d h r W) (r' : W64) : XS w0 g sb S n d h r' (W.setCell ⟨h, 0, none⟩ (.int .u64 (num r'))) :=
  ⟨⟨c.ss.row.far (p := ⟨h, 0, none⟩) (fun e => c.ne e.symm) _, c.ss.keep.setCell (p := ⟨h, 0, none⟩) (.inl c.ge) _, c.ss.scs.keep (Below.heap_setCell _ _ _ _ (fun e => c.ne2 e.symm)), c.ss.lt, c.ss.ne⟩, c.cnt.set 0 _, c.ge, c.ne, c.ne2⟩
theorem XS.swap (c : XS w0 g sb S n d h r W) {i j : Nat} (hi : i < d.size) (hj : j < d.size) : XS w0 g sb S n (swp d i j) h r ((W.setCell ⟨g, i, none⟩ (.int .i64 (d[j]! : Int))).setCell ⟨g, j, none⟩ (.int .i64 (d[i]! : Int))) :=
  ⟨c.ss.swap hi hj, (c.cnt.far (p := ⟨g, i, none⟩) c.ne _).far (p := ⟨g, j, none⟩) c.ne _, c.ge, c.ne, c.ne2⟩
theorem XS.start (s : SS w0 g sb S n d W) (hsb : sb < W.heap.size) (r : W64) : XS w0 g sb S n d W.heap.size r (W.alloc (.cells #[.int .u64 (num r)] 94)) :=
  ⟨s.grew ((Grew.refl W).alloc _), Lies.new W 94 #[.int .u64 (num r)], s.keep.size, fun e => by have := s.row.lt; omega, fun e => by omega⟩
end
theorem wrap_num (z : Int) : IntKind.u64.wrap z = num (mk (z % 18446744073709551616).toNat) := by
  rw [num_mk (by omega), IntKind.wrap_u64]
  omega
theorem div_num (x : W64) (k : Nat) : num x / (2 ^ k : Nat) = num (mk (x.toNat / 2 ^ k)) := by
  have := x.isLt
  rw [num_mk (Nat.lt_of_le_of_lt (Nat.div_le_self _ _) this)]
  unfold num
  simp

def NextTo (w0 : World) (g sb : Nat) (S : Nat → Sc) (n : Nat) (d : Array Nat) (h : Nat) (e : Ending) (w' : World) : Prop :=
  ∃ r : W64, e = .returned (.int .u64 (num r)) ∧ XS w0 g sb S n d h r w'
set_option maxHeartbeats 1000000 in
set_option maxRecDepth 100000 in
theorem len64_13 (w : World) : Calls Try.prog 50 #[.int .u64 13] w fun e w' => e = .returned (.int .i64 4) ∧ w' = w := by
  go_enter Try.func50, Try.ntmps50
  go_wp2
  go_ret
  exact ⟨by kernel_rfl, rfl⟩
set_option maxHeartbeats 1000000 in
set_option maxRecDepth 100000 in
theorem len_13 (w : World) : Calls Try.prog 33 #[.int .u64 13] w fun e w' => e = .returned (.int .i64 4) ∧ w' = w := by
  go_enter Try.func33, Try.ntmps33
  go_wp2_with (first | (go_at_call 50; refine (len64_13 _).mono ?_; rintro e w' ⟨rfl, rfl⟩))
  go_ret
  exact ⟨rfl, rfl⟩
set_option maxHeartbeats 1000000 in
set_option maxRecDepth 100000 in
theorem pow_13 (w : World) : Calls Try.prog 58 #[.int .i64 13] w fun e w' => e = .returned (.int .u64 16) ∧ w' = w := by
  go_enter Try.func58, Try.ntmps58
  go_wp2_with (first | (go_at_call 33; refine (len_13 _).mono ?_; rintro e w' ⟨rfl, rfl⟩))
  go_ret
  exact ⟨rfl, rfl⟩
set_option maxHeartbeats 1000000 in
set_option maxRecDepth 100000 in
theorem len64_14 (w : World) : Calls Try.prog 50 #[.int .u64 14] w fun e w' => e = .returned (.int .i64 4) ∧ w' = w := by
  go_enter Try.func50, Try.ntmps50
  go_wp2
  go_ret
  exact ⟨by kernel_rfl, rfl⟩
set_option maxHeartbeats 1000000 in
set_option maxRecDepth 100000 in
theorem len_14 (w : World) : Calls Try.prog 33 #[.int .u64 14] w fun e w' => e = .returned (.int .i64 4) ∧ w' = w := by
  go_enter Try.func33, Try.ntmps33
  go_wp2_with (first | (go_at_call 50; refine (len64_14 _).mono ?_; rintro e w' ⟨rfl, rfl⟩))
  go_ret
  exact ⟨rfl, rfl⟩
set_option maxHeartbeats 1000000 in
set_option maxRecDepth 100000 in
theorem pow_14 (w : World) : Calls Try.prog 58 #[.int .i64 14] w fun e w' => e = .returned (.int .u64 16) ∧ w' = w := by
  go_enter Try.func58, Try.ntmps58
  go_wp2_with (first | (go_at_call 33; refine (len_14 _).mono ?_; rintro e w' ⟨rfl, rfl⟩))
  go_ret
  exact ⟨rfl, rfl⟩
set_option maxHeartbeats 1000000 in
set_option maxRecDepth 100000 in
theorem len64_15 (w : World) : Calls Try.prog 50 #[.int .u64 15] w fun e w' => e = .returned (.int .i64 4) ∧ w' = w := by
  go_enter Try.func50, Try.ntmps50
  go_wp2
  go_ret
  exact ⟨by kernel_rfl, rfl⟩
set_option maxHeartbeats 1000000 in
set_option maxRecDepth 100000 in
theorem len_15 (w : World) : Calls Try.prog 33 #[.int .u64 15] w fun e w' => e = .returned (.int .i64 4) ∧ w' = w := by
  go_enter Try.func33, Try.ntmps33
  go_wp2_with (first | (go_at_call 50; refine (len64_15 _).mono ?_; rintro e w' ⟨rfl, rfl⟩))
  go_ret
  exact ⟨rfl, rfl⟩
set_option maxHeartbeats 1000000 in
set_option maxRecDepth 100000 in
theorem pow_15 (w : World) : Calls Try.prog 58 #[.int .i64 15] w fun e w' => e = .returned (.int .u64 16) ∧ w' = w := by
  go_enter Try.func58, Try.ntmps58
  go_wp2_with (first | (go_at_call 33; refine (len_15 _).mono ?_; rintro e w' ⟨rfl, rfl⟩))
  go_ret
  exact ⟨rfl, rfl⟩
set_option maxHeartbeats 1000000 in
set_option maxRecDepth 100000 in
theorem len64_16 (w : World) : Calls Try.prog 50 #[.int .u64 16] w fun e w' => e = .returned (.int .i64 5) ∧ w' = w := by
  go_enter Try.func50, Try.ntmps50
  go_wp2
  go_ret
  exact ⟨by kernel_rfl, rfl⟩
set_option maxHeartbeats 1000000 in
set_option maxRecDepth 100000 in
theorem len_16 (w : World) : Calls Try.prog 33 #[.int .u64 16] w fun e w' => e = .returned (.int .i64 5) ∧ w' = w := by
  go_enter Try.func33, Try.ntmps33
  go_wp2_with (first | (go_at_call 50; refine (len64_16 _).mono ?_; rintro e w' ⟨rfl, rfl⟩))
  go_ret
  exact ⟨rfl, rfl⟩
set_option maxHeartbeats 1000000 in
set_option maxRecDepth 100000 in
theorem pow_16 (w : World) : Calls Try.prog 58 #[.int .i64 16] w fun e w' => e = .returned (.int .u64 32) ∧ w' = w := by
  go_enter Try.func58, Try.ntmps58
  go_wp2_with (first | (go_at_call 33; refine (len_16 _).mono ?_; rintro e w' ⟨rfl, rfl⟩))
  go_ret
  exact ⟨rfl, rfl⟩
set_option maxHeartbeats 4000000 in
set_option maxRecDepth 100000 in
theorem next_any {w0 W : World} {g sb n h : Nat} {r : W64} {S : Nat → Sc} {d : Array Nat} (hs : XS w0 g sb S n d h r W) : Calls Try.prog 59 #[.pointer (some ⟨h, 0, none⟩)] W (NextTo w0 g sb S n d h) := by
  have H0 := Bx.mk hs
  have c0 := hs.cnt.cell 0
  have f0 := hs.cnt.frozen 0
  simp at c0
  clear hs
  obtain ⟨r1, e1⟩ : ∃ q, bits .xor .u64 (num r) (IntKind.u64.wrap (num r * 8192)) = num q := ⟨_, by rw [wrap_num, bits_xr]⟩
  obtain ⟨r2, e2⟩ : ∃ q, bits .xor .u64 (num r1) (num r1 / 128) = num q := ⟨_, by rw [show (128 : Int) = ((2 ^ 7 : Nat) : Int) by rfl, div_num, bits_xr]⟩
  obtain ⟨r3, e3⟩ : ∃ q, bits .xor .u64 (num r2) (IntKind.u64.wrap (num r2 * 131072)) = num q := ⟨_, by rw [wrap_num, bits_xr]⟩
  go_enter Try.func59, Try.ntmps59
  go_wp2_with fail
  go_region
  all_goals
    have H1 := Bx.mk (H0.out.set r1).drew
    generalize (World.setCell W ⟨h, 0, none⟩ (.int .u64 (num r1))).drew = W1 at *
    clear c0 f0 e1 H0
    have c1 := H1.out.cnt.cell 0
    have f1 := H1.out.cnt.frozen 0
    simp at c1
  go_wp2_with fail
  go_region
  all_goals
    have H2 := Bx.mk (H1.out.set r2).drew
    generalize (World.setCell W1 ⟨h, 0, none⟩ (.int .u64 (num r2))).drew = W2 at *
    clear c1 f1 e2 H1
    have c2 := H2.out.cnt.cell 0
    have f2 := H2.out.cnt.frozen 0
    simp at c2
  go_wp2_with fail
  go_region
  all_goals
    have H3 := Bx.mk (H2.out.set r3).drew
    generalize (World.setCell W2 ⟨h, 0, none⟩ (.int .u64 (num r3))).drew = W3 at *
    clear c2 f2 e3 H2
    have c3 := H3.out.cnt.cell 0
    have f3 := H3.out.cnt.frozen 0
    simp at c3
  go_wp2
  go_ret
  exact ⟨r3, rfl, H3.out⟩
end Go.Proofs.Ytimlcjdpnhhjdaa.rk
