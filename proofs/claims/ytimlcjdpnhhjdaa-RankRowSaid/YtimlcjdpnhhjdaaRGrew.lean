/-
  Given for the seat's laws: what a call keeps that only makes memory of its own; the contracts of cmp.Compare at two kinds and of cmp.Or. No condition but those of the theorems.
-/
import Derived.Test.YtimlcjdpnhhjdaaPMade
import Derived.Test.YtimlcjdpnhhjdaaRPure
import Derived.Sort.Grow
namespace Go.Proofs.Ytimlcjdpnhhjdaa.rk
open Go.RowKit mem sp
open Go.Sort (grow)
set_option linter.unusedVariables false

/-- draws, and blocks of the call's own behind what was there; nothing else -/
structure Grew (w w' : World) : Prop where
  ex : ∃ q os', w' = grow (w.drewN q) os'
section
variable {w w' w'' : World}
theorem Grew.refl (w : World) : Grew w w := ⟨0, #[], by rw [Go.Sort.grow_empty]; rfl⟩
theorem Grew.drewN (h : Grew w w') (n : Nat) : Grew w (w'.drewN n) := by
  obtain ⟨q, os, rfl⟩ := h.ex
  refine ⟨q + n, os, ?_⟩
  show grow ((w.drewN q).drewN n) os = _
  rw [World.drewN_drewN]
theorem Grew.drew (h : Grew w w') : Grew w w'.drew := h.drewN 1
theorem Grew.grow (h : Grew w w') (os' : Array Obj) : Grew w (grow w' os') := by
  obtain ⟨q, os, rfl⟩ := h.ex
  exact ⟨q, os ++ os', by rw [Go.Sort.grow_grow]⟩
theorem Grew.trans (h : Grew w w') (k : Grew w' w'') : Grew w w'' := by
  obtain ⟨q, os, rfl⟩ := k.ex
  exact (h.drewN q).grow os
theorem Grew.alloc (h : Grew w w') (o : Obj) : Grew w (w'.alloc o) := by
  rw [Go.Sort.alloc_eq_grow]
  exact h.grow _
theorem Grew.setCell (h : Grew w w') {p : Addr} (hp : w.heap.size ≤ p.block) (u : Value) : Grew w (w'.setCell p u) := by
  obtain ⟨q, os, rfl⟩ := h.ex
  have hm := fun f => Go.Sort.modify_append_right w.heap os p.block f hp
  constructor
  have e : ∃ os', ((Go.Sort.grow (w.drewN q) os).setCell p u).heap = w.heap ++ os' := by
    have e0 : ((Go.Sort.grow (w.drewN q) os).setCell p u).heap = (w.heap ++ os).modify p.block (fun
      | .cells c elem fr => .cells (if p.spot.isSome then c else c.setIfInBounds p.off u) elem fr
      | o => o) := rfl
    exact ⟨_, e0.trans (hm _)⟩
  obtain ⟨os', e⟩ := e
  refine ⟨q, os', ?_⟩
  have e2 : (Go.Sort.grow (w.drewN q) os).setCell p u = { (Go.Sort.grow (w.drewN q) os) with heap := ((Go.Sort.grow (w.drewN q) os).setCell p u).heap } := rfl
  rw [e2, e]
  rfl
theorem Grew.below (h : Grew w w') : Below w.heap.size w w' := by
  obtain ⟨q, os, rfl⟩ := h.ex
  exact ⟨rfl, rfl, rfl, by simp, fun k hk => Go.Sort.heap_grow_old _ _ hk⟩
theorem Grew.size (h : Grew w w') : w.heap.size ≤ w'.heap.size := h.below.size
theorem Grew.cell (h : Grew w w') {a : Addr} {v : Value} (hc : w.cell? a = some v) : w'.cell? a = some v := cell_kept hc h.below
end

/-- which comes first of two numbers -/
def cm (x y : Int) : Int := if x < y then -1 else if y < x then 1 else 0
theorem cm_neg (x y : Int) : cm x y < 0 ↔ x < y := by unfold cm; split <;> (try split) <;> omega
theorem cm_zero (x y : Int) : cm x y = 0 ↔ x = y := by unfold cm; split <;> (try split) <;> omega

theorem nanU (x : Int) (w : World) : Calls Try.prog 51 #[.int .u64 x] w fun e w' => e = .returned (.bool false) ∧ w' = w := by
  go_enter Try.func51, Try.ntmps51
  go_wp2
  go_ret
  exact ⟨by simp, rfl⟩
theorem nanI (x : Int) (w : World) : Calls Try.prog 52 #[.int .i64 x] w fun e w' => e = .returned (.bool false) ∧ w' = w := by
  go_enter Try.func52, Try.ntmps52
  go_wp2
  go_ret
  exact ⟨by simp, rfl⟩
set_option maxHeartbeats 1000000 in
theorem cmpU (x y : Int) (w : World) : Calls Try.prog 35 #[.int .u64 x, .int .u64 y] w fun e w' => e = .returned (.int .i64 (cm x y)) ∧ w' = w := by
  by_cases h1 : x < y
  · have hc : cm x y = -1 := if_pos h1
    rw [hc]
    go_enter Try.func35, Try.ntmps35
    go_wp2_with (first | (go_at_call 51; refine (nanU _ _).mono ?_; rintro e w' ⟨rfl, rfl⟩))
    go_ret
    exact ⟨rfl, rfl⟩
  · by_cases h2 : y < x
    · have hc : cm x y = 1 := (if_neg h1).trans (if_pos h2)
      have h3 : y ≤ x := by omega
      rw [hc]
      clear h1
      go_enter Try.func35, Try.ntmps35
      go_wp2_with (first | (go_at_call 51; refine (nanU _ _).mono ?_; rintro e w' ⟨rfl, rfl⟩))
      go_ret
      exact ⟨rfl, rfl⟩
    · obtain rfl : x = y := by omega
      have hc : cm x x = 0 := (cm_zero x x).2 rfl
      rw [hc]
      clear h1 h2
      go_enter Try.func35, Try.ntmps35
      go_wp2_with (first | (go_at_call 51; refine (nanU _ _).mono ?_; rintro e w' ⟨rfl, rfl⟩))
      go_ret
      exact ⟨rfl, rfl⟩
set_option maxHeartbeats 1000000 in
theorem cmpI (x y : Int) (w : World) : Calls Try.prog 36 #[.int .i64 x, .int .i64 y] w fun e w' => e = .returned (.int .i64 (cm x y)) ∧ w' = w := by
  by_cases h1 : x < y
  · have hc : cm x y = -1 := if_pos h1
    rw [hc]
    go_enter Try.func36, Try.ntmps36
    go_wp2_with (first | (go_at_call 52; refine (nanI _ _).mono ?_; rintro e w' ⟨rfl, rfl⟩))
    go_ret
    exact ⟨rfl, rfl⟩
  · by_cases h2 : y < x
    · have hc : cm x y = 1 := (if_neg h1).trans (if_pos h2)
      have h3 : y ≤ x := by omega
      rw [hc]
      clear h1
      go_enter Try.func36, Try.ntmps36
      go_wp2_with (first | (go_at_call 52; refine (nanI _ _).mono ?_; rintro e w' ⟨rfl, rfl⟩))
      go_ret
      exact ⟨rfl, rfl⟩
    · obtain rfl : x = y := by omega
      have hc : cm x x = 0 := (cm_zero x x).2 rfl
      rw [hc]
      clear h1 h2
      go_enter Try.func36, Try.ntmps36
      go_wp2_with (first | (go_at_call 52; refine (nanI _ _).mono ?_; rintro e w' ⟨rfl, rfl⟩))
      go_ret
      exact ⟨rfl, rfl⟩
/-- the first that is not 0 -/
def orr (x y : Int) : Int := if x = 0 then y else x
set_option maxHeartbeats 1000000 in
theorem or_any {w : World} {g : Nat} {x y : Int} (hx : w.cell? ⟨g, 0, none⟩ = some (.int .i64 x)) (hy : w.cell? ⟨g, 1, none⟩ = some (.int .i64 y)) : Calls Try.prog 34 #[.slice (some ⟨g, 0, none⟩) 2 2] w fun e w' => e = .returned (.int .i64 (orr x y)) ∧ w' = w := by
  by_cases h0 : x = 0
  · subst h0
    have hc : orr 0 y = y := if_pos rfl
    rw [hc]
    by_cases h1 : y = 0
    · subst h1
      go_enter Try.func34, Try.ntmps34
      go_wp2
      refine wp_loop_rounds 3 ?_
      rw [rounds_succ]
      go_wp2
      rw [rounds_succ]
      go_wp2
      rw [rounds_succ]
      go_wp2
      go_ret
      exact ⟨rfl, rfl⟩
    · have h2 : (y != 0) = true := by simpa using h1
      clear h1
      go_enter Try.func34, Try.ntmps34
      go_wp2
      refine wp_loop_rounds 2 ?_
      rw [rounds_succ]
      go_wp2
      rw [rounds_succ]
      go_wp2
      go_ret
      exact ⟨rfl, rfl⟩
  · have hc : orr x y = x := if_neg h0
    rw [hc]
    have h2 : (x != 0) = true := by simpa using h0
    clear h0
    go_enter Try.func34, Try.ntmps34
    go_wp2
    refine wp_loop_rounds 1 ?_
    rw [rounds_succ]
    go_wp2
    go_ret
    exact ⟨rfl, rfl⟩
end Go.Proofs.Ytimlcjdpnhhjdaa.rk
