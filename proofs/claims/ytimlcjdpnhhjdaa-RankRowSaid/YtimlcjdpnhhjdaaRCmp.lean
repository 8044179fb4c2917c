/-
  Given for the seat's laws: the contract of the comparison of two places. No condition but those of the theorems.
-/
import Derived.Test.YtimlcjdpnhhjdaaRGrew
import Derived.Deep.RegionHeld3
import Derived.BigRegion
namespace Go.Proofs.Ytimlcjdpnhhjdaa.rk
open Go.RowKit mem sp
set_option linter.unusedVariables false

/-- scores as they lie -/
structure Scs (W : World) (sb : Nat) (S : Nat → Sc) (n : Nat) : Prop where
  at_ : ∀ x, x < n → W.cell? ⟨sb, x * 2, none⟩ = some (.bool (S x).has) ∧ W.cell? ⟨sb, x * 2 + 1, none⟩ = some (.int .u64 (S x).top)
theorem Scs.grew {W W' : World} {sb n : Nat} {S : Nat → Sc} (h : Scs W sb S n) (hg : Grew W W') : Scs W' sb S n := ⟨fun x hx => ⟨hg.cell (h.at_ x hx).1, hg.cell (h.at_ x hx).2⟩⟩
theorem Scs.keep {W W' : World} {sb n : Nat} {S : Nat → Sc} (h : Scs W sb S n) (hk : W'.heap[sb]? = W.heap[sb]?) : Scs W' sb S n := ⟨fun x hx => ⟨(World.cell?_of_block hk).trans (h.at_ x hx).1, (World.cell?_of_block hk).trans (h.at_ x hx).2⟩⟩

/-- what the comparison tells -/
def cfv (S : Nat → Sc) (x y : Nat) : Int := if (S x).has = (S y).has then orr (cm (S y).top (S x).top) (cm (x : Int) (y : Int)) else if (S x).has then -1 else 1
theorem cfv_lt (S : Nat → Sc) (x y : Nat) : decide (cfv S x y < 0) = before S x y := by
  unfold cfv before
  split
  · unfold orr
    by_cases h : (S x).top = (S y).top
    · rw [if_pos ((cm_zero _ _).2 h.symm), if_pos h]
      apply decide_eq_decide.2
      rw [cm_neg]
      omega
    · rw [if_neg (fun e => h ((cm_zero _ _).1 e).symm), if_neg h]
      apply decide_eq_decide.2
      rw [cm_neg]
  · split
    · next h => rw [h]; rfl
    · next h => simp at h; rw [h]; rfl

theorem alloc_at {w : World} {cs : Array Value} {t : TypeId} {k j : Nat} {v : Value} (h : w.heap.size = k) (hv : cs[j]? = some v) : (w.alloc (.cells cs t)).cell? ⟨k, j, none⟩ = some v := by
  subst h
  rw [lit_cell]
  exact hv
theorem alloc_at2 {w : World} {cs : Array Value} {t : TypeId} {k j : Nat} {v : Value} (h : w.heap.size = k) (hv : cs[j]? = some v) : (w.alloc (.cells cs t)).drew.cell? ⟨k, j, none⟩ = some v := alloc_at h hv
def CmpTo (v : Int) (w : World) (e : Ending) (w' : World) : Prop := e = .returned (.int .i64 v) ∧ Grew w w'

set_option maxHeartbeats 4000000 in
set_option maxRecDepth 100000 in
theorem compare_any {W : World} {sb n : Nat} {S : Nat → Sc} (hS : Scs W sb S n) {x y : Nat} (hx : x < n) (hy : y < n) (hn : n ≤ 1000) : Calls Try.prog 27 #[.slice (some ⟨sb, 0, none⟩) n n, .int .i64 (x : Int), .int .i64 (y : Int)] W (CmpTo (cfv S x y) W) := by
  obtain ⟨c0, c1⟩ := hS.at_ x hx
  obtain ⟨d0, d1⟩ := hS.at_ y hy
  have x0 : (0 : Int) ≤ (x : Int) := by omega
  have x1 : (x : Int) < (n : Int) := by omega
  have y0 : (0 : Int) ≤ (y : Int) := by omega
  have y1 : (y : Int) < (n : Int) := by omega
  have HX : Bx (cfv S x y = if (S x).has = (S y).has then orr (cm (S y).top (S x).top) (cm (x : Int) (y : Int)) else if (S x).has then -1 else 1) := ⟨rfl⟩
  generalize cfv S x y = v at *
  generalize (S x).has = hax at *
  generalize (S x).top = tx at *
  generalize (S y).has = hay at *
  generalize (S y).top = ty at *
  clear hS
  cases hax with
  | false =>
   cases hay with
   | false =>
    obtain rfl : v = orr (cm ty tx) (cm (x : Int) (y : Int)) := by simpa using HX.out
    clear HX
    have n0 := World.new_ne W _ c0
    have n1 := World.new_ne W _ c1
    have n2 := World.new_ne W _ d0
    have n3 := World.new_ne W _ d1
    go_enter Try.func27, Try.ntmps27
    go_wp2
    go_region_held3 (fun w' => w'.cell? ⟨sb, x * 2, none⟩ = some (.bool false) ∧ w'.cell? ⟨sb, x * 2 + 1, none⟩ = some (.int .u64 tx) ∧ w'.cell? ⟨sb, y * 2, none⟩ = some (.bool false) ∧ w'.cell? ⟨sb, y * 2 + 1, none⟩ = some (.int .u64 ty)) (go_keep) (first | fail)
    all_goals
      go_wp2
      go_region_held3 (fun w' => w'.cell? ⟨sb, x * 2 + 1, none⟩ = some (.int .u64 tx) ∧ w'.cell? ⟨sb, y * 2 + 1, none⟩ = some (.int .u64 ty)) (exact ⟨Grew.cell (by repeat (first | exact Grew.refl _ | apply Grew.drew | apply Grew.alloc)) c1, Grew.cell (by repeat (first | exact Grew.refl _ | apply Grew.drew | apply Grew.alloc)) d1⟩)
        (first
          | (go_at_call 35; refine (cmpU _ _ _).mono ?_; rintro e w' ⟨rfl, rfl⟩)
          | (go_at_call 36; refine (cmpI _ _ _).mono ?_; rintro e w' ⟨rfl, rfl⟩)
          | (go_at_call 34; refine (or_any (x := cm ty tx) (y := cm (x : Int) (y : Int)) (by first | exact alloc_at (by simp) rfl | exact alloc_at2 (by simp) rfl) (by first | exact alloc_at (by simp) rfl | exact alloc_at2 (by simp) rfl)).mono ?_; rintro e w' ⟨rfl, rfl⟩))
    all_goals
      go_wp2
      go_ret
      exact ⟨rfl, by repeat (first | exact Grew.refl _ | apply Grew.drew | apply Grew.alloc)⟩
   | true =>
    obtain rfl : v = 1 := by simpa using HX.out
    clear HX
    have n0 := World.new_ne W _ c0
    have n1 := World.new_ne W _ c1
    have n2 := World.new_ne W _ d0
    have n3 := World.new_ne W _ d1
    go_enter Try.func27, Try.ntmps27
    go_wp2
    go_region_held3 (fun w' => w'.cell? ⟨sb, x * 2, none⟩ = some (.bool false) ∧ w'.cell? ⟨sb, x * 2 + 1, none⟩ = some (.int .u64 tx) ∧ w'.cell? ⟨sb, y * 2, none⟩ = some (.bool true) ∧ w'.cell? ⟨sb, y * 2 + 1, none⟩ = some (.int .u64 ty)) (go_keep) (first | fail)
    all_goals
      go_wp2
      go_ret
      exact ⟨rfl, by repeat (first | exact Grew.refl _ | apply Grew.drew | apply Grew.alloc)⟩
  | true =>
   cases hay with
   | false =>
    obtain rfl : v = -1 := by simpa using HX.out
    clear HX
    have n0 := World.new_ne W _ c0
    have n1 := World.new_ne W _ c1
    have n2 := World.new_ne W _ d0
    have n3 := World.new_ne W _ d1
    go_enter Try.func27, Try.ntmps27
    go_wp2
    go_region_held3 (fun w' => w'.cell? ⟨sb, x * 2, none⟩ = some (.bool true) ∧ w'.cell? ⟨sb, x * 2 + 1, none⟩ = some (.int .u64 tx) ∧ w'.cell? ⟨sb, y * 2, none⟩ = some (.bool false) ∧ w'.cell? ⟨sb, y * 2 + 1, none⟩ = some (.int .u64 ty)) (go_keep) (first | fail)
    all_goals
      go_wp2
      go_ret
      exact ⟨rfl, by repeat (first | exact Grew.refl _ | apply Grew.drew | apply Grew.alloc)⟩
   | true =>
    obtain rfl : v = orr (cm ty tx) (cm (x : Int) (y : Int)) := by simpa using HX.out
    clear HX
    have n0 := World.new_ne W _ c0
    have n1 := World.new_ne W _ c1
    have n2 := World.new_ne W _ d0
    have n3 := World.new_ne W _ d1
    go_enter Try.func27, Try.ntmps27
    go_wp2
    go_region_held3 (fun w' => w'.cell? ⟨sb, x * 2, none⟩ = some (.bool true) ∧ w'.cell? ⟨sb, x * 2 + 1, none⟩ = some (.int .u64 tx) ∧ w'.cell? ⟨sb, y * 2, none⟩ = some (.bool true) ∧ w'.cell? ⟨sb, y * 2 + 1, none⟩ = some (.int .u64 ty)) (go_keep) (first | fail)
    all_goals
      go_wp2
      go_region_held3 (fun w' => w'.cell? ⟨sb, x * 2 + 1, none⟩ = some (.int .u64 tx) ∧ w'.cell? ⟨sb, y * 2 + 1, none⟩ = some (.int .u64 ty)) (exact ⟨Grew.cell (by repeat (first | exact Grew.refl _ | apply Grew.drew | apply Grew.alloc)) c1, Grew.cell (by repeat (first | exact Grew.refl _ | apply Grew.drew | apply Grew.alloc)) d1⟩)
        (first
          | (go_at_call 35; refine (cmpU _ _ _).mono ?_; rintro e w' ⟨rfl, rfl⟩)
          | (go_at_call 36; refine (cmpI _ _ _).mono ?_; rintro e w' ⟨rfl, rfl⟩)
          | (go_at_call 34; refine (or_any (x := cm ty tx) (y := cm (x : Int) (y : Int)) (by first | exact alloc_at (by simp) rfl | exact alloc_at2 (by simp) rfl) (by first | exact alloc_at (by simp) rfl | exact alloc_at2 (by simp) rfl)).mono ?_; rintro e w' ⟨rfl, rfl⟩))
    all_goals
      go_wp2
      go_ret
      exact ⟨rfl, by repeat (first | exact Grew.refl _ | apply Grew.drew | apply Grew.alloc)⟩
end Go.Proofs.Ytimlcjdpnhhjdaa.rk
