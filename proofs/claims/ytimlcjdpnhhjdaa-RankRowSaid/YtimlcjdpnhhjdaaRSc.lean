/-
  Given for the seat's laws: draws and scores over plain numbers. No program, no memory.
-/
import Derived.Test.YtimlcjdpnhhjdaaRPure
import Derived.Test.YtimlcjdpnhhjdaaPPure
namespace Go.Proofs.Ytimlcjdpnhhjdaa.rk
open Go sp
set_option linter.unusedVariables false

def hk (i : Nat) (key : Str) : W64 := hsum (mk i) (mk 0) key
def drw (k0 k1 : W64) (name : Str) (i : Nat) : W64 := hsum k0 k1 (name ++ [UInt8.ofNat i])
def mx (x y : W64) : W64 := if num x < num y then y else x
theorem mx_num (x y : W64) : num (mx x y) = max (num x) (num y) := by
  unfold mx
  split <;> omega
theorem mx_zero (y : W64) : mx (mk 0) y = y := by
  unfold mx
  split
  · rfl
  · next h =>
    have h1 := num_range y
    have h0 : num (mk 0) = 0 := by rw [num_mk (by omega)]; rfl
    exact num_inj (by omega)
/-- the greatest of so many draws -/
def sup (k0 k1 : W64) (name : Str) : Nat → W64
  | 0 => mk 0
  | i + 1 => mx (sup k0 k1 name i) (drw k0 k1 name i)
theorem sup_one (k0 k1 : W64) (name : Str) : sup k0 k1 name 1 = drw k0 k1 name 0 := mx_zero _
/-- so many draws has a weight -/
def cnt (z : Int) : Nat := min z.toNat 100
theorem sup_mono (k0 k1 : W64) (name : Str) : ∀ {i j : Nat}, i ≤ j → num (sup k0 k1 name i) ≤ num (sup k0 k1 name j)
  | i, 0, h => by
    have : i = 0 := by omega
    rw [this]; omega
  | i, j + 1, h => by
    by_cases e : i = j + 1
    · rw [e]; omega
    · have := sup_mono k0 k1 name (show i ≤ j by omega)
      show _ ≤ num (mx _ _)
      rw [mx_num]
      omega
def sco (k0 k1 : W64) (name : Str) (z : Int) : Sc := ⟨decide (0 < z), num (sup k0 k1 name (cnt z))⟩
def scoK (key name : Str) (z : Int) : Sc := sco (hk 0 key) (hk 1 key) name z
theorem sco_none {k0 k1 : W64} {name : Str} {z : Int} (h : ¬ 0 < z) : sco k0 k1 name z = ⟨false, 0⟩ := by
  have e : cnt z = 0 := by unfold cnt; omega
  unfold sco
  rw [e]
  have : num (sup k0 k1 name 0) = 0 := by show num (mk 0) = 0; rw [num_mk (by omega)]; rfl
  rw [this]
  simp [h]
theorem sco_most (k0 k1 : W64) (name : Str) {y z : Int} (h : y ≤ z) : most (sco k0 k1 name y) (sco k0 k1 name z) := by
  have hc : cnt y ≤ cnt z := by unfold cnt; omega
  have := sup_mono k0 k1 name hc
  unfold most sco
  dsimp only
  split
  · exact this
  · next hne =>
    by_cases h1 : 0 < y
    · have : 0 < z := by omega
      simp [h1, this] at hne
    · by_cases h2 : 0 < z
      · simp [h2]
      · simp [h1, h2] at hne
end Go.Proofs.Ytimlcjdpnhhjdaa.rk
