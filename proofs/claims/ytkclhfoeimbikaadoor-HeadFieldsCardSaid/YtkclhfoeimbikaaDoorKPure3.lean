/-
  Given for the seat's laws: heads of so many fields. Plain: nothing of the program. No condition.
-/
import Derived.Test.YtkclhfoeimbikaaDoorKVal
namespace Go.Proofs.YtkclhfoeimbikaaDoor.hd
set_option linter.unusedVariables false

def nm (i : Nat) : Str := [110, UInt8.ofNat (97 + i)]
def vl (i : Nat) : Str := [UInt8.ofNat (65 + i)]
def fa (i : Nat) : Str := [110, UInt8.ofNat (97 + i), 58]
def fl (g : Bool) (i : Nat) : Str := fa i ++ (if g then [32, 9] else []) ++ (vl i ++ [13, 10])
def ft (g : Bool) : Nat → Str
  | 0 => [65, 13, 10]
  | i + 1 => ft g i ++ fl g i
def ff (n : Nat) : Flds := (List.range n).map fun i => (nm i, vl i)
theorem ft_len (g : Bool) (n : Nat) : (ft g n).length ≤ 3 + 8 * n := by
  induction n with
  | zero => simp [ft]
  | succ n ih =>
    simp only [ft, fl, fa, vl, List.length_append, List.length_cons, List.length_nil]
    cases g <;> simp <;> omega
theorem ff_len (n : Nat) : (ff n).length = n := by simp [ff]
theorem ff_at {n i : Nat} (h : i < n) : (ff n)[i]? = some (nm i, vl i) := by simp [ff, h]
def chk (g : Bool) (n : Nat) : Bool := decide (take (ft g n ++ [13, 10]) = ([65], ff n, (ft g n).length + 2, 0))
theorem chk_all : ∀ n, n < 17 → (chk true n && chk false n) = true := by decide +kernel
theorem ft_ok (g : Bool) (n : Nat) (h : n ≤ 16) : take (ft g n ++ [13, 10]) = ([65], ff n, (ft g n).length + 2, 0) := by
  have := chk_all n (by omega)
  rw [Bool.and_eq_true] at this
  cases g
  · exact of_decide_eq_true this.2
  · exact of_decide_eq_true this.1
theorem ft_more5 (g : Bool) : take (ft g 16) = ([], [], 0, 5) := by
  cases g
  · decide +kernel
  · decide +kernel
theorem ft_more3 (g : Bool) : take (ft g 16 ++ [120]) = ([], [], 0, 3) := by
  cases g
  · decide +kernel
  · decide +kernel
theorem ft_more6 (g : Bool) : take (ft g 16 ++ [32]) = ([], [], 0, 6) := by
  cases g
  · decide +kernel
  · decide +kernel
def chv (n i : Nat) : Bool := decide (vals (ff n) (nm i) = [vl i])
theorem chv_all : ∀ n, n < 17 → ∀ i, i < n → chv n i = true := by decide +kernel
theorem ff_vals {n i : Nat} (h : i < n) (hn : n ≤ 16) : vals (ff n) (nm i) = [vl i] := of_decide_eq_true (chv_all n (by omega) i h)
end Go.Proofs.YtkclhfoeimbikaaDoor.hd
