/-
  Given for the seat's laws: greetings as lists of bytes. Plain: nothing of the program. No condition.
-/
import Derived.Lib.Hide
namespace Go.Proofs.Ytdjfpkobnggohaa.gr
set_option linter.unusedVariables false

abbrev Str := List UInt8

/-- what Take gives: the methods, the length, the number of the error -/
def tk : Str → Str × Nat × Nat
  | [] => ([], 0, 5)
  | v :: r => if v = 5 then tk1 r else ([], 0, 6)
where
  tk1 : Str → Str × Nat × Nat
  | [] => ([], 0, 5)
  | k :: ms => if k = 0 then ([], 0, 6) else if ms.length < k.toNat then ([], 0, 5) else (ms.take k.toNat, 2 + k.toNat, 0)

/-- what TakeAnswer gives -/
def ch : Str → Nat × Nat × Nat
  | [] => (0, 0, 5)
  | v :: r => if v = 5 then ch1 r else (0, 0, 6)
where
  ch1 : Str → Nat × Nat × Nat
  | [] => (0, 0, 5)
  | m :: _ => (m.toNat, 2, 0)

/-- what begins with a greeting, or not -/
inductive Way (b : Str) : Prop
  | none (h : b = [])
  | other (v : UInt8) (r : Str) (h : b = v :: r) (hv : v ≠ 5)
  | one (h : b = [5])
  | zero (r : Str) (h : b = 5 :: 0 :: r)
  | short (k : UInt8) (ms : Str) (h : b = 5 :: k :: ms) (hk : k ≠ 0) (hl : ms.length < k.toNat)
  | whole (k : UInt8) (ms : Str) (h : b = 5 :: k :: ms) (hk : k ≠ 0) (hl : k.toNat ≤ ms.length)
theorem way (b : Str) : Way b := by
  match b with
  | [] => exact .none rfl
  | v :: r =>
    by_cases hv : v = 5
    · subst hv
      match r with
      | [] => exact .one rfl
      | k :: ms =>
        by_cases hk : k = 0
        · subst hk; exact .zero ms rfl
        · by_cases hl : ms.length < k.toNat
          · exact .short k ms rfl hk hl
          · exact .whole k ms rfl hk (by omega)
    · exact .other v r rfl hv
theorem tk_nil : tk [] = ([], 0, 5) := rfl
theorem tk_other {v : UInt8} {r : Str} (h : v ≠ 5) : tk (v :: r) = ([], 0, 6) := by simp [tk, h]
theorem tk_one : tk [5] = ([], 0, 5) := rfl
theorem tk_zero (r : Str) : tk (5 :: 0 :: r) = ([], 0, 6) := by simp [tk, tk.tk1]
theorem tk_short {k : UInt8} {ms : Str} (hk : k ≠ 0) (hl : ms.length < k.toNat) : tk (5 :: k :: ms) = ([], 0, 5) := by simp [tk, tk.tk1, hk, hl]
theorem tk_whole {k : UInt8} {ms : Str} (hk : k ≠ 0) (hl : k.toNat ≤ ms.length) : tk (5 :: k :: ms) = (ms.take k.toNat, 2 + k.toNat, 0) := by
  have : ¬ ms.length < k.toNat := by omega
  simp [tk, tk.tk1, hk, this]
theorem toNat_pos {k : UInt8} (h : k ≠ 0) : 0 < k.toNat ∧ k.toNat < 256 := by
  have := k.toNat_lt
  rcases Nat.eq_zero_or_pos k.toNat with h0 | h0
  · exact absurd (UInt8.toNat_inj.1 (by simpa using h0)) h
  · omega
theorem byte_ne {v : UInt8} (h : v ≠ 5) : (v.toNat : Int) ≠ 5 := by
  intro e
  exact h (UInt8.toNat_inj.1 (by have : v.toNat = 5 := by omega
                                 simpa using this))
end Go.Proofs.Ytdjfpkobnggohaa.gr
