/-
  Given for the seat's laws: the contract of textV4. No condition but those of the theorems.
-/
import Derived.Test.YtefpplkoohnfbabGreatDoorHMay
namespace Go.Proofs.YtefpplkoohnfbabGreatDoor.hw
open Go.RowKit mem hostp
set_option linter.unusedVariables false

/-- the library's decimals are those of the plain functions -/
theorem dec_nm (n : Nat) : Lib.decDigits n = nm 10 n := by
  induction n using Nat.strongRecOn with
  | ind n ih =>
    unfold Lib.decDigits
    by_cases h : n < 10
    · rw [dif_pos h, nm_small h]
      unfold dg
      rw [if_pos h]
    · rw [dif_neg h, nm_step (by omega) h, ih _ (by omega)]
      congr 2
      unfold dg
      rw [if_pos (by omega)]
theorem itoa_nm (n : Int) (h : 0 ≤ n) : (⟨(Lib.itoa n).toArray⟩ : ByteArray) = S (nm 10 n.toNat) := by
  unfold Lib.itoa S
  rw [if_neg (by omega), dec_nm]
/-! ### texts with a byte between, as the library joins them -/
/-- the cells of an array of four texts, when k of them have been written -/
def v4cells (b : Str) (k : Nat) : Array Value := ((List.range 4).map fun i => if i < k then Value.string (S (nm 10 (b.getD i 0).toNat)) else Value.string ⟨#[]⟩).toArray
theorem v4_zero (b : Str) : v4cells b 0 = #[.string ⟨#[]⟩, .string ⟨#[]⟩, .string ⟨#[]⟩, .string ⟨#[]⟩] := by
  unfold v4cells
  simp [List.range, List.range.loop]
theorem v4_step {b : Str} {k : Nat} (hk : k < 4) : (v4cells b k).setIfInBounds k (.string (S (nm 10 (b.getD k 0).toNat))) = v4cells b (k + 1) := by
  unfold v4cells
  have h : k = 0 ∨ k = 1 ∨ k = 2 ∨ k = 3 := by omega
  rcases h with rfl | rfl | rfl | rfl <;> simp [List.range, List.range.loop]
theorem v4_end (b : Str) (j : Nat) (hj : j < 4) : (v4cells b 4)[j]? = some (.string (S (nm 10 (b.getD j 0).toNat))) := by
  unfold v4cells
  have h : j = 0 ∨ j = 1 ∨ j = 2 ∨ j = 3 := by omega
  rcases h with rfl | rfl | rfl | rfl <;> simp [List.range, List.range.loop]
theorem nm10_len (c : UInt8) : (nm 10 c.toNat).length ≤ 3 := nm_len (by omega) 2 c.toNat (by have := c.toNat_lt; omega)
theorem join_len (a : UInt8) (m : Nat) : ∀ {l : List Str}, (∀ x ∈ l, x.length ≤ m) → (join a l).length ≤ l.length * (m + 1)
  | [], _ => by simp [join]
  | [x], h => by have := h x (by simp); simp [join]; omega
  | x :: y :: r, h => by
    have h1 := h x (by simp)
    have h2 := join_len a m (l := y :: r) (fun z hz => h z (by simp at hz ⊢; exact .inr hz))
    show (x ++ a :: join a (y :: r)).length ≤ _
    rw [List.length_append, List.length_cons, List.length_cons, Nat.add_mul]
    omega

end Go.Proofs.YtefpplkoohnfbabGreatDoor.hw
