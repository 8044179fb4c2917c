/-
  Given for the seat's laws: where the turned row's places lie. No condition.
-/
import Derived.Test.YtimlcjdpnhhjdaaRPure
namespace Go.Proofs.Ytimlcjdpnhhjdaa.rk
set_option linter.unusedVariables false

/-- where the turned row's place a lies in the row -/
def fx (bk : Bool) (q n a : Nat) : Nat := if bk then n - 1 - (q + a) % n else (q + a) % n
theorem fx_lt {bk : Bool} {q n a : Nat} (h : 0 < n) : fx bk q n a < n := by
  have := Nat.mod_lt (q + a) h
  unfold fx
  split <;> omega
theorem fx_inj {bk : Bool} {q n a b : Nat} (hq : q < n) (ha : a < n) (hb : b < n) (e : fx bk q n a = fx bk q n b) : a = b := by
  have h1 := Nat.mod_lt (q + a) (show 0 < n by omega)
  have h2 := Nat.mod_lt (q + b) (show 0 < n by omega)
  have e2 : (q + a) % n = (q + b) % n := by
    unfold fx at e
    split at e <;> omega
  have m1 : q + a < n ∧ (q + a) % n = q + a ∨ n ≤ q + a ∧ (q + a) % n = q + a - n := by
    by_cases h : q + a < n
    · exact .inl ⟨h, Nat.mod_eq_of_lt h⟩
    · refine .inr ⟨by omega, ?_⟩
      rw [Nat.mod_eq_sub_mod (by omega)]
      exact Nat.mod_eq_of_lt (by omega)
  have m2 : q + b < n ∧ (q + b) % n = q + b ∨ n ≤ q + b ∧ (q + b) % n = q + b - n := by
    by_cases h : q + b < n
    · exact .inl ⟨h, Nat.mod_eq_of_lt h⟩
    · refine .inr ⟨by omega, ?_⟩
      rw [Nat.mod_eq_sub_mod (by omega)]
      exact Nat.mod_eq_of_lt (by omega)
  omega
theorem perm_of_nodup_len : ∀ {a b : List Nat}, a.Nodup → (∀ x ∈ a, x ∈ b) → a.length = b.length → a.Perm b
  | [], b, _, _, h => by
    have : b = [] := List.length_eq_zero_iff.1 h.symm
    rw [this]
  | x :: a, b, hn, hs, h => by
    have hx : x ∈ b := hs x (by simp)
    have h0 : 0 < b.length := List.length_pos_of_mem hx
    have h1 := perm_of_nodup_len (a := a) (b := b.erase x) (List.nodup_cons.1 hn).2 (fun y hy => by
      have hne : y ≠ x := fun e => (List.nodup_cons.1 hn).1 (e ▸ hy)
      exact (List.mem_erase_of_ne hne).2 (hs y (by simp [hy]))) (by
      rw [List.length_erase_of_mem hx]
      simp only [List.length_cons] at h
      omega)
    exact (List.Perm.cons x h1).trans (List.perm_cons_erase hx).symm
theorem fx_perm {bk : Bool} {q n : Nat} (hq : q < n) : ((List.range n).map (fx bk q n)).Perm (List.range n) := by
  refine perm_of_nodup_len ?_ (fun x hx => ?_) (by simp)
  · unfold List.Nodup
    rw [List.pairwise_map]
    refine (List.nodup_range (n := n)).imp_of_mem (fun {a b} ha hb hne e => hne (fx_inj hq (List.mem_range.1 ha) (List.mem_range.1 hb) e))
  · obtain ⟨a, _, rfl⟩ := List.mem_map.1 hx
    exact List.mem_range.2 (fx_lt (by omega))
end Go.Proofs.Ytimlcjdpnhhjdaa.rk
