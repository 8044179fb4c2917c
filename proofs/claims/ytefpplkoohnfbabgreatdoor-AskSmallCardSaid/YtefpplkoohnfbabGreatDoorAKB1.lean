/-
  Given for the seat's laws: what is printed is taken, and the other way. Plain. No condition.
-/
import Derived.Test.YtefpplkoohnfbabGreatDoorAPrint
namespace Go.Proofs.YtefpplkoohnfbabGreatDoor.ak
open Go.RowKit mem hostp hw own
set_option linter.unusedVariables false

theorem may_tt {k : Nat} {x : Str} (h : (k = 1 ∧ x.length = 4) ∨ (k = 2 ∧ x.length = 16) ∨ (k = 3 ∧ nameB x = true)) : may (hh (k : Int) (S x)) = true := by
  refine may_iff.2 ?_
  simp only [hh, S_list, Int.toNat_natCast]
  exact h
theorem mayT_tt {k : Nat} {x : Str} {q : Nat} (h : (k = 1 ∧ x.length = 4) ∨ (k = 2 ∧ x.length = 16) ∨ (k = 3 ∧ nameB x = true)) (h1 : 1 ≤ q) (h2 : q ≤ 65535) : mayT (tt (k : Int) (S x) (q : Int)) = true := by
  rw [mayT_eq, may_tt h]
  simp
  omega
theorem byte_back (a : UInt8) : UInt8.ofNat a.toNat = a := by simp
theorem port_parts (a b : UInt8) : (256 * a.toNat + b.toNat) / 256 = a.toNat ∧ (256 * a.toNat + b.toNat) % 256 = b.toNat := by
  have := a.toNat_lt
  have := b.toNat_lt
  omega
theorem fits_may {k : Nat} {y : Str} (h : fits k y) : (k = 1 ∧ (nm_ k y).length = 4) ∨ (k = 2 ∧ (nm_ k y).length = 16) ∨ (k = 3 ∧ nameB (nm_ k y) = true) := by
  rcases h with ⟨rfl, h⟩ | ⟨rfl, h⟩ | ⟨rfl, h⟩
  · exact .inl ⟨rfl, h⟩
  · exact .inr (.inl ⟨rfl, h⟩)
  · exact .inr (.inr ⟨rfl, h⟩)
theorem nm_len (k : Nat) (y : Str) : (nm_ k y).length = y.length := by unfold nm_; split <;> simp [low]
theorem hdn5 (k : Nat) : hdn k ≤ 5 := by
  unfold hdn
  split
  · omega
  · split <;> omega
/-- what is printed is taken -/
theorem back1 {k : Nat} {x : Str} {q : Nat} (hm : mayT (tt (k : Int) (S x) (q : Int)) = true) (r : Str) : tk (pr k x q ++ r) = ⟨k, x, q, (pr k x q).length, 0⟩ ∧ (pr k x q).length ≤ 47 ∧ x.length ≤ 40 := by
  obtain ⟨h1, h2, h3⟩ := mayT_port hm
  have hm := may_fits h1
  have hq : q ≤ 65535 := by omega
  obtain ⟨p1, p2⟩ := port_bytes hq
  have hf : fits k x ∧ nm_ k x = x := by
    rcases hm with ⟨h, hx⟩ | ⟨h, hx⟩ | ⟨h, hx⟩
    · obtain rfl : k = 1 := by omega
      exact ⟨.inl ⟨rfl, hx⟩, rfl⟩
    · obtain rfl : k = 2 := by omega
      exact ⟨.inr (.inl ⟨rfl, hx⟩), rfl⟩
    · obtain rfl : k = 3 := by omega
      have hl := name_low hx
      exact ⟨.inr (.inr ⟨rfl, by rw [hl]; exact hx⟩), hl⟩
  have hxl := fits_len hf.1
  have e : pr k x q ++ r = hdr k x.length ++ (x ++ UInt8.ofNat (q / 256) :: UInt8.ofNat (q % 256) :: r) := by simp [pr]
  have hp : 256 * (UInt8.ofNat (q / 256)).toNat + (UInt8.ofNat (q % 256)).toNat = q := by rw [p1, p2]; omega
  have hh4 : hdn k ≤ 5 := hdn5 k
  refine ⟨?_, by rw [pr_len]; omega, hxl.2⟩
  rw [e, tk_form hf.1 (by rw [hp]; omega), hp, hf.2, pr_len]
end Go.Proofs.YtefpplkoohnfbabGreatDoor.ak
