/-
  Given for the seat's laws: what is read of a slice of numbers, of bools, of acts that came in. No condition.
-/
import Derived.Test.YtpidjekabnnmcaaQIn
import Derived.ProofKit
import Derived.OpenShut
import Derived.ChangeOld
import Derived.Carry
import Derived.Lib.SmallJoins
import Derived.Deep.Slices
import Derived.Deep.Fields
import Derived.Deep.Grids
import Derived.SliceStrings
namespace Go.Proofs.Ytpidjekabnnmcaa.lift
open Go.ChangeShapes Go.WideShapes Go.ChangeAt Go.RowKit Go.Joins Go.Deep mem pl
set_option linter.unusedVariables false
set_option maxRecDepth 100000

section
variable {H : Type} {enc : TypeId × Value → H} {W : World}

theorem lt_of_cell {a : Addr} {v : Value} (h : W.cell? a = some v) : a.block < W.heap.size := by
  rcases Nat.lt_or_ge a.block W.heap.size with h1 | h1
  · exact h1
  · simp [World.cell?, Array.getElem?_eq_none h1] at h

theorem ints_of_Trod {base : Nat} {v : Value} {d : DataW H} {ps : List MemPlace} (hv : Value.okWide Try.prog W .any base 47 v) (h : DataW.Trod enc Try.prog W 0 (fun _ => true) true 47 v d ps) :
    ∃ (A : Option Addr) (c : Nat) (zs : List Int), v = .slice A zs.length c ∧ zs.length ≤ maxLen ∧ RowAt W (fun g => g < W.heap.size) A (I8 zs) := by
  obtain ⟨a0, len, cap, rfl⟩ := okWide_slice Try.underlying47 hv
  obtain ⟨fuel, hf⟩ := h
  rcases open_ints Try.underlying47 Try.underlying3 (by kernel_rfl) hf with ⟨hcs, _⟩ | ⟨a, l, c, zs, hcs, _, hl, hm, hz, _, hcell, hwz⟩
  · simp [Value.cells] at hcs
    obtain ⟨rfl, rfl, rfl⟩ := hcs
    exact ⟨none, 0, [], rfl, by simp [maxLen], ⟨fun h => absurd h (by simp [I8])⟩⟩
  · simp only [if_true] at hz
    simp [Value.cells] at hcs
    obtain ⟨rfl, rfl, rfl⟩ := hcs
    have hlen : (zs.take len).length = len := by rw [List.length_take]; omega
    refine ⟨some a, cap, zs.take len, by rw [hlen], by rw [hlen]; omega, ⟨fun hp => ?_⟩⟩
    rw [I8_len, hlen] at hp
    have h0 := hcell 0 (by omega)
    have hspot : a.spot = none := by simpa [Addr.add] using World.cell?_spot h0
    have hlt := lt_of_cell h0
    obtain ⟨b, off, spot⟩ := a
    subst hspot
    refine ⟨b, off, rfl, by simpa [Addr.add] using hlt, fun j z hz' => ?_⟩
    unfold I8 at hz'
    rw [List.getElem?_map, List.getElem?_take] at hz'
    split at hz'
    · obtain ⟨y, hy, rfl⟩ := Option.map_eq_some_iff.1 hz'
      have hj := (List.getElem?_eq_some_iff.1 hy).1
      have h1 := hcell j hj
      have hv : zs.getD j 0 = y := by rw [List.getD_eq_getElem?_getD, hy]; rfl
      rw [hv] at h1
      by_cases hj0 : j = 0
      · subst hj0; simpa [Addr.add] using h1
      · simpa [Addr.add, hj0] using h1
    · cases hz'

theorem bools_of_Trod {base : Nat} {v : Value} {d : DataW H} {ps : List MemPlace} (hv : Value.okWide Try.prog W .any base 54 v) (h : DataW.Trod enc Try.prog W 0 (fun _ => true) true 54 v d ps) :
    ∃ (A : Option Addr) (c : Nat) (l : List Bool), v = .slice A l.length c ∧ l.length ≤ maxLen ∧ RowAt W (fun g => g < W.heap.size) A (BV l) := by
  obtain ⟨a0, len, cap, rfl⟩ := okWide_slice Try.underlying54 hv
  obtain ⟨fuel, hf⟩ := h
  rcases open_bools Try.underlying54 Try.underlying4 (by kernel_rfl) hf with ⟨hcs, _⟩ | ⟨a, l, c, B, hcs, _, hl, hm, _, hcell⟩
  · simp [Value.cells] at hcs
    obtain ⟨rfl, rfl, rfl⟩ := hcs
    exact ⟨none, 0, [], rfl, by simp [maxLen], ⟨fun h => absurd h (by simp [BV])⟩⟩
  · simp [Value.cells] at hcs
    obtain ⟨rfl, rfl, rfl⟩ := hcs
    have hlen : ((List.range len).map B).length = len := by simp
    refine ⟨some a, cap, (List.range len).map B, by rw [hlen], by rw [hlen]; omega, ⟨fun hp => ?_⟩⟩
    rw [BV_len, hlen] at hp
    have h0 := hcell 0 (by omega)
    have hspot : a.spot = none := by simpa [Addr.add] using World.cell?_spot h0
    have hlt := lt_of_cell h0
    obtain ⟨b, off, spot⟩ := a
    subst hspot
    refine ⟨b, off, rfl, by simpa [Addr.add] using hlt, fun j z hz' => ?_⟩
    unfold BV at hz'
    rw [List.getElem?_map, List.getElem?_map] at hz'
    by_cases hj : j < len
    · rw [List.getElem?_range hj] at hz'
      simp only [Option.map_some, Option.some.injEq] at hz'
      subst hz'
      have h1 := hcell j (by omega)
      by_cases hj0 : j = 0
      · subst hj0; simpa [Addr.add] using h1
      · simpa [Addr.add, hj0] using h1
    · rw [List.getElem?_eq_none (by simp; omega)] at hz'
      cases hz'
end
end Go.Proofs.Ytpidjekabnnmcaa.lift
