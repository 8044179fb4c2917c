/-
  Given for the seat's laws: what is read of a slice of strings, of a slice of numbers, that came in. No condition.
-/
import Derived.Test.YtimlcjdpnhhjdaaPLift
import Derived.Test.YtimlcjdpnhhjdaaRGreat
import Derived.Deep.Strs
import Derived.SliceStrings
namespace Go.Proofs.Ytimlcjdpnhhjdaa.lift
open Go.ChangeShapes Go.WideShapes Go.ChangeAt Go.RowKit Go.Joins Go.Deep mem sp rk
set_option linter.unusedVariables false

section
variable {H : Type} {enc : TypeId × Value → H} {W : World}

theorem ints_of_Trod {base : Nat} {v : Value} {d : DataW H} {ps : List MemPlace} (hv : Value.okWide Try.prog W .any base 30 v) (h : DataW.Trod enc Try.prog W 0 (fun _ => true) true 30 v d ps) :
    ∃ A c zs, v = .slice A (List.length zs) c ∧ RowAt W (fun g => g < W.heap.size) A (intv zs) ∧ (A = none → List.length zs = 0 ∧ c = 0) := by
  obtain ⟨a0, len, cap, rfl⟩ := okWide_slice Try.underlying30 hv
  obtain ⟨fuel, hf⟩ := h
  rcases open_ints Try.underlying30 Try.underlying3 (by kernel_rfl) hf with ⟨hcs, _⟩ | ⟨a, l, c, zs, hcs, _, hl, hm, hz, _, hcell, hwz⟩
  · simp [Value.cells] at hcs
    obtain ⟨rfl, rfl, rfl⟩ := hcs
    exact ⟨none, 0, [], rfl, ⟨fun h => absurd h (by simp [intv])⟩, fun _ => ⟨rfl, rfl⟩⟩
  · simp only [if_true] at hz
    simp [Value.cells] at hcs
    obtain ⟨rfl, rfl, rfl⟩ := hcs
    have hlen : (zs.take len).length = len := by rw [List.length_take]; omega
    refine ⟨some a, cap, zs.take len, by rw [hlen], ⟨fun hp => ?_⟩, fun e => by cases e⟩
    rw [intv_len, hlen] at hp
    have h0 := hcell 0 (by omega)
    have hspot : a.spot = none := by simpa [Addr.add] using World.cell?_spot h0
    have hlt := lt_of_cell h0
    obtain ⟨b, off, spot⟩ := a
    subst hspot
    refine ⟨b, off, rfl, by simpa [Addr.add] using hlt, fun j z hz' => ?_⟩
    unfold intv at hz'
    rw [List.getElem?_map, List.getElem?_take] at hz'
    split at hz'
    · obtain ⟨y, hy, rfl⟩ := Option.map_eq_some_iff.1 hz'
      have hj := (List.getElem?_eq_some_iff.1 hy).1
      have h1 := hcell j hj
      have hv : zs.getD j 0 = y := by rw [List.getD_eq_getElem?_getD, hy]; rfl
      rw [hv] at h1
      by_cases hj0 : j = 0
      · subst hj0; simpa [Addr.add] using h1
      · simpa [Addr.add, hj0] using h1
    · cases hz'

theorem strs_of_Trod {base : Nat} {v : Value} {d : DataW H} {ps : List MemPlace} (hv : Value.okWide Try.prog W .any base 24 v) (h : DataW.Trod enc Try.prog W 0 (fun _ => true) true 24 v d ps) :
    ∃ A c ss, v = .slice A (List.length ss) c ∧ RowAt W (fun g => g < W.heap.size) A (rk.strs ss) ∧ (A = none → List.length ss = 0 ∧ c = 0) := by
  obtain ⟨a0, len, cap, rfl⟩ := okWide_slice Try.underlying24 hv
  obtain ⟨fuel, hf⟩ := h
  rcases open_strings Try.underlying24 Try.underlying9 (by kernel_rfl) hf with ⟨hcs, _⟩ | ⟨a, l, c, ss, hcs, _, hl, hm, hz, _, hcell, _⟩
  · simp [Value.cells] at hcs
    obtain ⟨rfl, rfl, rfl⟩ := hcs
    exact ⟨none, 0, [], rfl, ⟨fun h => absurd h (by simp [rk.strs])⟩, fun _ => ⟨rfl, rfl⟩⟩
  · simp only [if_true] at hz
    simp [Value.cells] at hcs
    obtain ⟨rfl, rfl, rfl⟩ := hcs
    have hlen : ((ss.take len).map fun s => s.data.toList).length = len := by rw [List.length_map, List.length_take]; omega
    refine ⟨some a, cap, (ss.take len).map fun s => s.data.toList, by rw [hlen], ⟨fun hp => ?_⟩, fun e => by cases e⟩
    rw [rk.strs_len, hlen] at hp
    have h0 := hcell 0 (by omega)
    have hspot : a.spot = none := by simpa [Addr.add] using World.cell?_spot h0
    have hlt := lt_of_cell h0
    obtain ⟨b, off, spot⟩ := a
    subst hspot
    refine ⟨b, off, rfl, by simpa [Addr.add] using hlt, fun j z hz' => ?_⟩
    unfold rk.strs at hz'
    rw [List.getElem?_map, List.getElem?_map, List.getElem?_take] at hz'
    split at hz'
    · obtain ⟨y', hy', rfl⟩ := Option.map_eq_some_iff.1 hz'
      obtain ⟨y, hy, rfl⟩ := Option.map_eq_some_iff.1 hy'
      have hj := (List.getElem?_eq_some_iff.1 hy).1
      have h1 := hcell j hj
      have hv : ss.getD j ByteArray.empty = y := by rw [List.getD_eq_getElem?_getD, hy]; rfl
      rw [hv] at h1
      rw [S_data]
      by_cases hj0 : j = 0
      · subst hj0; simpa [Addr.add] using h1
      · simpa [Addr.add, hj0] using h1
    · cases hz'
end
end Go.Proofs.Ytimlcjdpnhhjdaa.lift
