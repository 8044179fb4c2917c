/-
  Given for the seat's laws: what is read of a slice of strings that came in. No condition.
-/
import Derived.Test.YtliajejgkinkjaaLines
import Derived.Test.YtliajejgkinkjaaLift
import Derived.SliceStrings
namespace Go.Proofs.Ytliajejgkinkjaa.lift
open Go.ChangeShapes Go.WideShapes Go.ChangeAt Go.RowKit Go.Joins Go.Deep mem reader lines
set_option linter.unusedVariables false

section
variable {H : Type} {enc : TypeId × Value → H} {W : World}

theorem strs_of_trod {fuel base : Nat} {cs : List Value} {x : DataW H × List MemPlace} (h : DataW.trod enc Try.prog W base (fun _ => true) true fuel 49 cs = some x) :
    ∃ A c ss, cs = [.slice A ss.length c] ∧ ss.length ≤ maxLen ∧ StrsAt W (fun g => g < W.heap.size) A ss := by
  rcases open_strings Try.underlying49 Try.underlying9 (by kernel_rfl) h with ⟨hcs, _⟩ | ⟨a, l, c, ss, hcs, _, hl, hm, hz, _, hcell, _⟩
  · exact ⟨none, 0, [], hcs, Nat.zero_le _, fun hp => absurd hp (by simp)⟩
  · simp only [if_true] at hz
    have hlen : (ss.take l).length = l := by rw [List.length_take]; omega
    refine ⟨some a, c, ss.take l, by rw [hlen]; exact hcs, by omega, fun hp => ?_⟩
    rw [hlen] at hp
    have h0 := hcell 0 (by omega)
    have hspot : a.spot = none := by simpa [Addr.add] using World.cell?_spot h0
    have hlt := lt_of_cell h0
    obtain ⟨b, off, spot⟩ := a
    subst hspot
    refine ⟨b, off, rfl, by simpa [Addr.add] using hlt, fun j z hz' => ?_⟩
    rw [List.getElem?_take] at hz'
    split at hz'
    · have hj := (List.getElem?_eq_some_iff.1 hz').1
      have h1 := hcell j hj
      have hv : ss.getD j ByteArray.empty = z := by rw [List.getD_eq_getElem?_getD, hz']; rfl
      rw [hv] at h1
      by_cases hj0 : j = 0
      · subst hj0; simpa [Addr.add] using h1
      · simpa [Addr.add, hj0] using h1
    · cases hz'

theorem strs_of_Trod {base : Nat} {v : Value} {d : DataW H} {ps : List MemPlace} (hv : Value.okWide Try.prog W .any base 49 v) (h : DataW.Trod enc Try.prog W 0 (fun _ => true) true 49 v d ps) :
    ∃ A c ss, v = .slice A ss.length c ∧ ss.length ≤ maxLen ∧ StrsAt W (fun g => g < W.heap.size) A ss := by
  obtain ⟨a0, len, cap, rfl⟩ := okWide_slice Try.underlying49 hv
  obtain ⟨fuel, hf⟩ := h
  obtain ⟨A, c, ss, hcs, hm, hs⟩ := strs_of_trod hf
  simp [Value.cells] at hcs
  obtain ⟨rfl, rfl, rfl⟩ := hcs
  exact ⟨_, _, ss, rfl, hm, hs⟩
end

end Go.Proofs.Ytliajejgkinkjaa.lift
