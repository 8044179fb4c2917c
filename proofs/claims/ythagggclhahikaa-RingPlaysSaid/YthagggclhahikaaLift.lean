/-
  Given for the seat's laws: what is read of a slice of bytes, and of a slice of acts, that came in. No condition.
-/
import Derived.Test.YthagggclhahikaaApi
import Derived.Test.YthagggclhahikaaActs
import Derived.ProofKit
import Derived.OpenShut
import Derived.ChangeOld
import Derived.Carry
import Derived.Deep.Slices
import Derived.Deep.Fields
namespace Go.Proofs.Ythagggclhahikaa.lift
open Go.ChangeShapes Go.WideShapes Go.ChangeAt Go.RowKit Go.Joins Go.Deep acts mem put api
set_option linter.unusedVariables false

theorem own : ownKnob Try.prog.godebug = none := by kernel_rfl
theorem laidOut : laidOutB Try.prog = true := by kernel_rfl

section
variable {H : Type} {enc : TypeId × Value → H} {W : World}

theorem lt_of_cell {a : Addr} {v : Value} (h : W.cell? a = some v) : a.block < W.heap.size := by
  rcases Nat.lt_or_ge a.block W.heap.size with h1 | h1
  · exact h1
  · simp [World.cell?, Array.getElem?_eq_none h1] at h

theorem src_of_trod {fuel base : Nat} {cs : List Value} {x : DataW H × List MemPlace} (h : DataW.trod enc Try.prog W base (fun _ => true) true fuel 31 cs = some x) :
    ∃ A l c bs, cs = [.slice A l c] ∧ Src W (fun g => g < W.heap.size) A l c bs := by
  rcases open_ints Try.underlying31 Try.underlying5 (by kernel_rfl) h with ⟨hcs, _⟩ | ⟨a, l, c, zs, hcs, _, hl, hm, hz, _, hcell, _⟩
  · exact ⟨none, 0, 0, [], hcs, rfl, Nat.le_refl _, fun _ => rfl, by unfold maxLen; omega, fun hp => absurd hp (by simp)⟩
  · simp only [if_true] at hz
    refine ⟨some a, l, c, zs.take l, hcs, by rw [List.length_take]; omega, hl, (fun e => by cases e), hm, fun hp => ?_⟩
    rw [List.length_take] at hp
    have h0 := hcell 0 (by omega)
    have hspot : a.spot = none := by simpa [Addr.add] using World.cell?_spot h0
    have hlt := lt_of_cell h0
    obtain ⟨b, off, spot⟩ := a
    subst hspot
    refine ⟨b, off, rfl, by simpa [Addr.add] using hlt, fun j z hz' => ?_⟩
    rw [List.getElem?_take] at hz'
    split at hz'
    · have hj := (List.getElem?_eq_some_iff.1 hz').1
      have h1 := hcell j hj
      have hv : zs.getD j 0 = z := by rw [List.getD_eq_getElem?_getD, hz']; rfl
      rw [hv] at h1
      by_cases hj0 : j = 0
      · subst hj0; simpa [Addr.add] using h1
      · simpa [Addr.add, hj0] using h1
    · cases hz'

theorem src_of_Trod {base : Nat} {v : Value} {d : DataW H} {ps : List MemPlace} (hv : Value.okWide Try.prog W .any base 31 v) (h : DataW.Trod enc Try.prog W 0 (fun _ => true) true 31 v d ps) :
    ∃ A l c bs, v = .slice A l c ∧ Src W (fun g => g < W.heap.size) A l c bs := by
  obtain ⟨a0, len, cap, rfl⟩ := okWide_slice Try.underlying31 hv
  obtain ⟨fuel, hf⟩ := h
  obtain ⟨A, l, c, bs, hcs, hs⟩ := src_of_trod hf
  simp [Value.cells] at hcs
  obtain ⟨rfl, rfl, rfl⟩ := hcs
  exact ⟨_, _, _, bs, rfl, hs⟩
end

end Go.Proofs.Ythagggclhahikaa.lift
