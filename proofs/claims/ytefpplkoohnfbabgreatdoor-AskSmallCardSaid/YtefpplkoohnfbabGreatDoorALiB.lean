/-
  Given for the seat's laws: what is read of a slice of bools that came in. No condition.
-/
import Derived.Test.YtefpplkoohnfbabGreatDoorALift
import Derived.Test.YtefpplkoohnfbabGreatDoorALSmall
import Derived.Deep.Grids
namespace Go.Proofs.YtefpplkoohnfbabGreatDoor.lift
open Go.ChangeShapes Go.WideShapes Go.ChangeAt Go.RowKit Go.Joins Go.Deep mem hw own ak
set_option linter.unusedVariables false
set_option maxRecDepth 100000

theorem bools_of_Trod {H : Type} {enc : TypeId × Value → H} {W : World} {b0 : Nat} {v : Value} {d : DataW H} {ps : List MemPlace} (hv : Value.okWide Tryz.prog W .any b0 26 v) (h : DataW.Trod enc Tryz.prog W 0 (fun _ => true) true 26 v d ps) :
    ∃ A n c ws, v = .slice A n c ∧ Bools W A n ws := by
  obtain ⟨a0, len, cap, rfl⟩ := okWide_slice Tryz.underlying26 hv
  obtain ⟨fuel, hf⟩ := h
  rcases Go.Deep.open_bools Tryz.underlying26 Tryz.underlying4 (by kernel_rfl) hf with ⟨hcs, _⟩ | ⟨a, l, c, B, hcs, _, hl, hm, _, hcell⟩
  · simp [Value.cells] at hcs
    obtain ⟨rfl, rfl, rfl⟩ := hcs
    exact ⟨none, 0, 0, [], rfl, rfl, fun j b hj => by simp at hj⟩
  · simp [Value.cells] at hcs
    obtain ⟨rfl, rfl, rfl⟩ := hcs
    refine ⟨some a, len, cap, (List.range len).map B, rfl, by simp, fun j b hj => ?_⟩
    have hjl : j < len := by have := (List.getElem?_eq_some_iff.1 hj).1; simpa using this
    have hb : B j = b := by
      rw [List.getElem?_map, List.getElem?_range hjl] at hj
      exact Option.some.inj hj
    have h1 := hcell j (by omega)
    have h0 := hcell 0 (by omega)
    have hspot : a.spot = none := by simpa [Addr.add] using World.cell?_spot h0
    obtain ⟨g, off, spot⟩ := a
    subst hspot
    have e : (Addr.add ⟨g, off, none⟩ j) = ⟨g, off + j, none⟩ := by by_cases hj0 : j = 0 <;> simp [Addr.add, hj0]
    rw [e, hb] at h1
    exact ⟨g, off, rfl, World.block_lt_of_cell? _ _ h1, h1⟩
end Go.Proofs.YtefpplkoohnfbabGreatDoor.lift
