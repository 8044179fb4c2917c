/-
  Given for the seat's laws: what is read of a slice of runners that came in: their weights are numbers of 64 bits. No condition.
-/
import Derived.Test.YtimlcjdpnhhjdaaRLift
namespace Go.Proofs.Ytimlcjdpnhhjdaa.lift
open Go.ChangeShapes Go.WideShapes Go.ChangeAt Go.RowKit Go.Joins Go.Deep mem sp rk
set_option linter.unusedVariables false

section
variable {H : Type} {enc : TypeId × Value → H} {W : World}
theorem wide_of_trod {n : Nat} {z : Int} {d : DataW H} {ps : List MemPlace} (h : DataW.trod enc Try.prog W 0 (fun _ => true) true n 3 [.int .i64 z] = some (d, ps)) : -9223372036854775808 ≤ z ∧ z < 9223372036854775808 := by
  obtain ⟨y, e, _, hw⟩ := DataW.trod_int Try.underlying3 h
  simp at e
  subst e
  have h1 : IntKind.i64.min = -9223372036854775808 := rfl
  have h2 : IntKind.i64.max = 9223372036854775807 := rfl
  simp only [Lit.wf, Bool.and_eq_true, decide_eq_true_eq] at hw
  omega
/-- whatever runners a slice spells, their weights are numbers of 64 bits -/
theorem wide_of_Trod {A : Option Addr} {c : Nat} {l : List Rn} {d : DataW H} {ps : List MemPlace} (hr : RunsAt W (fun g => g < W.heap.size) A l) (h : DataW.Trod enc Try.prog W 0 (fun _ => true) true 34 (.slice A l.length c) d ps) :
    ∀ x ∈ l, -9223372036854775808 ≤ x.2 ∧ x.2 < 9223372036854775808 := by
  intro x hx
  obtain ⟨j, hj⟩ := List.mem_iff_getElem?.1 hx
  have hjl := (List.getElem?_eq_some_iff.1 hj).1
  obtain ⟨fuel, hf⟩ := h
  rcases open_slice_pairs Try.underlying34 Try.underlying40 (by kernel_rfl) rfl rfl (by kernel_rfl) (by kernel_rfl) hf with ⟨hcs, _⟩ | ⟨a, len', cap', m, n, V0, V1, D0, D1, P0, P1, hcs, _, hl, hm, hmm, _, hi⟩
  · simp [Value.cells] at hcs
    obtain ⟨_, hl0, _⟩ := hcs
    subst hl0
    simp at hjl
  · simp [Value.cells] at hcs
    obtain ⟨rfl, rfl, rfl⟩ := hcs
    simp only [if_true] at hmm
    subst hmm
    obtain ⟨g, off, e, _, _, c1⟩ := hr.cell hj
    cases e
    obtain ⟨_, d1, _, t1⟩ := hi j (by omega)
    rw [add_at, ← Nat.add_assoc] at d1
    rw [c1] at d1
    have := Option.some.inj d1
    rw [← this] at t1
    exact wide_of_trod t1
end
end Go.Proofs.Ytimlcjdpnhhjdaa.lift
