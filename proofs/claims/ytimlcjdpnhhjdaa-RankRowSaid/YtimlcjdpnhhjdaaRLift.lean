/-
  Given for the seat's laws: what is read of a slice of runners, of texts, of numbers that came in. No condition.
-/
import Derived.Test.YtimlcjdpnhhjdaaPLift
import Derived.Test.YtimlcjdpnhhjdaaRRuns
import Derived.Deep.Strs
import Derived.Deep.SlicePairs
import Derived.SizedLaws
namespace Go.Proofs.Ytimlcjdpnhhjdaa.lift
open Go.ChangeShapes Go.WideShapes Go.ChangeAt Go.RowKit Go.Joins Go.Deep mem sp rk
set_option linter.unusedVariables false

theorem list_of {α : Type} (P : Nat → α → Prop) : ∀ n, (∀ i, i < n → ∃ x, P i x) → ∃ l : List α, l.length = n ∧ ∀ (i : Nat) (x : α), l[i]? = some x → P i x
  | 0, _ => ⟨[], rfl, fun i x h => by simp at h⟩
  | n + 1, h => by
    obtain ⟨l, hl, hp⟩ := list_of P n (fun i hi => h i (by omega))
    obtain ⟨x, hx⟩ := h n (by omega)
    refine ⟨l ++ [x], by simp [hl], fun i y hy => ?_⟩
    by_cases hi : i < n
    · exact hp i y (by rwa [List.getElem?_append_left (by omega)] at hy)
    · rw [List.getElem?_append_right (by omega)] at hy
      have : i - l.length = 0 := by
        have := (List.getElem?_eq_some_iff.1 hy).1
        simp at this
        omega
      rw [this] at hy
      simp at hy
      subst hy
      obtain rfl : i = n := by omega
      exact hx

section
variable {H : Type} {enc : TypeId × Value → H} {W : World}

theorem str_of_trod {n : Nat} {v : Value} {d : DataW H} {ps : List MemPlace} (h : DataW.trod enc Try.prog W 0 (fun _ => true) true n 9 [v] = some (d, ps)) : ∃ s : Str, v = .string (S s) := by
  obtain ⟨s, e, _⟩ := DataW.trod_string Try.underlying9 h
  simp at e
  exact ⟨s.data.toList, by rw [S_data]; exact e⟩
theorem int_of_trod {n : Nat} {v : Value} {d : DataW H} {ps : List MemPlace} (h : DataW.trod enc Try.prog W 0 (fun _ => true) true n 3 [v] = some (d, ps)) : ∃ z : Int, v = .int .i64 z := by
  obtain ⟨z, e, _⟩ := DataW.trod_int Try.underlying3 h
  simp at e
  exact ⟨z, e⟩
theorem runs_of_Trod {base : Nat} {v : Value} {d : DataW H} {ps : List MemPlace} (hv : Value.okWide Try.prog W .any base 34 v) (h : DataW.Trod enc Try.prog W 0 (fun _ => true) true 34 v d ps) :
    ∃ A c l, v = .slice A (List.length l) c ∧ List.length l ≤ c ∧ RunsAt W (fun g => g < W.heap.size) A l ∧ (List.length l = 0 ∨ ∃ elems spare, d = .slice elems spare ∧ List.length elems = List.length l) := by
  obtain ⟨a0, len, cap, rfl⟩ := okWide_slice Try.underlying34 hv
  obtain ⟨fuel, hf⟩ := h
  rcases open_slice_pairs Try.underlying34 Try.underlying40 (by kernel_rfl) rfl rfl (by kernel_rfl) (by kernel_rfl) hf with ⟨hcs, _⟩ | ⟨a, len', cap', m, n, V0, V1, D0, D1, P0, P1, hcs, _, hl, hm, hmm, hx, hi⟩
  · simp [Value.cells] at hcs
    obtain ⟨rfl, rfl, rfl⟩ := hcs
    exact ⟨none, 0, [], rfl, Nat.le_refl _, ⟨fun hp => absurd hp (by simp)⟩, .inl rfl⟩
  · simp [Value.cells] at hcs
    obtain ⟨rfl, rfl, rfl⟩ := hcs
    simp only [if_true] at hmm
    subst hmm
    simp only [Prod.mk.injEq] at hx
    by_cases h0 : len = 0
    · subst h0
      exact ⟨some a, m, [], rfl, hl, ⟨fun hp => absurd hp (by simp)⟩, .inl rfl⟩
    · have hspot : a.spot = none := by
        have h1 := (hi 0 (by omega)).1
        simpa [Addr.add] using World.cell?_spot h1
      obtain ⟨b, off, spot⟩ := a
      subst hspot
      have addr : ∀ j, (⟨b, off, none⟩ : Addr).add j = ⟨b, off + j, none⟩ := fun j => by
        by_cases hj : j = 0 <;> simp [Addr.add, hj]
      have hb : b < W.heap.size := by
        have h1 := (hi 0 (by omega)).1
        rw [addr] at h1
        exact lt_of_cell h1
      obtain ⟨l, hll, hlp⟩ := list_of (fun i (x : Rn) => W.cell? ⟨b, off + i * 2, none⟩ = some (.string (S x.1)) ∧ W.cell? ⟨b, off + i * 2 + 1, none⟩ = some (.int .i64 x.2)) len (fun i hil => by
        obtain ⟨c0, c1, t0, t1⟩ := hi i (by omega)
        obtain ⟨s, hs⟩ := str_of_trod t0
        obtain ⟨z, hz⟩ := int_of_trod t1
        rw [addr, hs] at c0
        rw [addr, hz] at c1
        exact ⟨(s, z), c0, by rw [Nat.add_assoc]; exact c1⟩)
      refine ⟨some ⟨b, off, none⟩, m, l, by rw [hll], by omega, ⟨fun _ => ⟨b, off, rfl, hb, fun j x hx => hlp j x hx⟩⟩, .inr ⟨_, _, hx.1, by simp [hll]⟩⟩
end
end Go.Proofs.Ytimlcjdpnhhjdaa.lift
