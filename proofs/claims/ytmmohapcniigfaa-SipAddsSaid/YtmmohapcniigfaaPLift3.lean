/-
  Given for the seat's laws: what is read of a slice of slices of bytes that came in. No condition.
-/
import Derived.Test.YtmmohapcniigfaaPLift
import Derived.Test.YtmmohapcniigfaaPLAdds
import Derived.Deep.Strs
namespace Go.Proofs.Ytmmohapcniigfaa.lift
open Go.ChangeShapes Go.WideShapes Go.ChangeAt Go.RowKit Go.Joins Go.Deep mem sp
set_option linter.unusedVariables false

theorem list_of {α : Type} (P : Nat → α → Prop) : ∀ n, (∀ i, i < n → ∃ x, P i x) → ∃ l : List α, l.length = n ∧ ∀ (i : Nat) (x : α), l[i]? = some x → P i x
  | 0, _ => ⟨[], rfl, fun i x h => by simp at h⟩
  | n + 1, h => by
    obtain ⟨l, hl, hp⟩ := list_of P n (fun i hi => h i (by omega))
    obtain ⟨x, hx⟩ := h n (by omega)
    refine ⟨l ++ [x], by simp [hl], fun i y hy => ?_⟩
    by_cases hi : i < n
    · exact hp i y (by rwa [List.getElem?_append_left (by omega)] at hy)
    · rw [List.getElem?_append_right (by omega)] at hy
      have : i - l.length = 0 := by
        have := (List.getElem?_eq_some_iff.1 hy).1
        simp at this
        omega
      rw [this] at hy
      simp at hy
      subst hy
      obtain rfl : i = n := by omega
      exact hx

theorem cells1 : Try.prog.cellsOf 23 = 1 := by kernel_rfl

section
variable {H : Type} {enc : TypeId × Value → H} {W : World}

theorem rows_of_Trod {base : Nat} {v : Value} {d : DataW H} {ps : List MemPlace} (hv : Value.okWide Try.prog W .any base 26 v) (h : DataW.Trod enc Try.prog W 0 (fun _ => true) true 26 v d ps) :
    ∃ A c rs, v = .slice A rs.length c ∧ RowsAt W A rs := by
  obtain ⟨a0, len, cap, rfl⟩ := okWide_slice Try.underlying26 hv
  obtain ⟨fuel, hf⟩ := h
  rcases open_slice Try.underlying26 hf with ⟨hcs, _⟩ | ⟨a, len', cap', m, n, D, Pl, hcs, _, hl, hm, hmm, _, hi⟩
  · simp [Value.cells] at hcs
    obtain ⟨rfl, rfl, rfl⟩ := hcs
    exact ⟨none, 0, [], rfl, fun hp => absurd hp (by simp)⟩
  · simp [Value.cells] at hcs
    obtain ⟨rfl, rfl, rfl⟩ := hcs
    simp only [if_true] at hmm
    subst hmm
    by_cases h0 : len = 0
    · subst h0
      exact ⟨some a, m, [], rfl, fun hp => absurd hp (by simp)⟩
    · have one : ∀ i, i < len → ∃ u cs', cs' = [u] ∧ W.cell? (a.add i) = some u ∧ ∃ fu sp hd y, DataW.trod enc Try.prog W 0 sp hd fu 23 cs' = some y ∧ sp = (fun _ => true) ∧ hd = true := by
        intro i hil
        obtain ⟨cs', hc, ht⟩ := hi i (by omega)
        rw [cells1] at hc
        obtain ⟨_, hcl, hat⟩ := World.cells?_some hc
        match cs', hcl with
        | [q0], _ =>
          have g0 := hat 0 (by omega)
          simp at g0
          refine ⟨q0, [q0], rfl, ?_, _, _, _, _, ht, rfl, rfl⟩
          simpa [Addr.add] using g0
      have hspot : a.spot = none := by
        obtain ⟨u, _, _, hc, _⟩ := one 0 (by omega)
        simpa [Addr.add] using World.cell?_spot hc
      obtain ⟨b, off, spot⟩ := a
      subst hspot
      have hb : b < W.heap.size := by
        obtain ⟨u, _, _, hc, _⟩ := one 0 (by omega)
        simpa [Addr.add] using lt_of_cell hc
      have each : ∀ i, i < len → ∃ r : Row, W.cell? ⟨b, off + i, none⟩ = some (.slice r.a r.n r.c) ∧ Spell W (fun g => g < W.heap.size) r.a r.n r.c r.l := by
        intro i hil
        obtain ⟨u, cs', rfl, hc, fu, sp, hd, y, ht, rfl, rfl⟩ := one i hil
        obtain ⟨A, l, c, bs, hcs, hs⟩ := src_of_trod ht
        simp at hcs
        subst hcs
        obtain ⟨t, rfl⟩ := ints_of hs.rng
        refine ⟨⟨A, l, c, t⟩, ?_, hs⟩
        by_cases hj0 : i = 0
        · subst hj0; simpa [Addr.add] using hc
        · simpa [Addr.add, hj0] using hc
      obtain ⟨rs, hlen, hp⟩ := list_of _ len each
      subst hlen
      exact ⟨some ⟨b, off, none⟩, m, rs, rfl, fun _ => ⟨b, off, rfl, hb, fun i x hx => hp i x hx⟩⟩
end
end Go.Proofs.Ytmmohapcniigfaa.lift
