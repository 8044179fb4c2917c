/-
  Given for the seat's laws: what is read of a slice of acts that came in. No condition.
-/
import Derived.Test.YtcecdcdnjbndiaaActs3
import Derived.ProofKit
import Derived.OpenShut
import Derived.ChangeOld
import Derived.Carry
import Derived.Lib.SmallJoins
import Derived.Deep.Slices
import Derived.Deep.Fields
import Derived.Deep.Strs
namespace Go.Proofs.Ytcecdcdnjbndiaa.rack
open Go.ChangeShapes Go.WideShapes Go.ChangeAt Go.RowKit Go.Joins Go.Deep mem find
set_option linter.unusedVariables false

theorem list_of {α : Type} (P : Nat → α → Prop) : ∀ n, (∀ i, i < n → ∃ x, P i x) → ∃ l : List α, l.length = n ∧ ∀ (i : Nat) (x : α), l[i]? = some x → P i x
  | 0, _ => ⟨[], rfl, fun i x h => by simp at h⟩
  | n + 1, h => by
    obtain ⟨l, hl, hp⟩ := list_of P n (fun i hi => h i (by omega))
    obtain ⟨x, hx⟩ := h n (by omega)
    refine ⟨l ++ [x], by simp [hl], fun i y hy => ?_⟩
    by_cases hi : i < n
    · exact hp i y (by rwa [List.getElem?_append_left (by omega)] at hy)
    · rw [List.getElem?_append_right (by omega)] at hy
      have : i - l.length = 0 := by
        have := (List.getElem?_eq_some_iff.1 hy).1
        simp at this
        omega
      rw [this] at hy
      simp at hy
      subst hy
      obtain rfl : i = n := by omega
      exact hx

theorem cellsAct : Try.prog.cellsOf 31 = 3 := by kernel_rfl

section
variable {H : Type} {enc : TypeId × Value → H} {W : World}

theorem lt_of_cell {a : Addr} {v : Value} (h : W.cell? a = some v) : a.block < W.heap.size := by
  rcases Nat.lt_or_ge a.block W.heap.size with h1 | h1
  · exact h1
  · simp [World.cell?, Array.getElem?_eq_none h1] at h

theorem acts_of_Trod {base : Nat} {v : Value} {d : DataW H} {ps : List MemPlace} (hv : Value.okWide Try.prog W .any base 22 v) (h : DataW.Trod enc Try.prog W 0 (fun _ => true) true 22 v d ps) :
    ∃ A c acts, v = .slice A acts.length c ∧ acts.length ≤ maxLen ∧ ActsAt W A acts ∧ ActsOk acts := by
  obtain ⟨a0, len, cap, rfl⟩ := okWide_slice Try.underlying22 hv
  obtain ⟨fuel, hf⟩ := h
  rcases open_slice Try.underlying22 hf with ⟨hcs, _⟩ | ⟨a, len', cap', m, n, D, Pl, hcs, _, hl, hm, hmm, _, hi⟩
  · simp [Value.cells] at hcs
    obtain ⟨rfl, rfl, rfl⟩ := hcs
    exact ⟨none, 0, [], rfl, by simp [maxLen], fun hp => absurd hp (by simp), fun i x hx => by simp at hx⟩
  · simp [Value.cells] at hcs
    obtain ⟨rfl, rfl, rfl⟩ := hcs
    simp only [if_true] at hmm
    subst hmm
    by_cases h0 : len = 0
    · subst h0
      exact ⟨some a, m, [], rfl, by simp [maxLen], fun hp => absurd hp (by simp), fun i x hx => by simp at hx⟩
    · have hspot : a.spot = none := by
        obtain ⟨cs', hc, _⟩ := hi 0 (by omega)
        rw [cellsAct] at hc
        obtain ⟨_, hcl, hat⟩ := World.cells?_some hc
        have h1 := hat 0 (by omega)
        rw [List.getElem?_eq_getElem (by omega)] at h1
        simpa [Addr.add] using World.cell?_spot h1
      obtain ⟨b, off, spot⟩ := a
      subst hspot
      have hb : b < W.heap.size := by
        obtain ⟨cs', hc, _⟩ := hi 0 (by omega)
        rw [cellsAct] at hc
        obtain ⟨_, hcl, hat⟩ := World.cells?_some hc
        have h1 := hat 0 (by omega)
        rw [List.getElem?_eq_getElem (by omega)] at h1
        simpa [Addr.add] using lt_of_cell h1
      have each : ∀ i, i < len → ∃ x : ActD, (W.cell? ⟨b, off + i * 3, none⟩ = some (.int .u8 x.kind) ∧ W.cell? ⟨b, off + i * 3 + 1, none⟩ = some (.int .i64 x.id) ∧ W.cell? ⟨b, off + i * 3 + 2, none⟩ = some (.int .i64 x.v)) ∧ 0 ≤ x.kind ∧ x.kind ≤ 255 := by
        intro i hil
        obtain ⟨cs', hc, ht⟩ := hi i (by omega)
        rw [cellsAct] at hc
        obtain ⟨_, hcl, hat⟩ := World.cells?_some hc
        obtain ⟨y0, y1, y2, n', _, hlen', e0, e1, e2⟩ := trod_struct3 Try.underlying31 ht
        match cs', hcl with
        | [q0, q1, q2], _ =>
          have g0 := hat 0 (by omega)
          have g1 := hat 1 (by omega)
          have g2 := hat 2 (by omega)
          have addr : ∀ j, ((⟨b, off, none⟩ : Addr).add (i * 3)).add j = ⟨b, off + i * 3 + j, none⟩ := fun j => by
            by_cases hi3 : i * 3 = 0 <;> by_cases hj : j = 0 <;> simp [Addr.add, hi3, hj]
          rw [addr] at g0 g1 g2
          have o0 : Try.prog.cellsOf 5 = 1 := by kernel_rfl
          have o1 : Try.prog.cellsOf 3 = 1 := by kernel_rfl
          obtain ⟨a0, ea0, _, wa0⟩ := DataW.trod_int (k := .u8) Try.underlying5 (by simpa [o0] using e0)
          obtain ⟨a1, ea1, _, wa1⟩ := DataW.trod_int (k := .i64) Try.underlying3 (by simpa [o1] using e1)
          obtain ⟨a2, ea2, _, wa2⟩ := DataW.trod_int (k := .i64) Try.underlying3 (by simpa [o1] using e2)
          simp at ea0 ea1 ea2
          subst ea0 ea1 ea2
          have b0 : 0 ≤ a0 ∧ a0 ≤ 255 := by simpa [Lit.wf, IntKind.min, IntKind.max, IntKind.signed, IntKind.bits] using wa0
          exact ⟨⟨a0, a1, a2⟩, ⟨by simpa using g0, by simpa using g1, by simpa using g2⟩, b0.1, b0.2⟩
      obtain ⟨acts, hlen, hp⟩ := list_of _ len each
      subst hlen
      exact ⟨some ⟨b, off, none⟩, m, acts, rfl, by omega, fun _ => ⟨b, off, rfl, hb, fun i x hx => (hp i x hx).1⟩, fun i x hx => (hp i x hx).2⟩
end

end Go.Proofs.Ytcecdcdnjbndiaa.rack
