/-
  Given for the seat's laws: what is read of a breaker, of a slice of acts, of bytes that came in. No condition.
-/
import Derived.Test.YtcnlcjlipbpjoaaBIn
import Derived.ProofKit
import Derived.OpenShut
import Derived.ChangeOld
import Derived.Carry
import Derived.Lib.SmallJoins
import Derived.Deep.Slices
import Derived.Deep.Fields
import Derived.Deep.Strs
namespace Go.Proofs.Ytcnlcjlipbpjoaa.lift
open Go.ChangeShapes Go.WideShapes Go.ChangeAt Go.RowKit Go.Joins Go.Deep mem bk
set_option linter.unusedVariables false

theorem list_of {α : Type} (P : Nat → α → Prop) : ∀ n, (∀ i, i < n → ∃ x, P i x) → ∃ l : List α, l.length = n ∧ ∀ (i : Nat) (x : α), l[i]? = some x → P i x
  | 0, _ => ⟨[], rfl, fun i x h => by simp at h⟩
  | n + 1, h => by
    obtain ⟨l, hl, hp⟩ := list_of P n (fun i hi => h i (by omega))
    obtain ⟨x, hx⟩ := h n (by omega)
    refine ⟨l ++ [x], by simp [hl], fun i y hy => ?_⟩
    by_cases hi : i < n
    · exact hp i y (by rwa [List.getElem?_append_left (by omega)] at hy)
    · rw [List.getElem?_append_right (by omega)] at hy
      have : i - l.length = 0 := by
        have := (List.getElem?_eq_some_iff.1 hy).1
        simp at this
        omega
      rw [this] at hy
      simp at hy
      subst hy
      obtain rfl : i = n := by omega
      exact hx

theorem cells3 : Try.prog.cellsOf 45 = 3 := by kernel_rfl
theorem cells4 : Try.prog.cellsOf 23 = 4 := by kernel_rfl

section
variable {H : Type} {enc : TypeId × Value → H} {W : World}

theorem lt_of_cell {a : Addr} {v : Value} (h : W.cell? a = some v) : a.block < W.heap.size := by
  rcases Nat.lt_or_ge a.block W.heap.size with h1 | h1
  · exact h1
  · simp [World.cell?, Array.getElem?_eq_none h1] at h

theorem u8_wf {x : Int} (h : (Lit.int .u8 x).wf = true) : ∃ n : Nat, x = (n : Int) ∧ n < 256 := by
  have h1 : IntKind.u8.min = 0 := rfl
  have h2 : IntKind.u8.max = 255 := rfl
  simp only [Lit.wf, Bool.and_eq_true, decide_eq_true_eq] at h
  exact ⟨x.toNat, by omega, by omega⟩
theorem u16_wf {x : Int} (h : (Lit.int .u16 x).wf = true) : ∃ n : Nat, x = (n : Int) ∧ n < 65536 := by
  have h1 : IntKind.u16.min = 0 := rfl
  have h2 : IntKind.u16.max = 65535 := rfl
  simp only [Lit.wf, Bool.and_eq_true, decide_eq_true_eq] at h
  exact ⟨x.toNat, by omega, by omega⟩

theorem brk_of_Trod {base : Nat} {v : Value} {d : DataW H} {ps : List MemPlace} (hv : Value.okWide Try.prog W .any base 23 v) (h : DataW.Trod enc Try.prog W 0 (fun _ => true) true 23 v d ps) : ∃ b : Bk, v = bv b := by
  obtain ⟨cs, rfl, hc⟩ := okWide_struct Try.underlying23 hv
  rw [cells4] at hc
  obtain ⟨c0, c1, c2, c3, rfl⟩ := array4 hc
  obtain ⟨fuel, hf⟩ := h
  obtain ⟨y0, y1, y2, y3, n, _, _, e0, e1, e2, e3⟩ := trod_struct4 Try.underlying23 hf
  have o0 : Try.prog.cellsOf 4 = 1 := by kernel_rfl
  have o1 : Try.prog.cellsOf 3 = 1 := by kernel_rfl
  obtain ⟨a0, ea0, _⟩ := DataW.trod_bool Try.underlying4 (by simpa [o0, Value.cells] using e0)
  obtain ⟨a1, ea1, _⟩ := DataW.trod_int (k := .i64) Try.underlying3 (by simpa [o1, Value.cells] using e1)
  obtain ⟨a2, ea2, _⟩ := DataW.trod_int (k := .i64) Try.underlying3 (by simpa [o1, Value.cells] using e2)
  obtain ⟨a3, ea3, _⟩ := DataW.trod_bool Try.underlying4 (by simpa [o0, Value.cells] using e3)
  simp at ea0 ea1 ea2 ea3
  subst ea0 ea1 ea2 ea3
  exact ⟨⟨a0, a1, a2, a3⟩, rfl⟩

theorem acts_of_Trod {base : Nat} {v : Value} {d : DataW H} {ps : List MemPlace} (hv : Value.okWide Try.prog W .any base 41 v) (h : DataW.Trod enc Try.prog W 0 (fun _ => true) true 41 v d ps) :
    ∃ A c acts, v = .slice A (List.length acts) c ∧ ActsAt W A acts ∧ ActsOk acts := by
  obtain ⟨a0, len, cap, rfl⟩ := okWide_slice Try.underlying41 hv
  obtain ⟨fuel, hf⟩ := h
  rcases open_slice Try.underlying41 hf with ⟨hcs, _⟩ | ⟨a, len', cap', m, n, D, Pl, hcs, _, hl, hm, hmm, _, hi⟩
  · simp [Value.cells] at hcs
    obtain ⟨rfl, rfl, rfl⟩ := hcs
    exact ⟨none, 0, [], rfl, ⟨fun j x hx => by simp at hx⟩, ⟨fun x hx => by simp at hx⟩⟩
  · simp [Value.cells] at hcs
    obtain ⟨rfl, rfl, rfl⟩ := hcs
    simp only [if_true] at hmm
    subst hmm
    by_cases h0 : len = 0
    · subst h0
      exact ⟨some a, m, [], rfl, ⟨fun j x hx => by simp at hx⟩, ⟨fun x hx => by simp at hx⟩⟩
    · have hspot : a.spot = none := by
        obtain ⟨cs', hc, _⟩ := hi 0 (by omega)
        rw [cells3] at hc
        obtain ⟨_, hcl, hat⟩ := World.cells?_some hc
        have h1 := hat 0 (by omega)
        rw [List.getElem?_eq_getElem (by omega)] at h1
        simpa [Addr.add] using World.cell?_spot h1
      obtain ⟨b, off, spot⟩ := a
      subst hspot
      have each : ∀ i, i < len → ∃ x : Ac, (W.cell? ⟨b, off + i * 3, none⟩ = some (.int .u8 (x.kd : Int)) ∧ W.cell? ⟨b, off + i * 3 + 1, none⟩ = some (.int .u16 (x.tk : Int)) ∧ W.cell? ⟨b, off + i * 3 + 2, none⟩ = some (.bool x.tr)) ∧ x.kd < 256 ∧ x.tk < 65536 := by
        intro i hil
        obtain ⟨cs', hc, ht⟩ := hi i (by omega)
        rw [cells3] at hc
        obtain ⟨_, hcl, hat⟩ := World.cells?_some hc
        obtain ⟨y0, y1, y2, n', _, hlen', e0, e1, e2⟩ := trod_struct3 Try.underlying45 ht
        match cs', hcl with
        | [q0, q1, q2], _ =>
          have g0 := hat 0 (by omega)
          have g1 := hat 1 (by omega)
          have g2 := hat 2 (by omega)
          have addr : ∀ j, ((⟨b, off, none⟩ : Addr).add (i * 3)).add j = ⟨b, off + i * 3 + j, none⟩ := fun j => by
            by_cases hi2 : i * 3 = 0 <;> by_cases hj : j = 0 <;> simp [Addr.add, hi2, hj]
          rw [addr] at g0 g1 g2
          have o0 : Try.prog.cellsOf 5 = 1 := by kernel_rfl
          have o1 : Try.prog.cellsOf 43 = 1 := by kernel_rfl
          have o2 : Try.prog.cellsOf 4 = 1 := by kernel_rfl
          obtain ⟨a0, ea0, _, wa0⟩ := DataW.trod_int (k := .u8) Try.underlying5 (by simpa [o0] using e0)
          obtain ⟨a1, ea1, _, wa1⟩ := DataW.trod_int (k := .u16) Try.underlying43 (by simpa [o1] using e1)
          obtain ⟨a2, ea2, _⟩ := DataW.trod_bool Try.underlying4 (by simpa [o2] using e2)
          simp at ea0 ea1 ea2
          subst ea0 ea1 ea2
          obtain ⟨n0, rfl, b0⟩ := u8_wf wa0
          obtain ⟨n1, rfl, b1⟩ := u16_wf wa1
          exact ⟨⟨n0, n1, a2⟩, ⟨by simpa using g0, by simpa using g1, by simpa using g2⟩, b0, b1⟩
      obtain ⟨acts, hlen, hp⟩ := list_of _ len each
      subst hlen
      exact ⟨some ⟨b, off, none⟩, m, acts, rfl, ⟨fun i x hx => ⟨b, off, rfl, (hp i x hx).1⟩⟩, ⟨fun x hx => by
        obtain ⟨i, hil, he⟩ := List.getElem_of_mem hx
        exact (hp i x (by rw [List.getElem?_eq_getElem hil, he])).2⟩⟩

theorem bytes_of_Trod {base : Nat} {v : Value} {d : DataW H} {ps : List MemPlace} (hv : Value.okWide Try.prog W .any base 47 v) (h : DataW.Trod enc Try.prog W 0 (fun _ => true) true 47 v d ps) :
    ∃ A c l, v = .slice A (List.length l) c ∧ BytesAt W A l ∧ BytesOk l := by
  obtain ⟨a0, len, cap, rfl⟩ := okWide_slice Try.underlying47 hv
  obtain ⟨fuel, hf⟩ := h
  rcases open_ints Try.underlying47 Try.underlying5 (by kernel_rfl) hf with ⟨hcs, _⟩ | ⟨a, l, c, zs, hcs, _, hl, hm, hz, _, hcell, hwz⟩
  · simp [Value.cells] at hcs
    obtain ⟨rfl, rfl, rfl⟩ := hcs
    exact ⟨none, 0, [], rfl, ⟨fun j x hx => by simp at hx⟩, ⟨fun x hx => by simp at hx⟩⟩
  · simp [Value.cells] at hcs
    obtain ⟨rfl, rfl, rfl⟩ := hcs
    simp only [if_true] at hz
    have each : ∀ i, i < len → ∃ x : Nat, (∃ g off, some a = some (⟨g, off, none⟩ : Addr) ∧ W.cell? ⟨g, off + i, none⟩ = some (.int .u8 (x : Int))) ∧ x < 256 := by
      intro i hil
      have h1 := hcell i (by omega)
      have hmem : zs.getD i 0 ∈ zs := by
        rw [List.getD_eq_getElem?_getD, List.getElem?_eq_getElem (by omega)]
        exact List.getElem_mem _
      obtain ⟨x, ex, hx⟩ := u8_wf (hwz _ hmem)
      have h0 := hcell 0 (by omega)
      have hspot : a.spot = none := by simpa [Addr.add] using World.cell?_spot h0
      obtain ⟨b, off, spot⟩ := a
      subst hspot
      rw [ex] at h1
      refine ⟨x, ⟨b, off, rfl, ?_⟩, hx⟩
      by_cases hj0 : i = 0
      · subst hj0; simpa [Addr.add] using h1
      · simpa [Addr.add, hj0] using h1
    obtain ⟨xs, hlen, hp⟩ := list_of _ len each
    subst hlen
    exact ⟨some a, cap, xs, rfl, ⟨fun i x hx => (hp i x hx).1⟩, ⟨fun x hx => by
      obtain ⟨i, hil, he⟩ := List.getElem_of_mem hx
      exact (hp i x (by rw [List.getElem?_eq_getElem hil, he])).2⟩⟩
end
end Go.Proofs.Ytcnlcjlipbpjoaa.lift
