/-
  Given for the seat's laws: what is read of a configuration that came in. No condition.
-/
import Derived.Test.YtpidjekabnnmcaaHCfg
import Derived.ProofKit
import Derived.OpenShut
import Derived.ChangeOld
import Derived.Carry
import Derived.Lib.SmallJoins
import Derived.Deep.Slices
import Derived.Deep.Fields
import Derived.Deep.Strs
namespace Go.Proofs.Ytpidjekabnnmcaa.hlift
open Go.ChangeShapes Go.WideShapes Go.ChangeAt Go.RowKit Go.Joins Go.Deep mem hp
set_option linter.unusedVariables false
set_option maxRecDepth 100000

theorem lt_of_cell {W : World} {a : Addr} {v : Value} (h : W.cell? a = some v) : a.block < W.heap.size := by
  rcases Nat.lt_or_ge a.block W.heap.size with h1 | h1
  · exact h1
  · simp [World.cell?, Array.getElem?_eq_none h1] at h
theorem list_of {α : Type} (P : Nat → α → Prop) : ∀ n, (∀ i, i < n → ∃ x, P i x) → ∃ l : List α, l.length = n ∧ ∀ (i : Nat) (x : α), l[i]? = some x → P i x
  | 0, _ => ⟨[], rfl, fun i x h => by simp at h⟩
  | n + 1, h => by
    obtain ⟨l, hl, hp⟩ := list_of P n (fun i hi => h i (by omega))
    obtain ⟨x, hx⟩ := h n (by omega)
    refine ⟨l ++ [x], by simp [hl], fun i y hy => ?_⟩
    by_cases hi : i < n
    · exact hp i y (by rwa [List.getElem?_append_left (by omega)] at hy)
    · rw [List.getElem?_append_right (by omega)] at hy
      have : i - l.length = 0 := by
        have := (List.getElem?_eq_some_iff.1 hy).1
        simp at this
        omega
      rw [this] at hy
      simp at hy
      subst hy
      obtain rfl : i = n := by omega
      exact hx
theorem cellsPa : Try.prog.cellsOf 71 = 8 := by kernel_rfl
theorem cellsTg : Try.prog.cellsOf 69 = 3 := by kernel_rfl
theorem cellsHo : Try.prog.cellsOf 67 = 2 := by kernel_rfl
theorem cellsCf : Try.prog.cellsOf 29 = 16 := by kernel_rfl
theorem cellsLi : Try.prog.cellsOf 23 = 11 := by kernel_rfl
theorem o_str : Try.prog.cellsOf 9 = 1 := by kernel_rfl
theorem o_int : Try.prog.cellsOf 3 = 1 := by kernel_rfl
theorem o_u8 : Try.prog.cellsOf 5 = 1 := by kernel_rfl
theorem o_pas : Try.prog.cellsOf 25 = 1 := by kernel_rfl

section
variable {H : Type} {enc : TypeId × Value → H} {W : World}
theorem int_one {fuel : Nat} {cs : List Value} {x : DataW H × List MemPlace} (h : DataW.trod enc Try.prog W 0 (fun _ => true) true fuel 3 cs = some x) : ∃ n, cs = [.int .i64 n] := by
  obtain ⟨n, e, _⟩ := DataW.trod_int (k := .i64) Try.underlying3 h
  exact ⟨n, e⟩
theorem u8_one {fuel : Nat} {cs : List Value} {x : DataW H × List MemPlace} (h : DataW.trod enc Try.prog W 0 (fun _ => true) true fuel 5 cs = some x) : ∃ n, cs = [.int .u8 n] := by
  obtain ⟨n, e, _⟩ := DataW.trod_int (k := .u8) Try.underlying5 h
  exact ⟨n, e⟩
theorem str_one {fuel : Nat} {cs : List Value} {x : DataW H × List MemPlace} (h : DataW.trod enc Try.prog W 0 (fun _ => true) true fuel 9 cs = some x) : ∃ s, cs = [.string s] := by
  obtain ⟨n, e, _⟩ := DataW.trod_string Try.underlying9 h
  exact ⟨n, e⟩
theorem host_two {fuel : Nat} {cs : List Value} {x : DataW H × List MemPlace} (h : DataW.trod enc Try.prog W 0 (fun _ => true) true fuel 67 cs = some x) : ∃ k s, cs = [.int .u8 k, .string s] := by
  obtain ⟨xs, n, _, _, hl, hlen, hf⟩ := DataW.trod_struct Try.underlying67 h
  rw [cellsHo] at hl
  have hlen : xs.length = 2 := hlen
  match cs, hl, xs, hlen with
  | [a, b], _, [y0, y1], _ =>
    have h0 := hf 0 _ rfl
    have h1 := hf 1 _ rfl
    simp [o_u8, o_str] at h0 h1
    obtain ⟨k, e0⟩ := u8_one h0
    obtain ⟨s, e1⟩ := str_one h1
    simp at e0 e1
    exact ⟨k, s, by rw [e0, e1]⟩
theorem target_three {fuel : Nat} {cs : List Value} {x : DataW H × List MemPlace} (h : DataW.trod enc Try.prog W 0 (fun _ => true) true fuel 69 cs = some x) : ∃ k s p, cs = [.int .u8 k, .string s, .int .i64 p] := by
  obtain ⟨xs, n, _, _, hl, hlen, hf⟩ := DataW.trod_struct Try.underlying69 h
  rw [cellsTg] at hl
  have hlen : xs.length = 2 := hlen
  match cs, hl, xs, hlen with
  | [a, b, c], _, [y0, y1], _ =>
    have h0 := hf 0 _ rfl
    have h1 := hf 1 _ rfl
    simp [cellsHo, o_int] at h0 h1
    obtain ⟨k, s, e0⟩ := host_two h0
    obtain ⟨p, e1⟩ := int_one h1
    simp at e0 e1
    exact ⟨k, s, p, by rw [e0.1, e0.2, e1]⟩
theorem parent_eight {fuel : Nat} {cs : List Value} {x : DataW H × List MemPlace} (h : DataW.trod enc Try.prog W 0 (fun _ => true) true fuel 71 cs = some x) :
    ∃ p : PaD, cs = [.string p.nm, .int .u8 p.kd, .string p.tx, .int .i64 p.po, .int .u8 p.pr, .string p.us, .string p.pw, .int .i64 p.we] := by
  obtain ⟨xs, n, _, _, hl, hlen, hf⟩ := DataW.trod_struct Try.underlying71 h
  rw [cellsPa] at hl
  have hlen : xs.length = 6 := hlen
  match cs, hl, xs, hlen with
  | [a0, a1, a2, a3, a4, a5, a6, a7], _, [y0, y1, y2, y3, y4, y5], _ =>
    have h0 := hf 0 _ rfl
    have h1 := hf 1 _ rfl
    have h2 := hf 2 _ rfl
    have h3 := hf 3 _ rfl
    have h4 := hf 4 _ rfl
    have h5 := hf 5 _ rfl
    simp [cellsTg, o_int, o_str, o_u8] at h0 h1 h2 h3 h4 h5
    obtain ⟨s0, e0⟩ := str_one h0
    obtain ⟨k, s, p, e1⟩ := target_three h1
    obtain ⟨q, e2⟩ := u8_one h2
    obtain ⟨s3, e3⟩ := str_one h3
    obtain ⟨s4, e4⟩ := str_one h4
    obtain ⟨w5, e5⟩ := int_one h5
    simp at e0 e1 e2 e3 e4 e5
    exact ⟨⟨s0, k, s, p, q, s3, s4, w5⟩, by rw [e0, e1.1, e1.2.1, e1.2.2, e2, e3, e4, e5]⟩
theorem limits_eleven {fuel : Nat} {cs : List Value} {x : DataW H × List MemPlace} (h : DataW.trod enc Try.prog W 0 (fun _ => true) true fuel 23 cs = some x) :
    ∃ l0 l1 l2 l3 l4 l5 l6 l7 l8 l9 l10, cs = [.int .i64 l0, .int .i64 l1, .int .i64 l2, .int .i64 l3, .int .i64 l4, .int .i64 l5, .int .i64 l6, .int .i64 l7, .int .i64 l8, .int .i64 l9, .int .i64 l10] := by
  obtain ⟨xs, n, _, _, hl, hlen, hf⟩ := DataW.trod_struct Try.underlying23 h
  rw [cellsLi] at hl
  have hlen : xs.length = 11 := hlen
  match cs, hl, xs, hlen with
  | [a0, a1, a2, a3, a4, a5, a6, a7, a8, a9, a10], _, [y0, y1, y2, y3, y4, y5, y6, y7, y8, y9, y10], _ =>
    have h0 := hf 0 _ rfl
    have h1 := hf 1 _ rfl
    have h2 := hf 2 _ rfl
    have h3 := hf 3 _ rfl
    have h4 := hf 4 _ rfl
    have h5 := hf 5 _ rfl
    have h6 := hf 6 _ rfl
    have h7 := hf 7 _ rfl
    have h8 := hf 8 _ rfl
    have h9 := hf 9 _ rfl
    have h10 := hf 10 _ rfl
    simp [o_int] at h0 h1 h2 h3 h4 h5 h6 h7 h8 h9 h10
    obtain ⟨l0, e0⟩ := int_one h0
    obtain ⟨l1, e1⟩ := int_one h1
    obtain ⟨l2, e2⟩ := int_one h2
    obtain ⟨l3, e3⟩ := int_one h3
    obtain ⟨l4, e4⟩ := int_one h4
    obtain ⟨l5, e5⟩ := int_one h5
    obtain ⟨l6, e6⟩ := int_one h6
    obtain ⟨l7, e7⟩ := int_one h7
    obtain ⟨l8, e8⟩ := int_one h8
    obtain ⟨l9, e9⟩ := int_one h9
    obtain ⟨l10, e10⟩ := int_one h10
    simp at e0 e1 e2 e3 e4 e5 e6 e7 e8 e9 e10
    exact ⟨l0, l1, l2, l3, l4, l5, l6, l7, l8, l9, l10, by rw [e0, e1, e2, e3, e4, e5, e6, e7, e8, e9, e10]⟩
theorem pas_one {fuel : Nat} {cs : List Value} {x : DataW H × List MemPlace} (h : DataW.trod enc Try.prog W 0 (fun _ => true) true fuel 25 cs = some x) :
    ∃ (A : Option Addr) (c : Nat) (ps : List PaD), cs = [.slice A ps.length c] ∧ ps.length ≤ maxLen ∧ PasAt W (fun g => g < W.heap.size) A ps := by
  rcases open_slice Try.underlying25 h with ⟨hcs, _⟩ | ⟨a, len, cap, m, n, D, Pl, hcs, _, hl, hm, hmm, _, hi⟩
  · exact ⟨none, 0, [], hcs, by simp [maxLen], ⟨fun hp => absurd hp (by simp)⟩⟩
  · simp only [if_true] at hmm
    subst hmm
    by_cases h0 : len = 0
    · subst h0
      exact ⟨some a, m, [], hcs, by simp [maxLen], ⟨fun hp => absurd hp (by simp)⟩⟩
    · have h1 : ∃ v, W.cell? (a.add (0 * 8)) = some v := by
        obtain ⟨cs', hc, _⟩ := hi 0 (by omega)
        rw [cellsPa] at hc
        obtain ⟨_, hcl, hat⟩ := World.cells?_some hc
        have h1 := hat 0 (by omega)
        rw [List.getElem?_eq_getElem (by omega)] at h1
        exact ⟨_, by simpa [Addr.add] using h1⟩
      obtain ⟨v0, h1⟩ := h1
      have hspot : a.spot = none := by simpa [Addr.add] using World.cell?_spot h1
      obtain ⟨b, off, spot⟩ := a
      subst hspot
      have hb : b < W.heap.size := by simpa [Addr.add] using lt_of_cell h1
      have each : ∀ i, i < len → ∃ x : PaD, PaAt W b (off + i * 8) x := by
        intro i hil
        obtain ⟨cs', hc, ht⟩ := hi i (by omega)
        rw [cellsPa] at hc
        obtain ⟨_, hcl, hat⟩ := World.cells?_some hc
        obtain ⟨p, rfl⟩ := parent_eight ht
        have addr : ∀ j, ((⟨b, off, none⟩ : Addr).add (i * 8)).add j = ⟨b, off + i * 8 + j, none⟩ := fun j => by
          by_cases hi3 : i * 8 = 0 <;> by_cases hj : j = 0 <;> simp [Addr.add, hi3, hj]
        have g0 := hat 0 (by omega)
        have g1 := hat 1 (by omega)
        have g2 := hat 2 (by omega)
        have g3 := hat 3 (by omega)
        have g4 := hat 4 (by omega)
        have g5 := hat 5 (by omega)
        have g6 := hat 6 (by omega)
        have g7 := hat 7 (by omega)
        rw [addr] at g0 g1 g2 g3 g4 g5 g6 g7
        exact ⟨p, by simpa using g0, by simpa using g1, by simpa using g2, by simpa using g3, by simpa using g4, by simpa using g5, by simpa using g6, by simpa using g7⟩
      obtain ⟨ps, hlen, hp⟩ := list_of _ len each
      subst hlen
      exact ⟨some ⟨b, off, none⟩, m, ps, hcs, by omega, ⟨fun _ => ⟨b, off, rfl, hb, hp⟩⟩⟩
theorem cfg_cells {fuel : Nat} {cs : List Value} {x : DataW H × List MemPlace} (h : DataW.trod enc Try.prog W 0 (fun _ => true) true fuel 29 cs = some x) :
    ∃ d : CfD, cs = d.cs.toList ∧ d.ps.length ≤ maxLen ∧ PasAt W (fun g => g < W.heap.size) d.A d.ps := by
  obtain ⟨xs, n, _, _, hl, hlen, hf⟩ := DataW.trod_struct Try.underlying29 h
  rw [cellsCf] at hl
  have hlen : xs.length = 6 := hlen
  match cs, hl, xs, hlen with
  | [a0, a1, a2, a3, a4, a5, a6, a7, a8, a9, a10, a11, a12, a13, a14, a15], _, [y0, y1, y2, y3, y4, y5], _ =>
    have h1 := hf 1 _ rfl
    have h3 := hf 3 _ rfl
    simp [cellsLi, o_pas] at h1 h3
    obtain ⟨l0, l1, l2, l3, l4, l5, l6, l7, l8, l9, l10, e1⟩ := limits_eleven h1
    obtain ⟨A, c, ps, e3, hm, hp⟩ := pas_one h3
    simp at e1 e3
    obtain ⟨f1, f2, f3, f4, f5, f6, f7, f8, f9, f10, f11⟩ := e1
    exact ⟨⟨a0, l0, l1, l2, l3, l4, l5, l6, l7, l8, l9, l10, a12, A, ps, c, a14, a15⟩, by rw [f1, f2, f3, f4, f5, f6, f7, f8, f9, f10, f11, e3], hm, hp⟩
theorem cfg_of_Trod {base : Nat} {v : Value} {d : DataW H} {ps : List MemPlace} (hv : Value.okWide Try.prog W .any base 29 v) (h : DataW.Trod enc Try.prog W 0 (fun _ => true) true 29 v d ps) :
    ∃ d : CfD, v = d.v ∧ d.ps.length ≤ maxLen ∧ PasAt W (fun g => g < W.heap.size) d.A d.ps := by
  obtain ⟨cs, rfl, hsz⟩ := okWide_struct Try.underlying29 hv
  obtain ⟨fuel, hf⟩ := h
  obtain ⟨d, e, hm, hp⟩ := cfg_cells hf
  refine ⟨d, ?_, hm, hp⟩
  show Value.agg cs = Value.agg d.cs
  congr 1
  apply Array.ext'
  simpa [Value.cells] using e
end
end Go.Proofs.Ytpidjekabnnmcaa.hlift
