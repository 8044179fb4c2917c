/-
  Given for 'Rows.ProbePlaysSaid': what is read of a slice of acts that came in. No condition.
-/
import Derived.Test.YtamcmhadodgalaaQActs
import Derived.Test.YtamcmhadodgalaaQLift
import Derived.Deep.Strs
namespace Go.Proofs.Ytamcmhadodgalaa.lift
open Go.ChangeShapes Go.WideShapes Go.ChangeAt Go.RowKit Go.Joins Go.Deep mem pl plays
set_option linter.unusedVariables false

theorem list_of {α : Type} (P : Nat → α → Prop) : ∀ n, (∀ i, i < n → ∃ x, P i x) → ∃ l : List α, l.length = n ∧ ∀ (i : Nat) (x : α), l[i]? = some x → P i x
  | 0, _ => ⟨[], rfl, fun i x h => by simp at h⟩
  | n + 1, h => by
    obtain ⟨l, hl, hp⟩ := list_of P n (fun i hi => h i (by omega))
    obtain ⟨x, hx⟩ := h n (by omega)
    refine ⟨l ++ [x], by simp [hl], fun i y hy => ?_⟩
    by_cases hi : i < n
    · exact hp i y (by rwa [List.getElem?_append_left (by omega)] at hy)
    · rw [List.getElem?_append_right (by omega)] at hy
      have : i - l.length = 0 := by
        have := (List.getElem?_eq_some_iff.1 hy).1
        simp at this
        omega
      rw [this] at hy
      simp at hy
      subst hy
      obtain rfl : i = n := by omega
      exact hx

theorem cells3 : Try.prog.cellsOf 33 = 3 := by kernel_rfl

section
variable {H : Type} {enc : TypeId × Value → H} {W : World}

theorem ints_cells {fuel : Nat} {cs : List Value} {x : DataW H × List MemPlace} (h : DataW.trod enc Try.prog W 0 (fun _ => true) true fuel 31 cs = some x) :
    ∃ (A : Option Addr) (c : Nat) (zs : List Int), cs = [.slice A zs.length c] ∧ zs.length ≤ maxLen ∧ RowAt W (fun g => g < W.heap.size) A (I8 zs) ∧ (A = none → zs.length = 0 ∧ c = 0) := by
  rcases open_ints Try.underlying31 Try.underlying3 (by kernel_rfl) h with ⟨hcs, _⟩ | ⟨a, l, c, zs, hcs, _, hl, hm, hz, _, hcell, hwz⟩
  · exact ⟨none, 0, [], hcs, by simp [maxLen], ⟨fun h => absurd h (by simp [I8])⟩, fun _ => ⟨rfl, rfl⟩⟩
  · simp only [if_true] at hz
    have hlen : (zs.take l).length = l := by rw [List.length_take]; omega
    refine ⟨some a, c, zs.take l, by rw [hlen]; exact hcs, by rw [hlen]; omega, ⟨fun hp => ?_⟩, fun e => by cases e⟩
    rw [I8_len, hlen] at hp
    have h0 := hcell 0 (by omega)
    have hspot : a.spot = none := by simpa [Addr.add] using World.cell?_spot h0
    have hlt := lt_of_cell h0
    obtain ⟨b, off, spot⟩ := a
    subst hspot
    refine ⟨b, off, rfl, by simpa [Addr.add] using hlt, fun j z hz' => ?_⟩
    unfold I8 at hz'
    rw [List.getElem?_map, List.getElem?_take] at hz'
    split at hz'
    · obtain ⟨y, hy, rfl⟩ := Option.map_eq_some_iff.1 hz'
      have hj := (List.getElem?_eq_some_iff.1 hy).1
      have h1 := hcell j hj
      have hv : zs.getD j 0 = y := by rw [List.getD_eq_getElem?_getD, hy]; rfl
      rw [hv] at h1
      by_cases hj0 : j = 0
      · subst hj0; simpa [Addr.add] using h1
      · simpa [Addr.add, hj0] using h1
    · cases hz'

theorem acts_of_Trod {base : Nat} {v : Value} {d : DataW H} {ps : List MemPlace} (hv : Value.okWide Try.prog W .any base 22 v) (h : DataW.Trod enc Try.prog W 0 (fun _ => true) true 22 v d ps) :
    ∃ (A : Option Addr) (c : Nat) (acts : List ActD), v = .slice A acts.length c ∧ acts.length ≤ maxLen ∧ ActsAt W A acts := by
  obtain ⟨a0, len, cap, rfl⟩ := okWide_slice Try.underlying22 hv
  obtain ⟨fuel, hf⟩ := h
  rcases open_slice Try.underlying22 hf with ⟨hcs, _⟩ | ⟨a, len', cap', m, n, D, Pl, hcs, _, hl, hm, hmm, _, hi⟩
  · simp [Value.cells] at hcs
    obtain ⟨rfl, rfl, rfl⟩ := hcs
    exact ⟨none, 0, [], rfl, by simp [maxLen], ⟨fun hp => absurd hp (by simp)⟩⟩
  · simp [Value.cells] at hcs
    obtain ⟨rfl, rfl, rfl⟩ := hcs
    simp only [if_true] at hmm
    subst hmm
    by_cases h0 : len = 0
    · subst h0
      exact ⟨some a, m, [], rfl, by simp [maxLen], ⟨fun hp => absurd hp (by simp)⟩⟩
    · have hspot : a.spot = none := by
        obtain ⟨cs', hc, _⟩ := hi 0 (by omega)
        rw [cells3] at hc
        obtain ⟨_, hcl, hat⟩ := World.cells?_some hc
        have h1 := hat 0 (by omega)
        rw [List.getElem?_eq_getElem (by omega)] at h1
        simpa [Addr.add] using World.cell?_spot h1
      obtain ⟨b, off, spot⟩ := a
      subst hspot
      have hb : b < W.heap.size := by
        obtain ⟨cs', hc, _⟩ := hi 0 (by omega)
        rw [cells3] at hc
        obtain ⟨_, hcl, hat⟩ := World.cells?_some hc
        have h1 := hat 0 (by omega)
        rw [List.getElem?_eq_getElem (by omega)] at h1
        simpa [Addr.add] using lt_of_cell h1
      have each : ∀ i, i < len → ∃ x : ActD, W.cell? ⟨b, off + i * 3, none⟩ = some (.int .u8 x.kd) ∧ W.cell? ⟨b, off + i * 3 + 1, none⟩ = some (.int .i64 x.n) ∧ W.cell? ⟨b, off + i * 3 + 2, none⟩ = some (.slice x.A x.ws.length x.c) ∧
          0 ≤ x.kd ∧ x.kd ≤ 255 ∧ x.ws.length ≤ maxLen ∧ RowAt W (fun g => g < W.heap.size) x.A (I8 x.ws) ∧ (x.A = none → x.ws.length = 0 ∧ x.c = 0) := by
        intro i hil
        obtain ⟨cs', hc, ht⟩ := hi i (by omega)
        rw [cells3] at hc
        obtain ⟨_, hcl, hat⟩ := World.cells?_some hc
        obtain ⟨y0, y1, y2, n', _, hlen', e0, e1, e2⟩ := trod_struct3 Try.underlying33 ht
        match cs', hcl with
        | [q0, q1, q2], _ =>
          have g0 := hat 0 (by omega)
          have g1 := hat 1 (by omega)
          have g2 := hat 2 (by omega)
          have addr : ∀ j, ((⟨b, off, none⟩ : Addr).add (i * 3)).add j = ⟨b, off + i * 3 + j, none⟩ := fun j => by
            by_cases hi3 : i * 3 = 0 <;> by_cases hj : j = 0 <;> simp [Addr.add, hi3, hj]
          rw [addr] at g0 g1 g2
          have o0 : Try.prog.cellsOf 5 = 1 := by kernel_rfl
          have o1 : Try.prog.cellsOf 3 = 1 := by kernel_rfl
          have o2 : Try.prog.cellsOf 31 = 1 := by kernel_rfl
          obtain ⟨a0, ea0, _, wa0⟩ := DataW.trod_int (k := .u8) Try.underlying5 (by simpa [o0] using e0)
          obtain ⟨a1, ea1, _, wa1⟩ := DataW.trod_int (k := .i64) Try.underlying3 (by simpa [o1] using e1)
          obtain ⟨Az, cz, zs, ea2, hzm, hzr, hz0⟩ := ints_cells (cs := [q2]) (by simpa [o2] using e2)
          simp at ea0 ea1 ea2
          subst ea0 ea1 ea2
          have b0 : 0 ≤ a0 ∧ a0 ≤ 255 := by simpa [Lit.wf, IntKind.min, IntKind.max, IntKind.signed, IntKind.bits] using wa0
          exact ⟨⟨a0, a1, Az, cz, zs⟩, by simpa using g0, by simpa using g1, by simpa using g2, b0.1, b0.2, hzm, hzr, hz0⟩
      obtain ⟨acts, hlen, hp⟩ := list_of _ len each
      subst hlen
      exact ⟨some ⟨b, off, none⟩, m, acts, rfl, by omega, ⟨fun _ => ⟨b, off, rfl, hb, hp⟩⟩⟩
end
end Go.Proofs.Ytamcmhadodgalaa.lift
