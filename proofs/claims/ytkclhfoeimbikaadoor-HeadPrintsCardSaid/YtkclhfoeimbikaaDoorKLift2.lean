/-
  Given for the seat's laws: what is read of a head that came in. No condition.
-/
import Derived.Test.YtkclhfoeimbikaaDoorKLift
import Derived.Test.YtkclhfoeimbikaaDoorKFld
import Derived.ChangeSame
import Derived.Deep.Strs
namespace Go.Proofs.YtkclhfoeimbikaaDoor.lift
open Go.ChangeShapes Go.WideShapes Go.ChangeAt Go.RowKit Go.Joins Go.Deep mem hd
set_option linter.unusedVariables false
set_option maxRecDepth 100000

theorem list_of {α : Type} (P : Nat → α → Prop) : ∀ n, (∀ i, i < n → ∃ x, P i x) → ∃ l : List α, l.length = n ∧ ∀ (i : Nat) (x : α), l[i]? = some x → P i x
  | 0, _ => ⟨[], rfl, fun i x h => by simp at h⟩
  | n + 1, h => by
    obtain ⟨l, hl, hp⟩ := list_of P n (fun i hi => h i (by omega))
    obtain ⟨x, hx⟩ := h n (by omega)
    refine ⟨l ++ [x], by simp [hl], fun i y hy => ?_⟩
    by_cases hi : i < n
    · exact hp i y (by rwa [List.getElem?_append_left (by omega)] at hy)
    · rw [List.getElem?_append_right (by omega)] at hy
      have : i - l.length = 0 := by
        have := (List.getElem?_eq_some_iff.1 hy).1
        simp at this
        omega
      rw [this] at hy
      simp at hy
      subst hy
      obtain rfl : i = n := by omega
      exact hx

theorem flat2_cells {P : Nat → Value → Prop} : ∀ (fs : Flds) (k : Nat), (∀ i p, fs[i]? = some p → P (k + i * 2) (.string (S p.1)) ∧ P (k + i * 2 + 1) (.string (S p.2))) → ∀ j u, (flat2 fs)[j]? = some u → P (k + j) u
  | [], k, h, j, u, hu => by simp [flat2] at hu
  | p :: r, k, h, j, u, hu => by
    have h0 := h 0 p rfl
    have hr := flat2_cells (P := P) r (k + 2) (fun i q hq => by
      have := h (i + 1) q (by simpa using hq)
      rw [show k + 2 + i * 2 = k + (i + 1) * 2 by omega]
      exact this)
    rw [show flat2 (p :: r) = .string (S p.1) :: .string (S p.2) :: flat2 r from rfl] at hu
    rcases j with _ | _ | j
    · simp at hu; subst hu; simpa using h0.1
    · simp at hu; subst hu; simpa using h0.2
    · simp at hu
      have := hr j u hu
      rw [show k + (j + 1 + 1) = k + 2 + j by omega]
      exact this

theorem cells_two : Tryd.prog.cellsOf 49 = 2 := by kernel_rfl
theorem cells_str : Tryd.prog.cellsOf 9 = 1 := by kernel_rfl
theorem cells_flds : Tryd.prog.cellsOf 23 = 1 := by kernel_rfl

section
variable {H : Type} {enc : TypeId × Value → H} {W : World}

theorem two_cells {fuel : Nat} {q0 q1 : Value} {x : DataW H × List MemPlace} (h : DataW.trod enc Tryd.prog W 0 (fun _ => true) true fuel 49 [q0, q1] = some x) : ∃ p : Str × Str, q0 = .string (S p.1) ∧ q1 = .string (S p.2) := by
  obtain ⟨xs, m, _, _, _, hlen, hf⟩ := DataW.trod_array Tryd.underlying49 h
  have h0 := hf 0 (by omega)
  have h1 := hf 1 (by omega)
  rw [cells_str] at h0 h1
  match xs, hlen with
  | [y0, y1], _ =>
    have g0 : DataW.trod enc Tryd.prog W 0 (fun _ => true) true m 9 [q0] = some y0 := by simpa using h0
    have g1 : DataW.trod enc Tryd.prog W 0 (fun _ => true) true m 9 [q1] = some y1 := by simpa using h1
    obtain ⟨s0, e0, _, _⟩ := DataW.trod_string Tryd.underlying9 g0
    obtain ⟨s1, e1, _, _⟩ := DataW.trod_string Tryd.underlying9 g1
    simp at e0 e1
    exact ⟨(s0.data.toList, s1.data.toList), by rw [S_data]; exact e0, by rw [S_data]; exact e1⟩

theorem flds_cells {fuel : Nat} {q : Value} {x : DataW H × List MemPlace} (h : DataW.trod enc Tryd.prog W 0 (fun _ => true) true fuel 23 [q] = some x) :
    ∃ A n c fs, q = .slice A n c ∧ FAt W (fun g => g < W.heap.size) A n c fs := by
  rcases open_slice Tryd.underlying23 h with ⟨hcs, _⟩ | ⟨a, len, cap, m, n, D, Pl, hcs, _, hl, hm, hmm, _, hi⟩
  · simp at hcs
    exact ⟨none, 0, 0, [], hcs, FAt.nil _ _⟩
  · simp at hcs
    simp only [if_true] at hmm
    subst hmm
    by_cases h0 : len = 0
    · subst h0
      exact ⟨some a, 0, m, [], hcs, rfl, by omega, hm, (fun e => by cases e), fun h => absurd h (by omega)⟩
    · have hfst : ∃ v, W.cell? (a.add (0 * 2)) = some v := by
        obtain ⟨cs', hc, _⟩ := hi 0 (by omega)
        rw [cells_two] at hc
        obtain ⟨_, hcl, hat⟩ := World.cells?_some hc
        have h1 := hat 0 (by omega)
        rw [List.getElem?_eq_getElem (by omega)] at h1
        exact ⟨_, by simpa [Addr.add] using h1⟩
      obtain ⟨v0, hv0⟩ := hfst
      have hspot : a.spot = none := by simpa [Addr.add] using World.cell?_spot hv0
      obtain ⟨b, off, spot⟩ := a
      subst hspot
      have hb : b < W.heap.size := by simpa [Addr.add] using lt_of_cell hv0
      have each : ∀ i, i < len → ∃ p : Str × Str, W.cell? ⟨b, off + i * 2, none⟩ = some (.string (S p.1)) ∧ W.cell? ⟨b, off + i * 2 + 1, none⟩ = some (.string (S p.2)) := by
        intro i hil
        obtain ⟨cs', hc, ht⟩ := hi i (by omega)
        rw [cells_two] at hc
        obtain ⟨_, hcl, hat⟩ := World.cells?_some hc
        match cs', hcl with
        | [q0, q1], _ =>
          have g0 := hat 0 (by omega)
          have g1 := hat 1 (by omega)
          have addr : ∀ j, ((⟨b, off, none⟩ : Addr).add (i * 2)).add j = ⟨b, off + i * 2 + j, none⟩ := fun j => by
            by_cases hi3 : i * 2 = 0 <;> by_cases hj : j = 0 <;> simp [Addr.add, hi3, hj]
          rw [addr] at g0 g1
          obtain ⟨p, e0, e1⟩ := two_cells ht
          exact ⟨p, by simpa [e0] using g0, by simpa [e1] using g1⟩
      obtain ⟨fs, hlen, hp⟩ := list_of _ len each
      exact ⟨some ⟨b, off, none⟩, len, m, fs, hcs, hlen, by omega, hm, (fun e => by cases e), fun _ => ⟨b, off, rfl, hb, fun j u hu =>
        flat2_cells (P := fun k u => W.cell? ⟨b, k, none⟩ = some u) fs off hp j u hu⟩⟩

theorem head_of_Trod {base : Nat} {v : Value} {d : DataW H} {ps : List MemPlace} (hv : Value.okWide Tryd.prog W .any base 25 v) (h : DataW.Trod enc Tryd.prog W 0 (fun _ => true) true 25 v d ps) :
    ∃ t A n c fs, v = .agg #[.string (S t), .slice A n c] ∧ FAt W (fun g => g < W.heap.size) A n c fs := by
  obtain ⟨cs, rfl, hsz⟩ := okWide_struct Tryd.underlying25 hv
  have hc2 : Tryd.prog.cellsOf 25 = 2 := by kernel_rfl
  obtain ⟨fuel, hf⟩ := h
  obtain ⟨y0, y1, n, hx, _, h0, h1⟩ := trod_struct2 Tryd.underlying25 hf
  obtain ⟨cs⟩ := cs
  have hl : cs.length = 2 := by simpa using hsz.trans hc2
  match cs, hl with
  | [c0, c1], _ =>
    have g0 : DataW.trod enc Tryd.prog W 0 (fun _ => true) true n 9 [c0] = some y0 := by simpa [Value.cells, cells_str] using h0
    have g1 : DataW.trod enc Tryd.prog W 0 (fun _ => true) true n 23 [c1] = some y1 := by simpa [Value.cells, cells_flds] using h1
    obtain ⟨s, e0, _, _⟩ := DataW.trod_string Tryd.underlying9 g0
    obtain ⟨A, m, c, fs, e1, hfs⟩ := flds_cells g1
    simp at e0
    exact ⟨s.data.toList, A, m, c, fs, by rw [S_data, e0, e1], hfs⟩
end
end Go.Proofs.YtkclhfoeimbikaaDoor.lift
