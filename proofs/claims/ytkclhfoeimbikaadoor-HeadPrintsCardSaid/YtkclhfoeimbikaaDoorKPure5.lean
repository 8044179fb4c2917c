/-
  Given for the seat's laws: what a line does. Plain: nothing of the program. No condition.
-/
import Derived.Test.YtkclhfoeimbikaaDoorKPure4
namespace Go.Proofs.YtkclhfoeimbikaaDoor.hd
set_option linter.unusedVariables false

/-- before a line: q is what is left -/
def Pl (b q : Str) (at_ ln : Nat) (l : Str) (fs : Flds) : Prop :=
  (ln = 0 ∧ l = [] ∧ fs = [] ∧ take b = gs start at_ q) ∨ (ln = fs.length + 1 ∧ fs.length ≤ 16 ∧ ∃ nm, take b = gs ⟨.begin, l, fs, nm, []⟩ at_ q)
def Ns (q : Str) (ln : Nat) : Prop := ln ≠ 17 ∨ (ln = 17 ∧ q = []) ∨ (ln = 17 ∧ ∃ r, q = 13 :: r)
def Fin2 (b q v : Str) (at_ ln : Nat) (l : Str) (fs : Flds) (u : Str) : Prop :=
  (ln = 0 ∧ fs = [] ∧ Pl b v (at_ + u.length + 2) 1 u []) ∨ (0 < ln ∧ u = [] ∧ take b = (l, fs, at_ + u.length + 2, 0)) ∨
  (0 < ln ∧ ln ≠ 17 ∧ ∃ k val, u = k ++ 58 :: val ∧ 58 ∉ k ∧ fs.length < 16 ∧ Pl b v (at_ + u.length + 2) (ln + 1) l (fs ++ [(low k, trim val)]))
def Ev (b q : Str) (at_ ln : Nat) (l : Str) (fs : Flds) : Prop :=
  (partP (ln == 0) false 0 (lineOf q) = (false, 6) ∧ ln ≠ 17 ∧ take b = ([], [], 0, 6)) ∨
  (∃ c r, q = c :: r ∧ c ≠ 13 ∧ ln = 17 ∧ take b = ([], [], 0, if sgn c then 3 else 6)) ∨
  ((partP (ln == 0) false 0 (lineOf q) = (false, 0) ∨ partP (ln == 0) false 0 (lineOf q) = (true, 0)) ∧ lineOf q = q ∧ Ns q ln ∧ take b = fin (at_ + q.length)) ∨
  (∃ u c v, q = u ++ 13 :: c :: v ∧ lineOf q = u ++ [13] ∧ partP (ln == 0) false 0 (lineOf q) = (true, 0) ∧ Ns q ln ∧ ((c ≠ 10 ∧ take b = ([], [], 0, 6)) ∨ (c = 10 ∧ Fin2 b q v at_ ln l fs u)))
theorem line_all {b q : Str} {at_ ln : Nat} {l : Str} {fs : Flds} (h : Pl b q at_ ln l fs) : Ev b q at_ ln l fs := by
  rcases h with ⟨rfl, rfl, rfl, h⟩ | ⟨rfl, hm, nm, h⟩
  · have e0 : ((0 : Nat) == 0) = true := rfl
    unfold Ev
    rw [e0, h]
    rcases first_run at_ q with ⟨h1, h2⟩ | ⟨h1, h2, h3⟩ | ⟨h1, u, v, t2, h2, h3, h4, h5⟩
    · exact .inl ⟨h1, by omega, h2⟩
    · exact .inr (.inr (.inl ⟨.inl h1, h2, .inl (by omega), h3⟩))
    · cases v with
      | nil =>
        refine .inr (.inr (.inl ⟨.inr h1, by rw [h3, h2], .inl (by omega), ?_⟩))
        rw [h4, h2]; simp [gs]; rfl
      | cons c v =>
        refine .inr (.inr (.inr ⟨u, c, v, h2, h3, h1, .inl (by omega), ?_⟩))
        rw [h4, half_run (by rw [h5])]
        by_cases hc : c = 10
        · refine .inr ⟨hc, .inl ⟨rfl, rfl, .inr ⟨rfl, by simp, [], ?_⟩⟩⟩
          rw [h, h4, half_run (by rw [h5]), if_pos hc, h5]
        · exact .inl ⟨hc, by rw [if_neg hc]⟩
  · have e0 : ((fs.length + 1 : Nat) == 0) = false := rfl
    unfold Ev
    rw [e0, h]
    by_cases h16 : fs.length = 16
    · cases q with
      | nil => exact .inr (.inr (.inl ⟨.inl rfl, rfl, .inr (.inl ⟨by omega, rfl⟩), by simp [gs]⟩))
      | cons c r =>
        by_cases hc : c = 13
        · subst hc
          have hp : partP false false 0 (lineOf (13 :: r)) = (true, 0) := by simp [lineOf, partP]
          have hns : Ns (13 :: r) (fs.length + 1) := .inr (.inr ⟨by omega, r, rfl⟩)
          rw [full_end]
          cases r with
          | nil => exact .inr (.inr (.inl ⟨.inr hp, rfl, hns, by simp [gs]⟩))
          | cons c v =>
            refine .inr (.inr (.inr ⟨[], c, v, rfl, rfl, hp, hns, ?_⟩))
            rw [last_run rfl]
            by_cases hc : c = 10
            · refine .inr ⟨hc, .inr (.inl ⟨by omega, rfl, ?_⟩)⟩
              rw [h, full_end, last_run rfl, if_pos hc]
              rfl
            · exact .inl ⟨hc, by rw [if_neg hc]⟩
        · exact .inr (.inl ⟨c, r, rfl, hc, by omega, full_run at_ c r h16 hc⟩)
    · have hn : fs.length + 1 ≠ 17 := by omega
      rcases begin_run (l := l) (nm := nm) at_ q (show fs.length < 16 by omega) with ⟨h1, h2⟩ | ⟨h1, h2, h3⟩ | ⟨h1, u, v, t2, h2, h3, h4, h5⟩
      · exact .inl ⟨h1, hn, h2⟩
      · exact .inr (.inr (.inl ⟨.inl h1, h2, .inl hn, h3⟩))
      · cases v with
        | nil =>
          refine .inr (.inr (.inl ⟨.inr h1, by rw [h3, h2], .inl hn, ?_⟩))
          rw [h4, h2]; simp [gs]; rfl
        | cons c v =>
          refine .inr (.inr (.inr ⟨u, c, v, h2, h3, h1, .inl hn, ?_⟩))
          rw [h4]
          rcases h5 with ⟨hu, h5⟩ | ⟨k, val, hu, hk, h5⟩
          · rw [last_run (by rw [h5])]
            by_cases hc : c = 10
            · refine .inr ⟨hc, .inr (.inl ⟨by omega, hu, ?_⟩)⟩
              rw [h, h4, last_run (by rw [h5]), if_pos hc, h5]
            · exact .inl ⟨hc, by rw [if_neg hc]⟩
          · rw [half_run (by rw [h5])]
            by_cases hc : c = 10
            · refine .inr ⟨hc, .inr (.inr ⟨by omega, hn, k, val, hu, hk, by omega, .inr ⟨by simp, by simp; omega, low k, ?_⟩⟩)⟩
              rw [h, h4, half_run (by rw [h5]), if_pos hc, h5]
            · exact .inl ⟨hc, by rw [if_neg hc]⟩
/-- where a line ends -/
theorem line_take (q : Str) : lineOf q = q.take (lineOf q).length := by
  induction q with
  | nil => rfl
  | cons c r ih =>
    by_cases hc : c = 13
    · simp [lineOf, hc]
    · simp only [lineOf, if_neg hc, List.length_cons, List.take_succ_cons]
      rw [← ih]
theorem line_len (q : Str) : (lineOf q).length ≤ q.length := by
  induction q with
  | nil => simp [lineOf]
  | cons c r ih => by_cases hc : c = 13 <;> simp [lineOf, hc]; omega
/-- up to i no 13 -/
theorem line_first {q : Str} {i : Nat} (h : ∀ j, j < i → q[j]? ≠ some 13) (hi : q[i]? = some 13) : (lineOf q).length = i + 1 := by
  rw [lineOf_at h hi, List.length_take]
  have := (List.getElem?_eq_some_iff.1 hi).1
  omega
end Go.Proofs.YtkclhfoeimbikaaDoor.hd
