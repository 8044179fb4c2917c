/-
  Given for the seat's laws: what the document's Print asks early. Plain: nothing of the program but what XKNam holds. No condition.
-/
import Derived.Test.YtkclhfoeimbikaaDoorKNam
import Derived.Test.YtkclhfoeimbikaaDoorKPure2
namespace Go.Proofs.YtkclhfoeimbikaaDoor.hd
set_option linter.unusedVariables false

theorem isN_iff (s : Str) : isN s = true ↔ okN s := by
  unfold isN okN
  cases s <;> simp
/-- what stands behind i fields -/
def outP (l : Str) (fs : Flds) (i : Nat) : Str := l ++ [13, 10] ++ (fs.take i).flatMap prF
theorem outP_zero (l : Str) (fs : Flds) : outP l fs 0 = l ++ [13, 10] := by simp [outP]
theorem outP_add {l : Str} {fs : Flds} {i : Nat} {p : Str × Str} (h : fs[i]? = some p) : outP l fs (i + 1) = outP l fs i ++ prF p := by
  unfold outP
  rw [List.take_add_one, h]
  simp
theorem outP_all {l : Str} {fs : Flds} {n : Nat} (h : fs.length = n) : outP l fs n ++ [13, 10] = pr l fs := by
  unfold outP pr
  rw [List.take_of_length_le (by omega)]
theorem outP_le (l : Str) (fs : Flds) (i : Nat) : (outP l fs i).length ≤ (pr l fs).length := by
  have h : fs.flatMap prF = (fs.take i).flatMap prF ++ (fs.drop i).flatMap prF := by rw [← List.flatMap_append, List.take_append_drop]
  unfold outP pr
  rw [h]
  simp
/-- each early answer of the document's Print is right -/
theorem not_many {l : Str} {fs : Flds} (h : 16 < fs.length) : ¬ prints l fs := fun hp => by have := ((prints_iff l fs).1 hp).1.most; omega
theorem not_long {l : Str} {fs : Flds} {i : Nat} (h : 512 < (outP l fs i).length) : ¬ prints l fs := fun hp => by
  have h1 := ((prints_iff l fs).1 hp).2
  have h2 := outP_le l fs i
  omega
theorem not_end {l : Str} {fs : Flds} (h : 512 < (pr l fs).length) : ¬ prints l fs := fun hp => by have := ((prints_iff l fs).1 hp).2; omega
theorem not_trim {l : Str} {fs : Flds} {i : Nat} {p : Str × Str} (hp : fs[i]? = some p) (h : trim p.2 ≠ p.2) : ¬ prints l fs := fun hq => h (((prints_iff l fs).1 hq).1.flds p (List.mem_of_getElem? hp)).2.1
theorem not_name {l : Str} {fs : Flds} {i : Nat} {p : Str × Str} (hp : fs[i]? = some p) (h : isN p.1 = false) : ¬ prints l fs := fun hq => by
  have := (isN_iff p.1).2 (((prints_iff l fs).1 hq).1.flds p (List.mem_of_getElem? hp)).1
  rw [h] at this
  cases this
/-- the late answers: what was taken of the bytes is looked at -/
theorem prints_late {l : Str} {fs : Flds} {l2 : Str} {fs2 : Flds} {n e : Nat} (h : take (pr l fs) = (l2, fs2, n, e)) : prints l fs ↔ e = 0 ∧ n = (pr l fs).length ∧ l2 = l ∧ fs2.length = fs.length ∧ fs2 = lowF fs := by
  unfold prints
  rw [h]
  constructor
  · intro h
    simp only [Prod.mk.injEq] at h
    obtain ⟨h1, h2, h3, h4⟩ := h
    exact ⟨h4, h3, h1, by rw [h2]; simp [lowF], h2⟩
  · rintro ⟨h1, h2, h3, _, h5⟩
    rw [h1, h2, h3, h5]
end Go.Proofs.YtkclhfoeimbikaaDoor.hd
