/-
  Given for the seat's laws: a head line by line. Plain: nothing of the program. No condition.
-/
import Derived.Test.YtkclhfoeimbikaaDoorKPure
namespace Go.Proofs.YtkclhfoeimbikaaDoor.hd
set_option linter.unusedVariables false

def fin (i : Nat) : R := if i = 512 then ([], [], 0, 3) else ([], [], 0, 5)
/-- as go, of bytes that are cut at the 512th -/
def gs (t : T) (i : Nat) : Str → R
  | [] => fin i
  | c :: r => match step t c with
    | .error e => ([], [], 0, e)
    | .ok t' => if t'.st = .over then (t'.line, t'.fs, i + 1, 0) else gs t' (i + 1) r
theorem go_gs {t : T} {i : Nat} {b : Str} (hi : i < 512) : go t i b = gs t i (b.take (512 - i)) := by
  induction b generalizing t i with
  | nil => simp only [go, gs, fin, List.take_nil]; rw [if_neg (by omega)]
  | cons c r ih =>
    have e : 512 - i = (511 - i) + 1 := by omega
    rw [e, List.take_succ_cons]
    simp only [go, gs]
    cases step t c with
    | error e => rfl
    | ok t' =>
      simp only
      split
      · rfl
      · rcases (show i + 1 = 512 ∨ i + 1 < 512 by omega) with h | h
        · rw [if_pos h, show 511 - i = 0 by omega]; simp [gs, fin, h]
        · rw [if_neg (by omega), ih h, show 512 - (i + 1) = 511 - i by omega]
theorem take_gs (b : Str) : take b = gs start 0 (b.take 512) := go_gs (by omega)

/-- how a line goes on -/
def partP (first : Bool) : Bool → Nat → Str → Bool × Nat
  | _, _, [] => (false, 0)
  | colon, i, c :: r =>
    if c = 13 then (if (first && i == 0) || (!first && (decide (0 < i) && !colon)) then (false, 6) else (true, 0))
    else if first then (if vis c then partP first colon (i + 1) r else (false, 6))
    else if colon then (if vtab c then partP first colon (i + 1) r else (false, 6))
    else if c = 58 ∧ 0 < i then partP first true (i + 1) r
    else if sgn c then partP first colon (i + 1) r else (false, 6)
/-- up to the first 13, with it -/
def lineOf : Str → Str
  | [] => []
  | c :: r => if c = 13 then [13] else c :: lineOf r

def Out (p : Bool × Nat) (g : R) (at_ : Nat) (s : Str) (E : Str → T → Prop) : Prop :=
  (p = (false, 6) ∧ g = ([], [], 0, 6)) ∨ (p = (false, 0) ∧ lineOf s = s ∧ g = fin (at_ + s.length)) ∨
  (p = (true, 0) ∧ ∃ u v t2, s = u ++ 13 :: v ∧ lineOf s = u ++ [13] ∧ g = gs t2 (at_ + u.length + 1) v ∧ E u t2)
theorem Out.cons {p : Bool × Nat} {g : R} {at_ : Nat} {r : Str} {E' E : Str → T → Prop} {c : UInt8} (hc : c ≠ 13) (h : Out p g (at_ + 1) r E') (hE : ∀ u t2, E' u t2 → E (c :: u) t2) : Out p g at_ (c :: r) E := by
  rcases h with ⟨h1, h2⟩ | ⟨h1, h2, h3⟩ | ⟨h1, u, v, t2, h2, h3, h4, h5⟩
  · exact .inl ⟨h1, h2⟩
  · refine .inr (.inl ⟨h1, by simp [lineOf, hc, h2], ?_⟩)
    rw [h3, List.length_cons]; congr 1; omega
  · refine .inr (.inr ⟨h1, c :: u, v, t2, by rw [h2]; rfl, by simp [lineOf, hc, h3], ?_, hE _ _ h5⟩)
    rw [h4, List.length_cons]; congr 1; omega
theorem out_nil {first colon : Bool} {i at_ : Nat} {t : T} {E : Str → T → Prop} : Out (partP first colon i (lineOf [])) (gs t at_ []) at_ [] E := .inr (.inl ⟨rfl, rfl, rfl⟩)

theorem within_run {t : T} {i at_ : Nat} {s : Str} (ht : t.st = .within) (hi : 0 < i) : Out (partP true false i (lineOf s)) (gs t at_ s) at_ s (fun u t2 => t2 = { t with st := .half, line := t.part ++ u, part := [] }) := by
  induction s generalizing t i at_ with
  | nil => exact out_nil
  | cons c r ih =>
    by_cases hc : c = 13
    · subst hc
      refine .inr (.inr ⟨by simp [lineOf, partP]; omega, [], r, { t with st := .half, line := t.part, part := [] }, rfl, rfl, ?_, by simp⟩)
      simp [gs, step, ht, show vis 13 = false by decide]
    · have e1 : lineOf (c :: r) = c :: lineOf r := by simp [lineOf, hc]
      rw [e1]
      cases hv : vis c with
      | true =>
        have h := ih (t := { t with st := .within, part := t.part ++ [c] }) (i := i + 1) (at_ := at_ + 1) rfl (by omega)
        have e2 : partP true false i (c :: lineOf r) = partP true false (i + 1) (lineOf r) := by simp [partP, hc, hv]
        have e3 : gs t at_ (c :: r) = gs { t with st := .within, part := t.part ++ [c] } (at_ + 1) r := by simp [gs, step, ht, hv]
        rw [e2, e3]
        exact h.cons hc fun u t2 e => by rw [e]; simp
      | false => exact .inl ⟨by simp [partP, hc, hv], by simp [gs, step, ht, hv, hc]⟩
theorem valued_run {t : T} {i at_ : Nat} {s : Str} (ht : t.st = .valued) : Out (partP false true i (lineOf s)) (gs t at_ s) at_ s (fun u t2 => t2 = { t with st := .half, fs := t.fs ++ [(t.name, trim (t.part ++ u))], part := [] }) := by
  induction s generalizing t i at_ with
  | nil => exact out_nil
  | cons c r ih =>
    by_cases hc : c = 13
    · subst hc
      refine .inr (.inr ⟨by simp [lineOf, partP], [], r, { t with st := .half, fs := t.fs ++ [(t.name, trim t.part)], part := [] }, rfl, rfl, ?_, by simp⟩)
      simp [gs, step, ht, show vtab 13 = false by decide]
    · have e1 : lineOf (c :: r) = c :: lineOf r := by simp [lineOf, hc]
      rw [e1]
      cases hv : vtab c with
      | true =>
        have h := ih (t := { t with st := .valued, part := t.part ++ [c] }) (i := i + 1) (at_ := at_ + 1) rfl
        have e2 : partP false true i (c :: lineOf r) = partP false true (i + 1) (lineOf r) := by simp [partP, hc, hv]
        have e3 : gs t at_ (c :: r) = gs { t with st := .valued, part := t.part ++ [c] } (at_ + 1) r := by simp [gs, step, ht, hv]
        rw [e2, e3]
        exact h.cons hc fun u t2 e => by rw [e]; simp
      | false => exact .inl ⟨by simp [partP, hc, hv], by simp [gs, step, ht, hv, hc]⟩
theorem named_run {t : T} {i at_ : Nat} {s : Str} (ht : t.st = .named) (hi : 0 < i) : Out (partP false false i (lineOf s)) (gs t at_ s) at_ s
    (fun u t2 => ∃ k v, u = k ++ 58 :: v ∧ 58 ∉ k ∧ t2 = ⟨.half, t.line, t.fs ++ [(t.part ++ low k, trim v)], t.part ++ low k, []⟩) := by
  induction s generalizing t i at_ with
  | nil => exact out_nil
  | cons c r ih =>
    by_cases hc : c = 13
    · subst hc
      exact .inl ⟨by simp [lineOf, partP, hi], by simp [gs, step, ht, show sgn 13 = false by decide]⟩
    · have e1 : lineOf (c :: r) = c :: lineOf r := by simp [lineOf, hc]
      rw [e1]
      by_cases h8 : c = 58
      · subst h8
        have h := valued_run (t := { t with st := .valued, name := t.part, part := [] }) (i := i + 1) (at_ := at_ + 1) (s := r) rfl
        have e2 : partP false false i (58 :: lineOf r) = partP false true (i + 1) (lineOf r) := by simp [partP, hi]
        have e3 : gs t at_ (58 :: r) = gs { t with st := .valued, name := t.part, part := [] } (at_ + 1) r := by simp [gs, step, ht, show sgn 58 = false by decide]
        rw [e2, e3]
        exact h.cons hc fun u t2 e => ⟨[], u, rfl, by simp, by rw [e]; simp [low]⟩
      · cases hv : sgn c with
        | true =>
          have h := ih (t := { t with st := .named, part := t.part ++ [lw c] }) (i := i + 1) (at_ := at_ + 1) rfl (by omega)
          have e2 : partP false false i (c :: lineOf r) = partP false false (i + 1) (lineOf r) := by simp [partP, hc, hv, h8]
          have e3 : gs t at_ (c :: r) = gs { t with st := .named, part := t.part ++ [lw c] } (at_ + 1) r := by simp [gs, step, ht, hv]
          rw [e2, e3]
          refine h.cons hc ?_
          rintro u t2 ⟨k, v, rfl, h1, e⟩
          exact ⟨c :: k, v, rfl, by simp [Ne.symm h8, h1], by rw [e]; simp [low]⟩
        | false => exact .inl ⟨by simp [partP, hc, hv, h8], by simp [gs, step, ht, hv, h8]⟩
/-- the first line -/
theorem first_run (at_ : Nat) (s : Str) : Out (partP true false 0 (lineOf s)) (gs start at_ s) at_ s (fun u t2 => t2 = ⟨.half, u, [], [], []⟩) := by
  cases s with
  | nil => exact out_nil
  | cons c r =>
    by_cases hc : c = 13
    · subst hc
      exact .inl ⟨by simp [lineOf, partP], by simp [gs, step, start, show vis 13 = false by decide]⟩
    · have e1 : lineOf (c :: r) = c :: lineOf r := by simp [lineOf, hc]
      rw [e1]
      cases hv : vis c with
      | true =>
        have h := within_run (t := ⟨.within, [], [], [], [c]⟩) (i := 1) (at_ := at_ + 1) (s := r) rfl (by omega)
        have e2 : partP true false 0 (c :: lineOf r) = partP true false 1 (lineOf r) := by simp [partP, hc, hv]
        have e3 : gs start at_ (c :: r) = gs ⟨.within, [], [], [], [c]⟩ (at_ + 1) r := by simp [gs, step, start, hv]
        rw [e2, e3]
        exact h.cons hc fun u t2 e => by rw [e]; simp
      | false => exact .inl ⟨by simp [partP, hc, hv], by simp [gs, step, start, hv]⟩
/-- another line -/
theorem begin_run {l : Str} {fs : Flds} {nm : Str} (at_ : Nat) (s : Str) (hl : fs.length < 16) : Out (partP false false 0 (lineOf s)) (gs ⟨.begin, l, fs, nm, []⟩ at_ s) at_ s
    (fun u t2 => (u = [] ∧ t2 = ⟨.last, l, fs, nm, []⟩) ∨ ∃ k v, u = k ++ 58 :: v ∧ 58 ∉ k ∧ t2 = ⟨.half, l, fs ++ [(low k, trim v)], low k, []⟩) := by
  cases s with
  | nil => exact out_nil
  | cons c r =>
    by_cases hc : c = 13
    · subst hc
      refine .inr (.inr ⟨by simp [lineOf, partP], [], r, ⟨.last, l, fs, nm, []⟩, rfl, rfl, ?_, .inl ⟨rfl, rfl⟩⟩)
      simp [gs, step]
    · have e1 : lineOf (c :: r) = c :: lineOf r := by simp [lineOf, hc]
      rw [e1]
      cases hv : sgn c with
      | true =>
        have h := named_run (t := ⟨.named, l, fs, nm, [lw c]⟩) (i := 1) (at_ := at_ + 1) (s := r) rfl (by omega)
        have e2 : partP false false 0 (c :: lineOf r) = partP false false 1 (lineOf r) := by simp [partP, hc, hv]
        have e3 : gs ⟨.begin, l, fs, nm, []⟩ at_ (c :: r) = gs ⟨.named, l, fs, nm, [lw c]⟩ (at_ + 1) r := by
          simp [gs, step, hc, hv, show ¬ fs.length = 16 by omega]
        rw [e2, e3]
        refine h.cons hc ?_
        rintro u t2 ⟨k, v, rfl, h1, e⟩
        refine .inr ⟨c :: k, v, rfl, ?_, by rw [e]; simp [low]⟩
        have := (sgn_facts c hv).2.1
        simp [Ne.symm this, h1]
      | false => exact .inl ⟨by simp [partP, hc, hv], by simp [gs, step, hc, hv]⟩
/-- sixteen fields, another line -/
theorem full_run {l : Str} {fs : Flds} {nm : Str} (at_ : Nat) (c : UInt8) (r : Str) (hl : fs.length = 16) (hc : c ≠ 13) : gs ⟨.begin, l, fs, nm, []⟩ at_ (c :: r) = ([], [], 0, if sgn c then 3 else 6) := by
  cases hv : sgn c <;> simp [gs, step, hc, hv, hl]
theorem full_end {l : Str} {fs : Flds} {nm : Str} (at_ : Nat) (r : Str) : gs ⟨.begin, l, fs, nm, []⟩ at_ (13 :: r) = gs ⟨.last, l, fs, nm, []⟩ (at_ + 1) r := by simp [gs, step]
/-- behind a 13 -/
theorem half_run {t : T} {i : Nat} {c : UInt8} {r : Str} (ht : t.st = .half) : gs t i (c :: r) = if c = 10 then gs { t with st := .begin } (i + 1) r else ([], [], 0, 6) := by
  by_cases h : c = 10 <;> simp [gs, step, ht, h]
theorem last_run {t : T} {i : Nat} {c : UInt8} {r : Str} (ht : t.st = .last) : gs t i (c :: r) = if c = 10 then (t.line, t.fs, i + 1, 0) else ([], [], 0, 6) := by
  by_cases h : c = 10 <;> simp [gs, step, ht, h]

/-! ### where a line ends -/
theorem lineOf_at {s : Str} {i : Nat} (h : ∀ j, j < i → s[j]? ≠ some 13) (hi : s[i]? = some 13) : lineOf s = s.take (i + 1) := by
  induction s generalizing i with
  | nil => simp at hi
  | cons c r ih =>
    cases i with
    | zero => simp at hi; subst hi; simp [lineOf]
    | succ i =>
      have hc : c ≠ 13 := fun e => h 0 (by omega) (by simp [e])
      simp only [lineOf, if_neg hc, List.take_succ_cons]
      rw [ih (i := i) (fun j hj => by have := h (j + 1) (by omega); simpa using this) (by simpa using hi)]
theorem lineOf_all {s : Str} (h : ∀ j, j < s.length → s[j]? ≠ some 13) : lineOf s = s := by
  induction s with
  | nil => rfl
  | cons c r ih =>
    have hc : c ≠ 13 := fun e => h 0 (by simp) (by simp [e])
    simp only [lineOf, if_neg hc]
    rw [ih (fun j hj => by have := h (j + 1) (by simp; omega); simpa using this)]
end Go.Proofs.YtkclhfoeimbikaaDoor.hd
