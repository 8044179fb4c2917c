/-
  Given for the seat's laws: a head line by line. Plain: nothing of the program. No condition.
-/
import Derived.Test.YtghdaengkgiekaaGreatDoorYKPure
import Derived.Test.YtghdaengkgiekaaGreatDoorYKConv
import Derived.Test.YtghdaengkgiekaaGreatDoorYKTake
namespace Go.Proofs.YtghdaengkgiekaaGreatDoor.hd
set_option linter.unusedVariables false

def fin (i : Nat) : R := if i = 512 then ([], [], 0, 3) else ([], [], 0, 5)
/-- as go, of bytes that are cut at the 512th -/
def gs (t : T) (i : Nat) : Str → R
  | [] => fin i
  | c :: r => match step t c with
    | .error e => ([], [], 0, e)
    | .ok t' => if t'.st = .over then (t'.line, t'.fs, i + 1, 0) else gs t' (i + 1) r
theorem go_gs {t : T} {i : Nat} {b : Str} (hi : i < 512) : go t i b = gs t i (b.take (512 - i)) := by
  induction b generalizing t i with
  | nil => simp only [go, gs, fin, List.take_nil]; rw [if_neg (by omega)]
  | cons c r ih =>
    have e : 512 - i = (511 - i) + 1 := by omega
    rw [e, List.take_succ_cons]
    simp only [go, gs]
    cases step t c with
    | error e => rfl
    | ok t' =>
      simp only
      split
      · rfl
      · rcases (show i + 1 = 512 ∨ i + 1 < 512 by omega) with h | h
        · rw [if_pos h, show 511 - i = 0 by omega]; simp [gs, fin, h]
        · rw [if_neg (by omega), ih h, show 512 - (i + 1) = 511 - i by omega]
theorem take_gs (b : Str) : take b = gs start 0 (b.take 512) := go_gs (by omega)

/-- how a line goes on -/
def partP (first : Bool) : Bool → Nat → Str → Bool × Nat
  | _, _, [] => (false, 0)
  | colon, i, c :: r =>
    if c = 13 then (if (first && i == 0) || (!first && (decide (0 < i) && !colon)) then (false, 6) else (true, 0))
    else if first then (if vis c then partP first colon (i + 1) r else (false, 6))
    else if colon then (if vtab c then partP first colon (i + 1) r else (false, 6))
    else if c = 58 ∧ 0 < i then partP first true (i + 1) r
    else if sgn c then partP first colon (i + 1) r else (false, 6)
/-- up to the first 13, with it -/
def lineOf : Str → Str
  | [] => []
  | c :: r => if c = 13 then [13] else c :: lineOf r

def Out (p : Bool × Nat) (g : R) (at_ : Nat) (s : Str) (E : Str → T → Prop) : Prop :=
  (p = (false, 6) ∧ g = ([], [], 0, 6)) ∨ (p = (false, 0) ∧ lineOf s = s ∧ g = fin (at_ + s.length)) ∨
  (p = (true, 0) ∧ ∃ u v t2, s = u ++ 13 :: v ∧ lineOf s = u ++ [13] ∧ g = gs t2 (at_ + u.length + 1) v ∧ E u t2)
theorem Out.cons {p : Bool × Nat} {g : R} {at_ : Nat} {r : Str} {E' E : Str → T → Prop} {c : UInt8} (hc : c ≠ 13) (h : Out p g (at_ + 1) r E') (hE : ∀ u t2, E' u t2 → E (c :: u) t2) : Out p g at_ (c :: r) E := by
  rcases h with ⟨h1, h2⟩ | ⟨h1, h2, h3⟩ | ⟨h1, u, v, t2, h2, h3, h4, h5⟩
  · exact .inl ⟨h1, h2⟩
  · refine .inr (.inl ⟨h1, by simp [lineOf, hc, h2], ?_⟩)
    rw [h3, List.length_cons]; congr 1; omega
  · refine .inr (.inr ⟨h1, c :: u, v, t2, by rw [h2]; rfl, by simp [lineOf, hc, h3], ?_, hE _ _ h5⟩)
    rw [h4, List.length_cons]; congr 1; omega
theorem out_nil {first colon : Bool} {i at_ : Nat} {t : T} {E : Str → T → Prop} : Out (partP first colon i (lineOf [])) (gs t at_ []) at_ [] E := .inr (.inl ⟨rfl, rfl, rfl⟩)

theorem within_run {t : T} {i at_ : Nat} {s : Str} (ht : t.st = .within) (hi : 0 < i) : Out (partP true false i (lineOf s)) (gs t at_ s) at_ s (fun u t2 => t2 = { t with st := .half, line := t.part ++ u, part := [] }) := by
  induction s generalizing t i at_ with
  | nil => exact out_nil
  | cons c r ih =>
    by_cases hc : c = 13
    · subst hc
      refine .inr (.inr ⟨by simp [lineOf, partP]; omega, [], r, { t with st := .half, line := t.part, part := [] }, rfl, rfl, ?_, by simp⟩)
      simp [gs, step, ht, show vis 13 = false by decide]
    · have e1 : lineOf (c :: r) = c :: lineOf r := by simp [lineOf, hc]
      rw [e1]
      cases hv : vis c with
      | true =>
        have h := ih (t := { t with st := .within, part := t.part ++ [c] }) (i := i + 1) (at_ := at_ + 1) rfl (by omega)
        have e2 : partP true false i (c :: lineOf r) = partP true false (i + 1) (lineOf r) := by simp [partP, hc, hv]
        have e3 : gs t at_ (c :: r) = gs { t with st := .within, part := t.part ++ [c] } (at_ + 1) r := by simp [gs, step, ht, hv]
        rw [e2, e3]
        exact h.cons hc fun u t2 e => by rw [e]; simp
      | false => exact .inl ⟨by simp [partP, hc, hv], by simp [gs, step, ht, hv, hc]⟩
theorem valued_run {t : T} {i at_ : Nat} {s : Str} (ht : t.st = .valued) : Out (partP false true i (lineOf s)) (gs t at_ s) at_ s (fun u t2 => t2 = { t with st := .half, fs := t.fs ++ [(t.name, trim (t.part ++ u))], part := [] }) := by
  induction s generalizing t i at_ with
  | nil => exact out_nil
  | cons c r ih =>
    by_cases hc : c = 13
    · subst hc
      refine .inr (.inr ⟨by simp [lineOf, partP], [], r, { t with st := .half, fs := t.fs ++ [(t.name, trim t.part)], part := [] }, rfl, rfl, ?_, by simp⟩)
      simp [gs, step, ht, show vtab 13 = false by decide]
    · have e1 : lineOf (c :: r) = c :: lineOf r := by simp [lineOf, hc]
      rw [e1]
      cases hv : vtab c with
      | true =>
        have h := ih (t := { t with st := .valued, part := t.part ++ [c] }) (i := i + 1) (at_ := at_ + 1) rfl
        have e2 : partP false true i (c :: lineOf r) = partP false true (i + 1) (lineOf r) := by simp [partP, hc, hv]
        have e3 : gs t at_ (c :: r) = gs { t with st := .valued, part := t.part ++ [c] } (at_ + 1) r := by simp [gs, step, ht, hv]
        rw [e2, e3]
        exact h.cons hc fun u t2 e => by rw [e]; simp
      | false => exact .inl ⟨by simp [partP, hc, hv], by simp [gs, step, ht, hv, hc]⟩
theorem named_run {t : T} {i at_ : Nat} {s : Str} (ht : t.st = .named) (hi : 0 < i) : Out (partP false false i (lineOf s)) (gs t at_ s) at_ s
    (fun u t2 => ∃ k v, u = k ++ 58 :: v ∧ 58 ∉ k ∧ t2 = ⟨.half, t.line, t.fs ++ [(t.part ++ low k, trim v)], t.part ++ low k, []⟩) := by
  induction s generalizing t i at_ with
  | nil => exact out_nil
  | cons c r ih =>
    by_cases hc : c = 13
    · subst hc
      exact .inl ⟨by simp [lineOf, partP, hi], by simp [gs, step, ht, show sgn 13 = false by decide]⟩
    · have e1 : lineOf (c :: r) = c :: lineOf r := by simp [lineOf, hc]
      rw [e1]
      by_cases h8 : c = 58
      · subst h8
        have h := valued_run (t := { t with st := .valued, name := t.part, part := [] }) (i := i + 1) (at_ := at_ + 1) (s := r) rfl
        have e2 : partP false false i (58 :: lineOf r) = partP false true (i + 1) (lineOf r) := by simp [partP, hi]
        have e3 : gs t at_ (58 :: r) = gs { t with st := .valued, name := t.part, part := [] } (at_ + 1) r := by simp [gs, step, ht, show sgn 58 = false by decide]
        rw [e2, e3]
        exact h.cons hc fun u t2 e => ⟨[], u, rfl, by simp, by rw [e]; simp [low]⟩
      · cases hv : sgn c with
        | true =>
          have h := ih (t := { t with st := .named, part := t.part ++ [lw c] }) (i := i + 1) (at_ := at_ + 1) rfl (by omega)
          have e2 : partP false false i (c :: lineOf r) = partP false false (i + 1) (lineOf r) := by simp [partP, hc, hv, h8]
          have e3 : gs t at_ (c :: r) = gs { t with st := .named, part := t.part ++ [lw c] } (at_ + 1) r := by simp [gs, step, ht, hv]
          rw [e2, e3]
          refine h.cons hc ?_
          rintro u t2 ⟨k, v, rfl, h1, e⟩
          exact ⟨c :: k, v, rfl, by simp [Ne.symm h8, h1], by rw [e]; simp [low]⟩
        | false => exact .inl ⟨by simp [partP, hc, hv, h8], by simp [gs, step, ht, hv, h8]⟩
/-- the first line -/
theorem first_run (at_ : Nat) (s : Str) : Out (partP true false 0 (lineOf s)) (gs start at_ s) at_ s (fun u t2 => t2 = ⟨.half, u, [], [], []⟩) := by
  cases s with
  | nil => exact out_nil
  | cons c r =>
    by_cases hc : c = 13
    · subst hc
      exact .inl ⟨by simp [lineOf, partP], by simp [gs, step, start, show vis 13 = false by decide]⟩
    · have e1 : lineOf (c :: r) = c :: lineOf r := by simp [lineOf, hc]
      rw [e1]
      cases hv : vis c with
      | true =>
        have h := within_run (t := ⟨.within, [], [], [], [c]⟩) (i := 1) (at_ := at_ + 1) (s := r) rfl (by omega)
        have e2 : partP true false 0 (c :: lineOf r) = partP true false 1 (lineOf r) := by simp [partP, hc, hv]
        have e3 : gs start at_ (c :: r) = gs ⟨.within, [], [], [], [c]⟩ (at_ + 1) r := by simp [gs, step, start, hv]
        rw [e2, e3]
        exact h.cons hc fun u t2 e => by rw [e]; simp
      | false => exact .inl ⟨by simp [partP, hc, hv], by simp [gs, step, start, hv]⟩
/-- another line -/
theorem begin_run {l : Str} {fs : Flds} {nm : Str} (at_ : Nat) (s : Str) (hl : fs.length < 16) : Out (partP false false 0 (lineOf s)) (gs ⟨.begin, l, fs, nm, []⟩ at_ s) at_ s
    (fun u t2 => (u = [] ∧ t2 = ⟨.last, l, fs, nm, []⟩) ∨ ∃ k v, u = k ++ 58 :: v ∧ 58 ∉ k ∧ t2 = ⟨.half, l, fs ++ [(low k, trim v)], low k, []⟩) := by
  cases s with
  | nil => exact out_nil
  | cons c r =>
    by_cases hc : c = 13
    · subst hc
      refine .inr (.inr ⟨by simp [lineOf, partP], [], r, ⟨.last, l, fs, nm, []⟩, rfl, rfl, ?_, .inl ⟨rfl, rfl⟩⟩)
      simp [gs, step]
    · have e1 : lineOf (c :: r) = c :: lineOf r := by simp [lineOf, hc]
      rw [e1]
      cases hv : sgn c with
      | true =>
        have h := named_run (t := ⟨.named, l, fs, nm, [lw c]⟩) (i := 1) (at_ := at_ + 1) (s := r) rfl (by omega)
        have e2 : partP false false 0 (c :: lineOf r) = partP false false 1 (lineOf r) := by simp [partP, hc, hv]
        have e3 : gs ⟨.begin, l, fs, nm, []⟩ at_ (c :: r) = gs ⟨.named, l, fs, nm, [lw c]⟩ (at_ + 1) r := by
          simp [gs, step, hc, hv, show ¬ fs.length = 16 by omega]
        rw [e2, e3]
        refine h.cons hc ?_
        rintro u t2 ⟨k, v, rfl, h1, e⟩
        refine .inr ⟨c :: k, v, rfl, ?_, by rw [e]; simp [low]⟩
        have := (sgn_facts c hv).2.1
        simp [Ne.symm this, h1]
      | false => exact .inl ⟨by simp [partP, hc, hv], by simp [gs, step, hc, hv]⟩
/-- sixteen fields, another line -/
theorem full_run {l : Str} {fs : Flds} {nm : Str} (at_ : Nat) (c : UInt8) (r : Str) (hl : fs.length = 16) (hc : c ≠ 13) : gs ⟨.begin, l, fs, nm, []⟩ at_ (c :: r) = ([], [], 0, if sgn c then 3 else 6) := by
  cases hv : sgn c <;> simp [gs, step, hc, hv, hl]
theorem full_end {l : Str} {fs : Flds} {nm : Str} (at_ : Nat) (r : Str) : gs ⟨.begin, l, fs, nm, []⟩ at_ (13 :: r) = gs ⟨.last, l, fs, nm, []⟩ (at_ + 1) r := by simp [gs, step]
/-- behind a 13 -/
theorem half_run {t : T} {i : Nat} {c : UInt8} {r : Str} (ht : t.st = .half) : gs t i (c :: r) = if c = 10 then gs { t with st := .begin } (i + 1) r else ([], [], 0, 6) := by
  by_cases h : c = 10 <;> simp [gs, step, ht, h]
theorem last_run {t : T} {i : Nat} {c : UInt8} {r : Str} (ht : t.st = .last) : gs t i (c :: r) = if c = 10 then (t.line, t.fs, i + 1, 0) else ([], [], 0, 6) := by
  by_cases h : c = 10 <;> simp [gs, step, ht, h]

/-! ### where a line ends -/
theorem lineOf_at {s : Str} {i : Nat} (h : ∀ j, j < i → s[j]? ≠ some 13) (hi : s[i]? = some 13) : lineOf s = s.take (i + 1) := by
  induction s generalizing i with
  | nil => simp at hi
  | cons c r ih =>
    cases i with
    | zero => simp at hi; subst hi; simp [lineOf]
    | succ i =>
      have hc : c ≠ 13 := fun e => h 0 (by omega) (by simp [e])
      simp only [lineOf, if_neg hc, List.take_succ_cons]
      rw [ih (i := i) (fun j hj => by have := h (j + 1) (by omega); simpa using this) (by simpa using hi)]
theorem lineOf_all {s : Str} (h : ∀ j, j < s.length → s[j]? ≠ some 13) : lineOf s = s := by
  induction s with
  | nil => rfl
  | cons c r ih =>
    have hc : c ≠ 13 := fun e => h 0 (by simp) (by simp [e])
    simp only [lineOf, if_neg hc]
    rw [ih (fun j hj => by have := h (j + 1) (by simp; omega); simpa using this)]
end Go.Proofs.YtghdaengkgiekaaGreatDoor.hd

/-
  Given for the seat's laws: the document's small functions: bytes. No condition but those of the theorems.
-/
namespace Go.Proofs.YtghdaengkgiekaaGreatDoor.hd
open Go.RowKit mem
set_option linter.unusedVariables false

theorem sgn_ranges {c : UInt8} (h : sgn c = false) : (c.toNat < 48 ∨ (58 ≤ c.toNat ∧ c.toNat < 65) ∨ (91 ≤ c.toNat ∧ c.toNat < 97) ∨ 123 ≤ c.toNat) := by
  have := byte_all (fun c => sgn c || (decide (c.toNat < 48) || (decide (58 ≤ c.toNat) && decide (c.toNat < 65)) || (decide (91 ≤ c.toNat) && decide (c.toNat < 97)) || decide (123 ≤ c.toNat))) (by decide +kernel) c
  simp only [h, Bool.false_or, Bool.or_eq_true, Bool.and_eq_true, decide_eq_true_eq] at this
  omega
theorem sgn_marks {c : UInt8} (h : sgn c = false) : ((c.toNat : Int) == 33) = false ∧ ((c.toNat : Int) == 35) = false ∧ ((c.toNat : Int) == 36) = false ∧ ((c.toNat : Int) == 37) = false ∧ ((c.toNat : Int) == 38) = false ∧ ((c.toNat : Int) == 39) = false ∧ ((c.toNat : Int) == 42) = false ∧ ((c.toNat : Int) == 43) = false ∧ ((c.toNat : Int) == 45) = false ∧ ((c.toNat : Int) == 46) = false ∧ ((c.toNat : Int) == 94) = false ∧ ((c.toNat : Int) == 95) = false ∧ ((c.toNat : Int) == 96) = false ∧ ((c.toNat : Int) == 124) = false ∧ ((c.toNat : Int) == 126) = false := by
  have := byte_all (fun c => sgn c || [33, 35, 36, 37, 38, 39, 42, 43, 45, 46, 94, 95, 96, 124, 126].all fun k : Nat => decide (c.toNat ≠ k)) (by decide +kernel) c
  simp only [h, Bool.false_or, List.all_cons, List.all_nil, Bool.and_eq_true, decide_eq_true_eq] at this
  simp only [beq_eq_false_iff_ne]
  omega
theorem sgn_kinds {c : UInt8} (h : sgn c = true) : (97 ≤ c.toNat ∧ c.toNat ≤ 122) ∨ (65 ≤ c.toNat ∧ c.toNat ≤ 90) ∨ (48 ≤ c.toNat ∧ c.toNat ≤ 57) ∨ c = 33 ∨ c = 35 ∨ c = 36 ∨ c = 37 ∨ c = 38 ∨ c = 39 ∨ c = 42 ∨ c = 43 ∨ c = 45 ∨ c = 46 ∨ c = 94 ∨ c = 95 ∨ c = 96 ∨ c = 124 ∨ c = 126 := by
  have := byte_all (fun c => !sgn c || decide ((97 ≤ c.toNat ∧ c.toNat ≤ 122) ∨ (65 ≤ c.toNat ∧ c.toNat ≤ 90) ∨ (48 ≤ c.toNat ∧ c.toNat ≤ 57) ∨ c = 33 ∨ c = 35 ∨ c = 36 ∨ c = 37 ∨ c = 38 ∨ c = 39 ∨ c = 42 ∨ c = 43 ∨ c = 45 ∨ c = 46 ∨ c = 94 ∨ c = 95 ∨ c = 96 ∨ c = 124 ∨ c = 126)) (by decide +kernel) c
  simpa [h] using this
set_option maxHeartbeats 4000000 in
theorem RSign_any (c : UInt8) (w : World) : Calls Tryz.prog 75 #[.int .u8 (c.toNat : Int)] w fun e w' => e = .returned (.bool (sgn c)) ∧ w' = w := by
  cases hs : sgn c with
  | false =>
    obtain ⟨e1, e2, e3, e4, e5, e6, e7, e8, e9, e10, e11, e12, e13, e14, e15⟩ := sgn_marks hs
    rcases sgn_ranges hs with h | h | h | h
    · have i1 : ¬ (97 : Int) ≤ (c.toNat : Int) := by omega
      have i2 : ¬ (65 : Int) ≤ (c.toNat : Int) := by omega
      have i3 : ¬ (48 : Int) ≤ (c.toNat : Int) := by omega
      clear h hs
      generalize (c.toNat : Int) = z at *
      go_enter Tryz.func75, Tryz.ntmps75
      go_wp2_with fail
      go_ret
      exact ⟨rfl, rfl⟩
    · have i1 : ¬ (97 : Int) ≤ (c.toNat : Int) := by omega
      have i2 : ¬ (65 : Int) ≤ (c.toNat : Int) := by omega
      have i3 : (48 : Int) ≤ (c.toNat : Int) := by omega
      have i4 : ¬ (c.toNat : Int) ≤ 57 := by omega
      clear h hs
      generalize (c.toNat : Int) = z at *
      go_enter Tryz.func75, Tryz.ntmps75
      go_wp2_with fail
      go_ret
      exact ⟨rfl, rfl⟩
    · have i1 : ¬ (97 : Int) ≤ (c.toNat : Int) := by omega
      have i2 : (65 : Int) ≤ (c.toNat : Int) := by omega
      have i5 : ¬ (c.toNat : Int) ≤ 90 := by omega
      have i3 : (48 : Int) ≤ (c.toNat : Int) := by omega
      have i4 : ¬ (c.toNat : Int) ≤ 57 := by omega
      clear h hs
      generalize (c.toNat : Int) = z at *
      go_enter Tryz.func75, Tryz.ntmps75
      go_wp2_with fail
      go_ret
      exact ⟨rfl, rfl⟩
    · have i1 : (97 : Int) ≤ (c.toNat : Int) := by omega
      have i6 : ¬ (c.toNat : Int) ≤ 122 := by omega
      have i2 : (65 : Int) ≤ (c.toNat : Int) := by omega
      have i5 : ¬ (c.toNat : Int) ≤ 90 := by omega
      have i3 : (48 : Int) ≤ (c.toNat : Int) := by omega
      have i4 : ¬ (c.toNat : Int) ≤ 57 := by omega
      clear h hs
      generalize (c.toNat : Int) = z at *
      go_enter Tryz.func75, Tryz.ntmps75
      go_wp2_with fail
      go_ret
      exact ⟨rfl, rfl⟩
  | true =>
    rcases sgn_kinds hs with h | h | h | h
    · have i1 : (97 : Int) ≤ (c.toNat : Int) := by omega
      have i6 : (c.toNat : Int) ≤ 122 := by omega
      clear h hs
      generalize (c.toNat : Int) = z at *
      go_enter Tryz.func75, Tryz.ntmps75
      go_wp2_with fail
      go_ret
      exact ⟨rfl, rfl⟩
    · have i1 : ¬ (97 : Int) ≤ (c.toNat : Int) := by omega
      have i2 : (65 : Int) ≤ (c.toNat : Int) := by omega
      have i5 : (c.toNat : Int) ≤ 90 := by omega
      clear h hs
      generalize (c.toNat : Int) = z at *
      go_enter Tryz.func75, Tryz.ntmps75
      go_wp2_with fail
      go_ret
      exact ⟨rfl, rfl⟩
    · have i1 : ¬ (97 : Int) ≤ (c.toNat : Int) := by omega
      have i2 : ¬ (65 : Int) ≤ (c.toNat : Int) := by omega
      have i3 : (48 : Int) ≤ (c.toNat : Int) := by omega
      have i4 : (c.toNat : Int) ≤ 57 := by omega
      clear h hs
      generalize (c.toNat : Int) = z at *
      go_enter Tryz.func75, Tryz.ntmps75
      go_wp2_with fail
      go_ret
      exact ⟨rfl, rfl⟩
    · clear hs
      rcases h with rfl | rfl | rfl | rfl | rfl | rfl | rfl | rfl | rfl | rfl | rfl | rfl | rfl | rfl | rfl
      all_goals
        go_enter Tryz.func75, Tryz.ntmps75
        go_wp2_with fail
        go_ret
        exact ⟨rfl, rfl⟩
theorem Rblank_any (c : UInt8) (w : World) : Calls Tryz.prog 74 #[.int .u8 (c.toNat : Int)] w fun e w' => e = .returned (.bool (blank c)) ∧ w' = w := by
  by_cases h1 : c = 32
  · subst h1
    go_enter Tryz.func74, Tryz.ntmps74
    go_wp2_with fail
    go_ret
    exact ⟨rfl, rfl⟩
  · by_cases h2 : c = 9
    · subst h2
      go_enter Tryz.func74, Tryz.ntmps74
      go_wp2_with fail
      go_ret
      exact ⟨rfl, rfl⟩
    · have hb : blank c = false := by simp [blank, h1, h2]
      have e1 : ((c.toNat : Int) == 32) = false := (ne_int (y := 32) h1).1
      have e2 : ((c.toNat : Int) == 9) = false := (ne_int (y := 9) h2).1
      rw [hb]
      clear hb h1 h2
      generalize (c.toNat : Int) = z at *
      go_enter Tryz.func74, Tryz.ntmps74
      go_wp2_with fail
      go_ret
      exact ⟨rfl, rfl⟩
theorem str_at {s : ByteArray} {l : Str} (hs : s = S l) (k : Nat) (c : UInt8) (h : l[k]? = some c) (W : World) : (Instr.index 9 (.string s) (.int .i64 (k : Int))).run Tryz.prog W = .ok (.int .u8 (c.toNat : Int)) W := by
  subst hs
  obtain ⟨hlt, e⟩ := List.getElem?_eq_some_iff.1 h
  rw [run_index_string (P := Tryz.prog) W 9 _ .i64 (k : Int) Tryz.underlying9, dif_pos ⟨by omega, by rw [S_size]; omega⟩]
  simp only [Int.toNat_natCast]
  have : (S l)[k]'(by rw [S_size]; exact hlt) = c := by
    have h1 := byte_at (s := S l) (k := k) (by rw [S_size]; exact hlt)
    rw [S_list, h] at h1
    exact (Option.some.inj h1).symm
  rw [this]
theorem str_to (l : Str) (k : Nat) (h : k ≤ l.length) (W : World) : (Instr.slice 9 (.string (S l)) none (some (.int .i64 (k : Int))) none).run Tryz.prog W = .ok (.string (S (l.take k))) W := by
  rw [run_slice_string_to_if W 9 _ .i64 _ Tryz.underlying9, if_pos ⟨by omega, by rw [S_size]; omega⟩]
  congr 2
  apply ByteArray.ext
  apply Array.toList_inj.1
  simp [S]
theorem str_from (l : Str) (k : Nat) (h : k ≤ l.length) (W : World) : (Instr.slice 9 (.string (S l)) (some (.int .i64 (k : Int))) none none).run Tryz.prog W = .ok (.string (S (l.drop k))) W := by
  rw [run_slice_string_from_if W 9 _ .i64 _ Tryz.underlying9, if_pos ⟨by omega, by rw [S_size]; omega⟩]
  congr 2
  apply ByteArray.ext
  apply Array.toList_inj.1
  have h2 : (S l).size - k = l.length - k := by rw [S_size]
  have h3 : (S l).size = l.length := S_size l
  simp [S]
  unfold S at h3
  simp only [h3]
  exact List.take_of_length_le (by simp)
set_option maxHeartbeats 1000000 in
theorem RLower_any (l : Str) (hl : l.length ≤ 10000) (w : World) : Calls Tryz.prog 52 #[.string (S l)] w (Gives (.string (S (low l))) w) := by
  have H0 := Bx.mk (made_nil w)
  obtain ⟨n, hn⟩ : ∃ n, l.length = n := ⟨_, rfl⟩
  have hsz : (S l).size = n := by rw [S_size]; exact hn
  obtain ⟨s, hs⟩ : ∃ s, s = S l := ⟨_, rfl⟩
  rw [← hs] at hsz ⊢
  have HS := Bx.mk hs
  have HN := Bx.mk hn
  clear hs
  rw [hn] at hl
  clear hn
  go_enter Tryz.func52, Tryz.ntmps52
  go_wp2_with fail
  go_loopw [3, 4] (fun s3 s4 wr => ∃ (i : Nat) (A : Option Addr) (c : Nat), i ≤ n ∧ s3 = .slice A i c ∧ s4 = .int .i64 (i : Int) ∧ Bx (Made w wr (.slice A i c) (low (l.take i)))) (fun s3 s4 _ => n - (intOf s4).toNat)
  case atStart => exact ⟨0, none, 0, by omega, rfl, rfl, H0⟩
  case round =>
    clear H0
    obtain ⟨i, A, c, hi, rfl, rfl, HM⟩ := hrel
    by_cases hlt : i < n
    · obtain ⟨x, hx⟩ : ∃ x, l[i]? = some x := ⟨_, List.getElem?_eq_getElem (by rw [HN.out]; exact hlt)⟩
      have hil : (low (l.take i)).length = i := by rw [low_len]; simp; rw [HN.out]; omega
      obtain ⟨A2, c2, w2, happ, hm⟩ := HM.out.push (by omega) (lw x)
      rw [hil] at happ hm
      have e : low (l.take i) ++ [lw x] = low (l.take (i + 1)) := by
        rw [List.take_add_one, hx]
        simp [low]
      rw [e] at hm
      have HAP := Bx.mk happ
      have HM2 := Bx.mk hm
      have hix := str_at HS.out i x hx
      have hw := lw_nat x
      have i1 : (i : Int) < (n : Int) := by omega
      have i0 : (0 : Int) ≤ (i : Int) := by omega
      clear happ hm e HM hil hx HN HS
      by_cases h1 : 65 ≤ x.toNat
      · have j1 : (65 : Int) ≤ (x.toNat : Int) := by omega
        by_cases h2 : x.toNat ≤ 90
        · have j2 : (x.toNat : Int) ≤ 90 := by omega
          rw [if_pos ⟨h1, h2⟩] at hw
          have hz : (x.toNat : Int) - 65 + 97 = ((lw x).toNat : Int) := by omega
          generalize ((lw x).toNat : Int) = y at *
          generalize (x.toNat : Int) = z at *
          clear hw h1 h2
          go_wp2_with (at_builtin; refine wpList_append_eq rfl _ _ rfl rfl rfl rfl HAP.out ?_)
          go_roundw
          case rel => exact ⟨i + 1, A2, c2, by omega, rfl, by go_num, HM2⟩
          case measure => simp [intOf]; omega
        · have j2 : ¬ (x.toNat : Int) ≤ 90 := by omega
          rw [if_neg (fun h => h2 h.2)] at hw
          rw [hw] at HAP
          generalize (x.toNat : Int) = z at *
          clear hw h1 h2
          go_wp2_with (at_builtin; refine wpList_append_eq rfl _ _ rfl rfl rfl rfl HAP.out ?_)
          go_roundw
          case rel => exact ⟨i + 1, A2, c2, by omega, rfl, by go_num, HM2⟩
          case measure => simp [intOf]; omega
      · have j1 : ¬ (65 : Int) ≤ (x.toNat : Int) := by omega
        rw [if_neg (fun h => h1 h.1)] at hw
        rw [hw] at HAP
        generalize (x.toNat : Int) = z at *
        clear hw h1
        go_wp2_with (at_builtin; refine wpList_append_eq rfl _ _ rfl rfl rfl rfl HAP.out ?_)
        go_roundw
        case rel => exact ⟨i + 1, A2, c2, by omega, rfl, by go_num, HM2⟩
        case measure => simp [intOf]; omega
    · obtain rfl : i = n := by omega
      have e : l.take i = l := List.take_of_length_le (by rw [HN.out]; exact Nat.le_refl _)
      rw [e] at HM
      have hst := spell_str (made_spell HM.out (by rw [low_len]; exact HN.out))
      have HE := Bx.mk HM.out.below
      clear e HM
      go_wp2_with fail
      exact bodyPost_ret (v := .string (S (low l))) (by simp [results, Tryz.results52, go_sem]) rfl ⟨rfl, HE.out⟩
end Go.Proofs.YtghdaengkgiekaaGreatDoor.hd

/-
  Given for the seat's laws: the program's Name and the document's. No condition but those of the theorems.
-/
namespace Go.Proofs.YtghdaengkgiekaaGreatDoor.hd
open Go.RowKit mem
set_option linter.unusedVariables false

/-- a field name -/
def isN (s : Str) : Bool := !s.isEmpty && s.all sgn
theorem isN_bad {s : Str} {i : Nat} {x : UInt8} (hx : s[i]? = some x) (h : sgn x = false) : isN s = false := by
  have : s.all sgn = false := by
    rw [List.all_eq_false]
    exact ⟨x, List.mem_of_getElem? hx, by simp [h]⟩
  simp [isN, this]
theorem isN_all {s : Str} (h : ∀ (j : Nat) (x : UInt8), s[j]? = some x → sgn x = true) : isN s = !s.isEmpty := by
  have : s.all sgn = true := by
    rw [List.all_eq_true]
    intro x hx
    obtain ⟨j, hj, e⟩ := List.getElem_of_mem hx
    exact h j x (by rw [List.getElem?_eq_getElem hj, e])
  simp [isN, this]
set_option maxHeartbeats 1000000 in
theorem RName_any (l : Str) (hl : l.length ≤ 10000) (w : World) : Calls Tryz.prog 50 #[.string (S l)] w fun e w' => e = .returned (.bool (isN l)) ∧ w' = w := by
  obtain ⟨R, hR⟩ : ∃ R, isN l = R := ⟨_, rfl⟩
  rw [hR]
  obtain ⟨s, hs⟩ : ∃ s, s = S l := ⟨_, rfl⟩
  obtain ⟨n, hn⟩ : ∃ n, l.length = n := ⟨_, rfl⟩
  have hsz : s.size = n := by rw [hs, S_size, hn]
  rw [← hs]
  have HS := Bx.mk hs
  have HN := Bx.mk hn
  have HR := Bx.mk hR
  rw [hn] at hl
  clear hs hn hR
  go_enter Tryz.func50, Tryz.ntmps50
  go_wp2_with fail
  go_loopw [3] (fun s3 wr => ∃ i : Nat, i ≤ n ∧ s3 = .int .i64 (i : Int) ∧ wr = w ∧ Bx (∀ j x, j < i → l[j]? = some x → sgn x = true)) (fun s3 _ => n - (intOf s3).toNat)
  case atStart => exact ⟨0, by omega, rfl, rfl, ⟨fun j x hj => by omega⟩⟩
  case round =>
    obtain ⟨i, hi, rfl, hw, H⟩ := hrel
    replace hw := hw.symm
    subst hw
    by_cases hlt : i < n
    · obtain ⟨x, hx⟩ : ∃ x, l[i]? = some x := ⟨_, List.getElem?_eq_getElem (by rw [HN.out]; exact hlt)⟩
      have hix := str_at HS.out i x hx
      have i0 : (0 : Int) ≤ (i : Int) := by omega
      have i1 : (i : Int) < (n : Int) := by omega
      have hSg := RSign_any x w
      cases hsx : sgn x with
      | true =>
        rw [hsx] at hSg
        have HSg := Bx.mk hSg
        have H2 : Bx (∀ j y, j < i + 1 → l[j]? = some y → sgn y = true) := ⟨fun j y hj hy => by
          rcases (show j < i ∨ j = i by omega) with h | h
          · exact H.out j y h hy
          · rw [h, hx] at hy; rw [← Option.some.inj hy]; exact hsx⟩
        generalize (x.toNat : Int) = z at *
        clear hx hSg hsx H
        go_wp2_with fail
        refine HSg.out.mono ?_
        rintro e2 w2 ⟨rfl, hw2⟩
        replace hw2 := hw2.symm
        subst hw2
        go_wp2_with fail
        go_roundw
        case rel => exact ⟨i + 1, by omega, by go_num, trivial, H2⟩
        case measure => simp [intOf]; omega
      | false =>
        rw [hsx] at hSg
        have HSg := Bx.mk hSg
        obtain rfl : R = false := by rw [← HR.out]; exact isN_bad hx hsx
        generalize (x.toNat : Int) = z at *
        clear hx hSg hsx H HR
        go_wp2_with fail
        refine HSg.out.mono ?_
        rintro e2 w2 ⟨rfl, hw2⟩
        replace hw2 := hw2.symm
        subst hw2
        go_wp2_with fail
        exact bodyPost_ret (v := .bool false) (by simp [results, Tryz.results50, go_sem]) rfl ⟨rfl, rfl⟩
    · obtain rfl : i = n := by omega
      have hRe : R = !l.isEmpty := by
        rw [← HR.out]
        exact isN_all fun j x hx => H.out j x (by have := (List.getElem?_eq_some_iff.1 hx).1; rw [HN.out] at this; exact this) hx
      by_cases h0 : i = 0
      · obtain rfl : R = false := by
          rw [hRe]
          have : l = [] := List.eq_nil_of_length_eq_zero (by rw [HN.out]; exact h0)
          simp [this]
        have j0 : ¬ (0 : Int) < (i : Int) := by omega
        clear H HR hRe h0
        go_wp2_with fail
        exact bodyPost_ret (v := .bool false) (by simp [results, Tryz.results50, go_sem]; omega) rfl ⟨rfl, rfl⟩
      · obtain rfl : R = true := by
          rw [hRe]
          have : l ≠ [] := fun e => h0 (by rw [← HN.out, e]; rfl)
          simp [this]
        have j0 : (0 : Int) < (i : Int) := by omega
        clear H HR hRe h0
        go_wp2_with fail
        exact bodyPost_ret (v := .bool true) (by simp [results, Tryz.results50, go_sem]; omega) rfl ⟨rfl, rfl⟩
set_option maxHeartbeats 1000000 in
theorem Name_any (l : Str) (hl : l.length ≤ 10000) (w : World) : Calls Tryz.prog 23 #[.string (S l)] w fun e w' => e = .returned (.bool (isN l)) ∧ w' = w := by
  obtain ⟨R, hR⟩ : ∃ R, isN l = R := ⟨_, rfl⟩
  rw [hR]
  obtain ⟨s, hs⟩ : ∃ s, s = S l := ⟨_, rfl⟩
  obtain ⟨n, hn⟩ : ∃ n, l.length = n := ⟨_, rfl⟩
  have hsz : s.size = n := by rw [hs, S_size, hn]
  rw [← hs]
  have HS := Bx.mk hs
  have HN := Bx.mk hn
  have HR := Bx.mk hR
  rw [hn] at hl
  clear hs hn hR
  go_enter Tryz.func23, Tryz.ntmps23
  go_wp2_with fail
  go_loopw [6] (fun s6 wr => ∃ i : Nat, i ≤ n ∧ s6 = .int .i64 (i : Int) ∧ wr = w ∧ Bx (∀ j x, j < i → l[j]? = some x → sgn x = true)) (fun s6 _ => n - (intOf s6).toNat)
  case atStart => exact ⟨0, by omega, rfl, rfl, ⟨fun j x hj => by omega⟩⟩
  case round =>
    obtain ⟨i, hi, rfl, hw, H⟩ := hrel
    replace hw := hw.symm
    subst hw
    by_cases hlt : i < n
    · obtain ⟨x, hx⟩ : ∃ x, l[i]? = some x := ⟨_, List.getElem?_eq_getElem (by rw [HN.out]; exact hlt)⟩
      have hix := str_at HS.out i x hx
      have i0 : (0 : Int) ≤ (i : Int) := by omega
      have i1 : (i : Int) < (n : Int) := by omega
      have hSg := mayName_any x w
      cases hsx : sgn x with
      | true =>
        rw [hsx] at hSg
        have HSg := Bx.mk hSg
        have H2 : Bx (∀ j y, j < i + 1 → l[j]? = some y → sgn y = true) := ⟨fun j y hj hy => by
          rcases (show j < i ∨ j = i by omega) with h | h
          · exact H.out j y h hy
          · rw [h, hx] at hy; rw [← Option.some.inj hy]; exact hsx⟩
        generalize (x.toNat : Int) = z at *
        clear hx hSg hsx H
        go_wp2_with fail
        refine HSg.out.mono ?_
        rintro e2 w2 ⟨rfl, hw2⟩
        replace hw2 := hw2.symm
        subst hw2
        go_wp2_with fail
        go_roundw
        case rel => exact ⟨i + 1, by omega, by go_num, trivial, H2⟩
        case measure => simp [intOf]; omega
      | false =>
        rw [hsx] at hSg
        have HSg := Bx.mk hSg
        obtain rfl : R = false := by rw [← HR.out]; exact isN_bad hx hsx
        generalize (x.toNat : Int) = z at *
        clear hx hSg hsx H HR
        go_wp2_with fail
        refine HSg.out.mono ?_
        rintro e2 w2 ⟨rfl, hw2⟩
        replace hw2 := hw2.symm
        subst hw2
        go_wp2_with fail
        exact bodyPost_ret (v := .bool false) (by simp [results, Tryz.results23, go_sem]) rfl ⟨rfl, rfl⟩
    · obtain rfl : i = n := by omega
      have hRe : R = !l.isEmpty := by
        rw [← HR.out]
        exact isN_all fun j x hx => H.out j x (by have := (List.getElem?_eq_some_iff.1 hx).1; rw [HN.out] at this; exact this) hx
      have hem : s.toList.isEmpty = l.isEmpty := by
        rw [HS.out, empty_iff, S_list]
        cases l <;> simp
      clear H HR hlt
      cases hle : l.isEmpty with
      | true =>
        rw [hle] at hRe hem
        subst hRe
        go_wp2_with fail
        exact bodyPost_ret (v := .bool false) (by simp [results, Tryz.results23, go_sem]) rfl ⟨rfl, rfl⟩
      | false =>
        rw [hle] at hRe hem
        subst hRe
        go_wp2_with fail
        exact bodyPost_ret (v := .bool true) (by simp [results, Tryz.results23, go_sem]) rfl ⟨rfl, rfl⟩
end Go.Proofs.YtghdaengkgiekaaGreatDoor.hd
