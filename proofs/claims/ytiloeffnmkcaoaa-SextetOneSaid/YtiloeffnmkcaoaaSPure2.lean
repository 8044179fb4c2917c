/-
  Given for the seat's laws: base64 as plain lists of bytes: the padding taken off, groups of four, and what is decoded. No program, no memory.
-/
import Derived.Test.YtiloeffnmkcaoaaSPure
namespace Go.Proofs.Ytiloeffnmkcaoaa.sx
set_option linter.unusedVariables false
set_option linter.unusedSimpArgs false

/-! ### without the padding -/
def trim (l : Str) : Str := Lib.trimSuffix l [61]
def strip (l : Str) : Str := trim (trim l)
theorem trim_snoc (x : Str) : trim (x ++ [61]) = x := by
  unfold trim Lib.trimSuffix Lib.hasSuffix
  have h : ([61] : Str).isSuffixOf (x ++ [61]) = true := List.isSuffixOf_iff_suffix.2 ⟨x, rfl⟩
  rw [if_pos h]
  simp
theorem trim_else {x : Str} (h : ∀ y, x ≠ y ++ [61]) : trim x = x := by
  unfold trim Lib.trimSuffix Lib.hasSuffix
  rw [if_neg]
  intro h1
  obtain ⟨y, hy⟩ := List.isSuffixOf_iff_suffix.1 h1
  exact h y hy.symm
theorem trim_cases (x : Str) : trim x = x ∨ x = trim x ++ [61] := by
  by_cases h : ∃ y, x = y ++ [61]
  · obtain ⟨y, rfl⟩ := h
    exact .inr (by rw [trim_snoc])
  · exact .inl (trim_else fun y e => h ⟨y, e⟩)
theorem trim_free {x : Str} (h : (61 : UInt8) ∉ x) : trim x = x := trim_else fun y e => h (by rw [e]; simp)
theorem strip_cases (x : Str) : x = strip x ∨ x = strip x ++ [61] ∨ x = strip x ++ [61, 61] := by
  unfold strip
  rcases trim_cases x with h | h
  · rw [h]
    rcases trim_cases x with h1 | h1
    · exact .inl (by rw [h1])
    · exact .inr (.inl h1)
  · rcases trim_cases (trim x) with h1 | h1
    · exact .inr (.inl (by rw [h1]; exact h))
    · refine .inr (.inr ?_)
      rw [h1] at h
      simpa using h
theorem strip_len (x : Str) : (strip x).length ≤ x.length := by
  rcases strip_cases x with h | h | h <;> (have := congrArg List.length h; (try simp at this); omega)
theorem strip_bare {x : Str} (h : (61 : UInt8) ∉ x) : ∀ k, k ≤ 2 → strip (x ++ List.replicate k 61) = x
  | 0, _ => by simp [strip, trim_free h]
  | 1, _ => by
    show trim (trim (x ++ [61])) = x
    rw [trim_snoc, trim_free h]
  | 2, _ => by
    show trim (trim (x ++ [61, 61])) = x
    rw [show x ++ [(61 : UInt8), 61] = (x ++ [61]) ++ [61] by simp, trim_snoc, trim_snoc]
  | k + 3, hk => by omega
theorem strip_enc (b : Str) : strip (enc b) = bare b := by rw [enc_bare]; exact strip_bare (bare_no_pad b) _ (by omega)

theorem dgo_enc (b : Str) : dgo 0 0 (strip (enc b)) = some (0, b) := by rw [strip_enc, dgo_bare]
theorem dgo_yes {s l : Str} (h4 : s.length % 4 = 0) (h : dgo 0 0 (strip s) = some (0, l)) : enc l = s := by
  have hc := strip_cases s
  generalize hcs : strip s = cs at *
  have h1 : cs.length % 4 ≠ 1 := by
    rcases hc with e | e | e <;> (have := congrArg List.length e; (try simp at this); omega)
  obtain ⟨e1, e2, e3⟩ := dgo_back cs l h1 h
  rw [enc_bare, e1]
  rcases hc with e | e | e
  · have hl := congrArg List.length e
    have : l.length % 3 = 0 := e3 (by omega)
    rw [this]
    simpa using e.symm
  · have hl := congrArg List.length e
    simp at hl
    have : l.length % 3 = 2 := by rw [e2, show cs.length % 4 = 3 by omega]
    rw [this]
    exact e.symm
  · have hl := congrArg List.length e
    simp at hl
    have : l.length % 3 = 1 := by rw [e2, show cs.length % 4 = 2 by omega]
    rw [this]
    exact e.symm

/-- what a text is of: the bytes, or nothing -/
def Is (s : Str) (o : Option Str) : Prop := match o with
  | some b => enc b = s
  | none => ∀ b, enc b ≠ s
theorem Is.uniq {s : Str} {o p : Option Str} (ho : Is s o) (hp : Is s p) : o = p := by
  cases o with
  | none =>
    cases p with
    | none => rfl
    | some b => exact absurd hp (ho b)
  | some a =>
    cases p with
    | none => exact absurd ho (hp a)
    | some b =>
      have h1 : enc a = s := ho
      have h2 : enc b = s := hp
      rw [enc_inj (h1.trans h2.symm)]
theorem is_enc (b : Str) : Is (enc b) (some b) := rfl
theorem is_odd {s : Str} (h : s.length % 4 ≠ 0) : Is s none := fun b e => by
  rw [← e, enc_len] at h
  unfold size at h
  omega
theorem is_none {s : Str} (h : dgo 0 0 (strip s) = none) : Is s none := fun b e => by rw [← e, dgo_enc] at h; cases h
theorem is_left {s : Str} {r : Nat} {l : Str} (h : dgo 0 0 (strip s) = some (r, l)) (hr : r ≠ 0) : Is s none := fun b e => by
  rw [← e, dgo_enc] at h
  simp only [Option.some.injEq, Prod.mk.injEq] at h
  exact hr h.1.symm

/-! ### the document's way: groups of four -/
def gs (x : Nat × Nat) (c : UInt8) : Nat × Nat := if vl c < 0 then (64 * x.1, x.2) else (64 * x.1 + (vl c).toNat, x.2 + 1)
def grp (l : Str) : Nat × Nat := l.foldl gs (0, 0)
theorem grp_snoc (l : Str) (c : UInt8) : grp (l ++ [c]) = gs (grp l) c := by simp [grp]
theorem gs_lt {x : Nat × Nat} {j : Nat} (h1 : x.1 < 64 ^ j) (h2 : x.2 ≤ j) (c : UInt8) : (gs x c).1 < 64 ^ (j + 1) ∧ (gs x c).2 ≤ j + 1 := by
  unfold gs
  have e : 64 ^ (j + 1) = 64 * 64 ^ j := by rw [Nat.pow_succ, Nat.mul_comm]
  rw [e]
  rcases vl_range c with h | ⟨h, h', _⟩
  · rw [if_pos (by omega)]; exact ⟨by show 64 * x.1 < _; omega, by show x.2 ≤ _; omega⟩
  · rw [if_neg (by omega)]; exact ⟨by show 64 * x.1 + (vl c).toNat < _; omega, by show x.2 + 1 ≤ _; omega⟩
theorem foldl_lt : ∀ (l : Str) (x : Nat × Nat) (j : Nat), x.1 < 64 ^ j → x.2 ≤ j → (l.foldl gs x).1 < 64 ^ (j + l.length) ∧ (l.foldl gs x).2 ≤ j + l.length
  | [], x, j, h1, h2 => ⟨h1, h2⟩
  | c :: l, x, j, h1, h2 => by
    obtain ⟨a, b⟩ := gs_lt h1 h2 c
    have := foldl_lt l (gs x c) (j + 1) a b
    rw [show j + (c :: l).length = j + 1 + l.length by simp only [List.length_cons]; omega]
    exact this
theorem grp_lt (l : Str) : (grp l).1 < 64 ^ l.length ∧ (grp l).2 ≤ l.length := by
  have := foldl_lt l (0, 0) 0 (by simp) (Nat.le_refl _)
  rwa [Nat.zero_add] at this

def three (n : Nat) : Str := [UInt8.ofNat (n / 65536), UInt8.ofNat (n / 256 % 256), UInt8.ofNat (n % 256)]
def raw : Str → Option Str
  | p :: q :: u :: v :: cs => if (grp [p, q, u, v]).2 < 2 then none else (raw cs).map fun x => (three (grp [p, q, u, v]).1).take ((grp [p, q, u, v]).2 - 1) ++ x
  | _ => some []
def before (acc : Str) (o : Option Str) : Option Str := o.map fun x => acc ++ x
theorem before_nil (o : Option Str) : before [] o = o := by cases o <;> rfl
theorem before_more (acc y : Str) (o : Option Str) : before acc (o.map fun x => y ++ x) = before (acc ++ y) o := by cases o <;> simp [before]

theorem take_four {s : Str} {i : Nat} (h : i + 4 ≤ s.length) : ∃ p q u v, (s.drop i).take 4 = [p, q, u, v] ∧ s.drop i = p :: q :: u :: v :: s.drop (i + 4) := by
  have h1 : ∀ k (hk : k < 4), s.drop (i + k) = s[i + k]'(by omega) :: s.drop (i + k + 1) := fun k hk => List.drop_eq_getElem_cons (by omega)
  have e0 : s.drop i = s[i]'(by omega) :: s.drop (i + 1) := List.drop_eq_getElem_cons (by omega); have e1 := h1 1 (by omega); have e2 := h1 2 (by omega); have e3 := h1 3 (by omega)
  have e : s.drop i = s[i]'(by omega) :: s[i + 1]'(by omega) :: s[i + 2]'(by omega) :: s[i + 3]'(by omega) :: s.drop (i + 4) := by
    rw [e0, e1, e2, e3]
  exact ⟨_, _, _, _, by rw [e]; rfl, e⟩
theorem raw_bad {s : Str} {i : Nat} (h : i + 4 ≤ s.length) (hm : (grp ((s.drop i).take 4)).2 < 2) : raw (s.drop i) = none := by
  obtain ⟨p, q, u, v, e, e'⟩ := take_four h
  rw [e] at hm
  rw [e', raw, if_pos hm]
theorem raw_more {s : Str} {i : Nat} (h : i + 4 ≤ s.length) (hm : ¬ (grp ((s.drop i).take 4)).2 < 2) : raw (s.drop i) = (raw (s.drop (i + 4))).map fun x => (three (grp ((s.drop i).take 4)).1).take ((grp ((s.drop i).take 4)).2 - 1) ++ x := by
  obtain ⟨p, q, u, v, e, e'⟩ := take_four h
  rw [e] at hm ⊢
  rw [e', raw, if_neg hm]
theorem gs_lt64 {n m p : Nat} (h : p < 64) : gs (n, m) (lt p) = (64 * n + p, m + 1) := by
  unfold gs
  rw [vl_lt h, if_neg (by omega)]
  rfl
theorem gs_pad (n m : Nat) : gs (n, m) 61 = (64 * n, m) := by
  unfold gs
  rw [vl_pad, if_pos (by omega)]
theorem raw_enc : ∀ b : Str, raw (enc b) = some b
  | [] => rfl
  | [a] => by
    have ha := a.toNat_lt
    have e : grp [lt (a.toNat / 4), lt (a.toNat % 4 * 16), 61, 61] = (64 * (64 * (64 * (a.toNat / 4) + a.toNat % 4 * 16)), 2) := by
      simp only [grp, List.foldl, gs_pad]
      rw [gs_lt64 (by omega), gs_lt64 (by omega), gs_pad, gs_pad]
      simp
    rw [enc, raw, e, if_neg (by omega), show 64 * (64 * (64 * (a.toNat / 4) + a.toNat % 4 * 16)) = a.toNat * 65536 by omega]
    simp [raw, three]
  | [a, b] => by
    have ha := a.toNat_lt; have hb := b.toNat_lt
    have e : grp [lt (a.toNat / 4), lt (a.toNat % 4 * 16 + b.toNat / 16), lt (b.toNat % 16 * 4), 61] = (64 * (64 * (64 * (a.toNat / 4) + (a.toNat % 4 * 16 + b.toNat / 16)) + b.toNat % 16 * 4), 3) := by
      simp only [grp, List.foldl]
      rw [gs_lt64 (by omega), gs_lt64 (by omega), gs_lt64 (by omega), gs_pad]
      simp
    rw [enc, raw, e, if_neg (by omega), show 64 * (64 * (64 * (a.toNat / 4) + (a.toNat % 4 * 16 + b.toNat / 16)) + b.toNat % 16 * 4) = a.toNat * 65536 + b.toNat * 256 by omega]
    have e1 : (a.toNat * 65536 + b.toNat * 256) / 65536 = a.toNat := by omega
    have e2 : (a.toNat * 65536 + b.toNat * 256) / 256 % 256 = b.toNat := by omega
    simp [raw, three, e1, e2]
  | a :: b :: c :: r => by
    have ha := a.toNat_lt; have hb := b.toNat_lt; have hc := c.toNat_lt
    have e : grp [lt (a.toNat / 4), lt (a.toNat % 4 * 16 + b.toNat / 16), lt (b.toNat % 16 * 4 + c.toNat / 64), lt (c.toNat % 64)] = (64 * (64 * (64 * (a.toNat / 4) + (a.toNat % 4 * 16 + b.toNat / 16)) + (b.toNat % 16 * 4 + c.toNat / 64)) + c.toNat % 64, 4) := by
      simp only [grp, List.foldl]
      rw [gs_lt64 (by omega), gs_lt64 (by omega), gs_lt64 (by omega), gs_lt64 (by omega)]
      simp
    rw [enc, raw, e, if_neg (by omega), raw_enc r, show 64 * (64 * (64 * (a.toNat / 4) + (a.toNat % 4 * 16 + b.toNat / 16)) + (b.toNat % 16 * 4 + c.toNat / 64)) + c.toNat % 64 = a.toNat * 65536 + b.toNat * 256 + c.toNat by omega]
    have e1 : (a.toNat * 65536 + b.toNat * 256 + c.toNat) / 65536 = a.toNat := by omega
    have e2 : (a.toNat * 65536 + b.toNat * 256 + c.toNat) / 256 % 256 = b.toNat := by omega
    have e3 : (a.toNat * 65536 + b.toNat * 256 + c.toNat) % 256 = c.toNat := by omega
    simp [three, e1, e2, e3]
theorem is_raw {s l : Str} (h : raw s = some l) (he : enc l ≠ s) : Is s none := fun b e => by
  rw [← e, raw_enc] at h
  simp only [Option.some.injEq] at h
  exact he (by rw [← h]; exact e)
theorem is_raw_none {s : Str} (h : raw s = none) : Is s none := fun b e => by rw [← e, raw_enc] at h; cases h

/-! ### the document's encoding, three by three -/
def at3 (a b c : Nat) : Nat := 65536 * a + 256 * b + c
theorem enc_drop3 {b : Str} {i : Nat} (h : i + 3 ≤ b.length) : ∃ x y z, b[i]? = some x ∧ b[i + 1]? = some y ∧ b[i + 2]? = some z ∧
    enc (b.drop i) = [lt (at3 x.toNat y.toNat z.toNat / 262144), lt (at3 x.toNat y.toNat z.toNat / 4096 % 64), lt (at3 x.toNat y.toNat z.toNat / 64 % 64), lt (at3 x.toNat y.toNat z.toNat % 64)] ++ enc (b.drop (i + 3)) := by
  have h1 : ∀ k (hk : k < 3), b.drop (i + k) = b[i + k]'(by omega) :: b.drop (i + k + 1) := fun k hk => List.drop_eq_getElem_cons (by omega)
  have e0 : b.drop i = b[i]'(by omega) :: b.drop (i + 1) := List.drop_eq_getElem_cons (by omega); have e1 := h1 1 (by omega); have e2 := h1 2 (by omega)
  refine ⟨b[i]'(by omega), b[i + 1]'(by omega), b[i + 2]'(by omega), List.getElem?_eq_getElem _, List.getElem?_eq_getElem _, List.getElem?_eq_getElem _, ?_⟩
  rw [e0, e1, e2]
  have hx := (b[i]'(by omega)).toNat_lt; have hy := (b[i + 1]'(by omega)).toNat_lt; have hz := (b[i + 2]'(by omega)).toNat_lt
  generalize (b[i]'(by omega)) = x at *
  generalize (b[i + 1]'(by omega)) = y at *
  generalize (b[i + 2]'(by omega)) = z at *
  unfold at3
  rw [enc, show (65536 * x.toNat + 256 * y.toNat + z.toNat) / 262144 = x.toNat / 4 by omega, show (65536 * x.toNat + 256 * y.toNat + z.toNat) / 4096 % 64 = x.toNat % 4 * 16 + y.toNat / 16 by omega,
    show (65536 * x.toNat + 256 * y.toNat + z.toNat) / 64 % 64 = y.toNat % 16 * 4 + z.toNat / 64 by omega, show (65536 * x.toNat + 256 * y.toNat + z.toNat) % 64 = z.toNat % 64 by omega]
  rfl
theorem enc_drop2 {b : Str} {i : Nat} (h : i + 2 = b.length) : ∃ x y, b[i]? = some x ∧ b[i + 1]? = some y ∧
    enc (b.drop i) = [lt (at3 x.toNat y.toNat 0 / 262144), lt (at3 x.toNat y.toNat 0 / 4096 % 64), lt (at3 x.toNat y.toNat 0 / 64 % 64), 61] := by
  have h1 : ∀ k (hk : k < 2), b.drop (i + k) = b[i + k]'(by omega) :: b.drop (i + k + 1) := fun k hk => List.drop_eq_getElem_cons (by omega)
  have e0 : b.drop i = b[i]'(by omega) :: b.drop (i + 1) := List.drop_eq_getElem_cons (by omega); have e1 := h1 1 (by omega)
  refine ⟨b[i]'(by omega), b[i + 1]'(by omega), List.getElem?_eq_getElem _, List.getElem?_eq_getElem _, ?_⟩
  rw [e0, e1, List.drop_eq_nil_of_le (by omega)]
  have hx := (b[i]'(by omega)).toNat_lt; have hy := (b[i + 1]'(by omega)).toNat_lt
  generalize (b[i]'(by omega)) = x at *
  generalize (b[i + 1]'(by omega)) = y at *
  unfold at3
  rw [enc, show (65536 * x.toNat + 256 * y.toNat + 0) / 262144 = x.toNat / 4 by omega, show (65536 * x.toNat + 256 * y.toNat + 0) / 4096 % 64 = x.toNat % 4 * 16 + y.toNat / 16 by omega,
    show (65536 * x.toNat + 256 * y.toNat + 0) / 64 % 64 = y.toNat % 16 * 4 by omega]
theorem enc_drop1 {b : Str} {i : Nat} (h : i + 1 = b.length) : ∃ x, b[i]? = some x ∧
    enc (b.drop i) = [lt (at3 x.toNat 0 0 / 262144), lt (at3 x.toNat 0 0 / 4096 % 64), 61, 61] := by
  have e0 : b.drop i = b[i]'(by omega) :: b.drop (i + 1) := List.drop_eq_getElem_cons (by omega)
  refine ⟨b[i]'(by omega), List.getElem?_eq_getElem _, ?_⟩
  rw [e0, List.drop_eq_nil_of_le (by omega)]
  have hx := (b[i]'(by omega)).toNat_lt
  generalize (b[i]'(by omega)) = x at *
  unfold at3
  rw [enc, show (65536 * x.toNat + 256 * 0 + 0) / 262144 = x.toNat / 4 by omega, show (65536 * x.toNat + 256 * 0 + 0) / 4096 % 64 = x.toNat % 4 * 16 by omega]
end Go.Proofs.Ytiloeffnmkcaoaa.sx
