/-
  Given for the seat's laws: words of introduction as lists of bytes. Plain: nothing of the program. No condition.
-/
import Derived.Lib.Hide
namespace Go.Proofs.Ytnkfmbdaicpahaa.gr
set_option linter.unusedVariables false

abbrev Str := List UInt8

/-- what is read of one text: none yet, never one, or it and what stands behind it -/
inductive Nx
  | more | form
  | got (t r : Str)
def nx : Str → Nx
  | [] => .more
  | k :: ms => if k = 0 then .form else if ms.length < k.toNat then .more else .got (ms.take k.toNat) (ms.drop k.toNat)

/-- what Take gives: the user, the password, the length, the number of the error -/
def tk : Str → Str × Str × Nat × Nat
  | [] => ([], [], 0, 5)
  | v :: r => if v = 1 then tk1 (nx r) else ([], [], 0, 6)
where
  tk1 : Nx → Str × Str × Nat × Nat
  | .more => ([], [], 0, 5)
  | .form => ([], [], 0, 6)
  | .got u r => tk2 u (nx r)
  tk2 (u : Str) : Nx → Str × Str × Nat × Nat
  | .more => ([], [], 0, 5)
  | .form => ([], [], 0, 6)
  | .got p _ => (u, p, 3 + u.length + p.length, 0)

/-- what TakeAnswer gives -/
def ch : Str → Bool × Nat × Nat
  | [] => (false, 0, 5)
  | v :: r => if v = 1 then ch1 r else (false, 0, 6)
where
  ch1 : Str → Bool × Nat × Nat
  | [] => (false, 0, 5)
  | m :: _ => (m == 0, 2, 0)

theorem toNat_pos {k : UInt8} (h : k ≠ 0) : 0 < k.toNat ∧ k.toNat < 256 := by
  have := k.toNat_lt
  rcases Nat.eq_zero_or_pos k.toNat with h0 | h0
  · exact absurd (UInt8.toNat_inj.1 (by simpa using h0)) h
  · omega
theorem byte_ne {v : UInt8} (h : v ≠ 1) : (v.toNat : Int) ≠ 1 := by
  intro e
  exact h (UInt8.toNat_inj.1 (by have : v.toNat = 1 := by omega
                                 simpa using this))
theorem byte_ne0 {v : UInt8} (h : v ≠ 0) : (v.toNat : Int) ≠ 0 := by
  have := (toNat_pos h).1; omega

/-- what begins with a text, or not -/
inductive Way (b : Str) : Prop
  | none (h : b = []) (e : nx b = .more)
  | zero (r : Str) (h : b = 0 :: r) (e : nx b = .form)
  | short (k : UInt8) (ms : Str) (h : b = k :: ms) (hk : k ≠ 0) (hl : ms.length < k.toNat) (e : nx b = .more)
  | whole (k : UInt8) (ms : Str) (h : b = k :: ms) (hk : k ≠ 0) (hl : k.toNat ≤ ms.length) (e : nx b = .got (ms.take k.toNat) (ms.drop k.toNat))
theorem way (b : Str) : Way b := by
  match b with
  | [] => exact .none rfl rfl
  | k :: ms =>
    by_cases hk : k = 0
    · subst hk; exact .zero ms rfl (by simp [nx])
    · by_cases hl : ms.length < k.toNat
      · exact .short k ms rfl hk hl (by simp [nx, hk, hl])
      · exact .whole k ms rfl hk (by omega) (by simp [nx, hk, hl])

/-! ### what is printed -/
def ok1 (l : Str) : Prop := 1 ≤ l.length ∧ l.length ≤ 255
def ln (l : Str) : UInt8 := UInt8.ofNat l.length
theorem ln_nat {l : Str} (h : ok1 l) : (ln l).toNat = l.length := by unfold ln; have := h.2; simp; omega
theorem ln_ne {l : Str} (h : ok1 l) : ln l ≠ 0 := by
  intro e
  have h1 := ln_nat h
  rw [e] at h1
  have := h.1
  simp at h1
  omega
def pr (u p : Str) : Str := 1 :: ln u :: u ++ ln p :: p
theorem pr_len (u p : Str) : (pr u p).length = 3 + u.length + p.length := by simp [pr]; omega
theorem nx_pr {l r : Str} (h : ok1 l) : nx (ln l :: l ++ r) = .got l r := by
  have h1 := ln_nat h
  simp [nx, ln_ne h, h1]
theorem tk_pr {u p r : Str} (hu : ok1 u) (hp : ok1 p) : tk (pr u p ++ r) = (u, p, 3 + u.length + p.length, 0) := by
  have e : pr u p ++ r = 1 :: (ln u :: u ++ (ln p :: p ++ r)) := by simp [pr]
  rw [e]
  show tk.tk1 (nx (ln u :: u ++ (ln p :: p ++ r))) = _
  rw [nx_pr hu]
  show tk.tk2 u (nx (ln p :: p ++ r)) = _
  rw [nx_pr hp]
  rfl

/-! ### what is taken -/
theorem nx_inv {b t r : Str} (h : nx b = .got t r) : ok1 t ∧ b = ln t :: t ++ r := by
  match b with
  | [] => cases h
  | k :: ms =>
    by_cases hk : k = 0
    · subst hk; simp [nx] at h
    · by_cases hl : ms.length < k.toNat
      · simp [nx, hk, hl] at h
      · simp only [nx, hk, hl, if_false, Nx.got.injEq] at h
        obtain ⟨h1, h2⟩ := h
        have hp := toNat_pos hk
        have hn : t.length = k.toNat := by rw [← h1]; simp; omega
        refine ⟨⟨by omega, by omega⟩, ?_⟩
        have : ln t = k := by
          unfold ln
          rw [hn]
          simp
        rw [this, ← h1, ← h2]
        simp
theorem tk_inv {b u p : Str} {n : Nat} (h : tk b = (u, p, n, 0)) : ok1 u ∧ ok1 p ∧ n = 3 + u.length + p.length ∧ ∃ r, b = pr u p ++ r := by
  match b with
  | [] => simp [tk] at h
  | v :: r =>
    by_cases hv : v = 1
    · subst hv
      have h : tk.tk1 (nx r) = (u, p, n, 0) := h
      generalize hx : nx r = x at h
      cases x with
      | more => simp [tk.tk1] at h
      | form => simp [tk.tk1] at h
      | got t q =>
        obtain ⟨ht, hb⟩ := nx_inv hx
        have h : tk.tk2 t (nx q) = (u, p, n, 0) := h
        generalize hy : nx q = y at h
        cases y with
        | more => simp [tk.tk2] at h
        | form => simp [tk.tk2] at h
        | got s z =>
          obtain ⟨hs, hb2⟩ := nx_inv hy
          simp only [tk.tk2, Prod.mk.injEq] at h
          obtain ⟨rfl, rfl, rfl, _⟩ := h
          exact ⟨ht, hs, rfl, z, by rw [hb, hb2]; simp [pr]⟩
    · simp [tk, hv] at h
/-- the error is one of three; without one there are no texts -/
theorem tk_kinds (b : Str) : (∃ u p n, tk b = (u, p, n, 0)) ∨ tk b = ([], [], 0, 5) ∨ tk b = ([], [], 0, 6) := by
  match b with
  | [] => exact .inr (.inl rfl)
  | v :: r =>
    by_cases hv : v = 1
    · subst hv
      show (∃ u p n, tk.tk1 (nx r) = _) ∨ tk.tk1 (nx r) = _ ∨ tk.tk1 (nx r) = _
      cases nx r with
      | more => exact .inr (.inl rfl)
      | form => exact .inr (.inr rfl)
      | got t q =>
        show (∃ u p n, tk.tk2 t (nx q) = _) ∨ tk.tk2 t (nx q) = _ ∨ tk.tk2 t (nx q) = _
        cases nx q with
        | more => exact .inr (.inl rfl)
        | form => exact .inr (.inr rfl)
        | got s z => exact .inl ⟨_, _, _, rfl⟩
    · exact .inr (.inr (by simp [tk, hv]))

/-! ### more bytes -/
theorem nx_more {b t r : Str} (m : Str) (h : nx b = .got t r) : nx (b ++ m) = .got t (r ++ m) := by
  obtain ⟨ht, rfl⟩ := nx_inv h
  rw [List.append_assoc]
  exact nx_pr ht
theorem nx_form {b : Str} (m : Str) (h : nx b = .form) : nx (b ++ m) = .form := by
  match b with
  | [] => cases h
  | k :: ms =>
    by_cases hk : k = 0
    · subst hk; simp [nx]
    · by_cases hl : ms.length < k.toNat <;> simp [nx, hk, hl] at h
theorem tk_app {b : Str} (m : Str) (h : tk b ≠ ([], [], 0, 5)) : tk (b ++ m) = tk b := by
  match b with
  | [] => exact absurd rfl h
  | v :: r =>
    by_cases hv : v = 1
    · subst hv
      have h : tk.tk1 (nx r) ≠ ([], [], 0, 5) := h
      show tk.tk1 (nx (r ++ m)) = tk.tk1 (nx r)
      generalize hx : nx r = x at h
      cases x with
      | more => exact absurd rfl h
      | form => rw [nx_form m hx]
      | got t q =>
        rw [nx_more m hx]
        show tk.tk2 t (nx (q ++ m)) = tk.tk2 t (nx q)
        have h : tk.tk2 t (nx q) ≠ ([], [], 0, 5) := h
        generalize hy : nx q = y at h
        cases y with
        | more => exact absurd rfl h
        | form => rw [nx_form m hy]
        | got s z => rw [nx_more m hy]; rfl
    · simp [tk, hv]
/-- each beginning is told ErrMore -/
theorem tk_part {b u p : Str} {n : Nat} (h : tk b = (u, p, n, 0)) {i : Nat} (hi : i < n) : tk (b.take i) = ([], [], 0, 5) := by
  rcases tk_kinds (b.take i) with ⟨u', p', n', h'⟩ | h' | h'
  · exfalso
    have h1 := tk_app (b.drop i) (b := b.take i) (by rw [h']; simp)
    rw [List.take_append_drop, h', h] at h1
    simp only [Prod.mk.injEq] at h1
    obtain ⟨_, _, hn, r, hb⟩ := tk_inv h'
    have hl : (b.take i).length = (pr u' p' ++ r).length := by rw [← hb]
    simp [pr_len] at hl
    omega
  · exact h'
  · exfalso
    have h1 := tk_app (b.drop i) (b := b.take i) (by rw [h']; simp)
    rw [List.take_append_drop, h', h] at h1
    simp at h1
end Go.Proofs.Ytnkfmbdaicpahaa.gr
