/-
  Given for the seat's laws: plain facts on the text of a number. No program, no memory.
-/
import Derived.Test.YtliajejgkinkjaaDoorNumPure
import Derived.Lib.ItoaNum
namespace Go.Proofs.YtliajejgkinkjaaDoor.num
open Go

theorem dec_small {u : Nat} (h : u < 10) : Lib.decDigits u = [UInt8.ofNat (48 + u)] := by rw [Lib.decDigits, dif_pos h]
theorem dec_step {u : Nat} (h : ¬ u < 10) : Lib.decDigits u = Lib.decDigits (u / 10) ++ [UInt8.ofNat (48 + u % 10)] := by rw [Lib.decDigits, dif_neg h]
theorem digit_nat {d : Nat} (h : d < 10) : (UInt8.ofNat (48 + d)).toNat = 48 + d := by rw [UInt8.toNat_ofNat']; omega

theorem dec_len : ∀ (k u : Nat), u < 10 ^ (k + 1) → (Lib.decDigits u).length ≤ k + 1
  | 0, u, h => by rw [dec_small (by simpa using h)]; simp
  | k + 1, u, h => by
    by_cases h9 : u < 10
    · rw [dec_small h9]
      simp
    · rw [dec_step h9, List.length_append]
      have := dec_len k (u / 10) (by rw [Nat.pow_succ] at h; omega)
      simp
      omega
theorem dec_19 {u : Nat} (h : u ≤ 9223372036854775807) : (Lib.decDigits u).length ≤ 19 := dec_len 18 u (by omega)

theorem dv_dec (u : Nat) : dv (Lib.decDigits u) = u := by
  induction u using Nat.strongRecOn with
  | ind u ih =>
    by_cases h : u < 10
    · rw [dec_small h]
      show 0 * 10 + ((UInt8.ofNat (48 + u)).toNat - 48) = u
      rw [digit_nat h]
      omega
    · rw [dec_step h, dv_snoc, ih (u / 10) (by omega), digit_nat (by omega)]
      omega

theorem dec_canon (u : Nat) : (∀ c ∈ Lib.decDigits u, 48 ≤ c.toNat ∧ c.toNat ≤ 57) ∧ Lib.decDigits u ≠ [] ∧ (1 ≤ u → (Lib.decDigits u).head? ≠ some 48) := by
  induction u using Nat.strongRecOn with
  | ind u ih =>
    by_cases h : u < 10
    · rw [dec_small h]
      refine ⟨fun c hc => ?_, by simp, fun h1 e => ?_⟩
      · obtain rfl : c = UInt8.ofNat (48 + u) := by simpa using hc
        rw [digit_nat h]
        omega
      · have e1 : UInt8.ofNat (48 + u) = 48 := by simpa using e
        have := congrArg UInt8.toNat e1
        rw [digit_nat h] at this
        have h48 : (48 : UInt8).toNat = 48 := rfl
        omega
    · have i := ih (u / 10) (by omega)
      rw [dec_step h]
      refine ⟨fun c hc => ?_, by simp, fun _ e => ?_⟩
      · rcases List.mem_append.1 hc with hc | hc
        · exact i.1 c hc
        · obtain rfl : c = UInt8.ofNat (48 + u % 10) := by simpa using hc
          rw [digit_nat (by omega)]
          omega
      · apply i.2.2 (by omega)
        cases hl : Lib.decDigits (u / 10) with
        | nil => exact absurd hl i.2.1
        | cons x r => rw [hl] at e; simpa using e

theorem canon_dec (u : Nat) : Canon (Lib.decDigits u) := by
  have h := dec_canon u
  refine ⟨h.2.1, h.1, ?_⟩
  rcases Nat.eq_zero_or_pos u with h0 | h0
  · subst h0
    exact .inl (by rw [dec_small (by omega)]; rfl)
  · exact .inr (h.2.2 h0)

theorem dv_pos {l : List UInt8} (h : Canon l) (h1 : l.head? ≠ some 48) : 1 ≤ dv l := by
  cases l with
  | nil => exact absurd rfl h.1
  | cons x r =>
    have hx := h.2.1 x (List.mem_cons_self ..)
    have hne : x.toNat ≠ 48 := fun e => h1 (by
      have : x = 48 := by apply UInt8.toNat_inj.1; exact e
      rw [this]; rfl)
    have := dv_append_le [x] r
    have e : dv [x] = 0 * 10 + (x.toNat - 48) := rfl
    have e2 : [x] ++ r = x :: r := rfl
    rw [e2] at this
    omega

/-- the text of the number of digits without a nought ahead -/
theorem dec_dv : ∀ (n : Nat) (l : List UInt8), l.length = n → Canon l → Lib.decDigits (dv l) = l := by
  intro n
  induction n with
  | zero => intro l hl h; exact absurd (List.eq_nil_of_length_eq_zero hl) h.1
  | succ n ih =>
    intro l hl h
    obtain ⟨m, c, rfl⟩ : ∃ m c, l = m ++ [c] := ⟨l.dropLast, l.getLast h.1, (List.dropLast_concat_getLast h.1).symm⟩
    have hc := h.2.1 c (by simp)
    rw [dv_snoc]
    by_cases hm : m = []
    · subst hm
      have e : dv [] = 0 := rfl
      rw [e, dec_small (by omega)]
      have : UInt8.ofNat (48 + (0 * 10 + (c.toNat - 48))) = c := by
        apply UInt8.toNat_inj.1
        rw [UInt8.toNat_ofNat']
        omega
      rw [this]
      rfl
    · have hhead : m.head? ≠ some 48 := by
        rcases h.2.2 with h1 | h1
        · exfalso
          have : m.length ≠ 0 := fun e => hm (List.eq_nil_of_length_eq_zero e)
          simp at h1
          exact hm h1
        · intro e
          apply h1
          cases m with
          | nil => exact absurd rfl hm
          | cons x r => simpa using e
      have hcm : Canon m := ⟨hm, fun d hd => h.2.1 d (by simp [hd]), .inr hhead⟩
      have hp := dv_pos hcm hhead
      rw [dec_step (by omega)]
      have e1 : (dv m * 10 + (c.toNat - 48)) / 10 = dv m := by omega
      have e2 : (dv m * 10 + (c.toNat - 48)) % 10 = c.toNat - 48 := by omega
      rw [e1, e2, ih m (by simpa using hl) hcm]
      have : UInt8.ofNat (48 + (c.toNat - 48)) = c := by
        apply UInt8.toNat_inj.1
        rw [UInt8.toNat_ofNat']
        omega
      rw [this]

/-- all are digits -/
def Digits (l : List UInt8) : Prop := ∀ c ∈ l, 48 ≤ c.toNat ∧ c.toNat ≤ 57

theorem dv_lt : ∀ (n : Nat) (l : List UInt8), l.length = n → Digits l → dv l < 10 ^ n := by
  intro n
  induction n with
  | zero => intro l hl h; rw [List.eq_nil_of_length_eq_zero hl]; exact Nat.one_pos
  | succ n ih =>
    intro l hl h
    have hne : l ≠ [] := fun e => by rw [e] at hl; cases hl
    obtain ⟨m, c, rfl⟩ : ∃ m c, l = m ++ [c] := ⟨l.dropLast, l.getLast hne, (List.dropLast_concat_getLast hne).symm⟩
    have hc := h c (by simp)
    have hm := ih m (by simpa using hl) (fun d hd => h d (by simp [hd]))
    rw [dv_snoc, Nat.pow_succ]
    omega

theorem parse_long {l : List UInt8} {a g : Int} (hl : 19 < l.length) (hg : g ≤ 9223372036854775807) : parseF l a g = (0, 6) := if_neg fun h => by
  have h1 := dec_dv _ l rfl h.1
  have h2 := dec_19 (u := dv l) (by have := h.2.2; omega)
  rw [h1] at h2
  omega
theorem parse_yes {l : List UInt8} {a g : Int} (h : Lib.decDigits (dv l) = l) (ha : a ≤ (dv l : Int)) (hg : (dv l : Int) ≤ g) : parseF l a g = ((dv l : Int), 0) :=
  if_pos ⟨by have := canon_dec (dv l); rwa [h] at this, ha, hg⟩
theorem parse_not {l : List UInt8} {a g : Int} (h : Lib.decDigits (dv l) ≠ l) : parseF l a g = (0, 6) := if_neg fun hc => h (dec_dv _ l rfl hc.1)
theorem parse_over {l : List UInt8} {a g : Int} (h : g < (dv l : Int)) : parseF l a g = (0, 6) := if_neg fun hc => by have := hc.2.2; omega

end Go.Proofs.YtliajejgkinkjaaDoor.num
