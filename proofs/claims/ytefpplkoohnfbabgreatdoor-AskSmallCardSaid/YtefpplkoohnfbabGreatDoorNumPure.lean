/-
  Given for the seat's laws: plain facts on numerals: what Parse answers. No program, no memory.
-/
import Derived.Lib.Bytes
namespace Go.Proofs.YtefpplkoohnfbabGreatDoor.num
open Go

/-- the value of digits -/
def dv (l : List UInt8) : Nat := l.foldl (fun a c => a * 10 + (c.toNat - 48)) 0
theorem dv_snoc (l : List UInt8) (c : UInt8) : dv (l ++ [c]) = dv l * 10 + (c.toNat - 48) := by simp [dv]
theorem foldl_le : ∀ (m : List UInt8) (a : Nat), a ≤ m.foldl (fun a c => a * 10 + (c.toNat - 48)) a
  | [], a => Nat.le_refl _
  | c :: m, a => Nat.le_trans (show a ≤ a * 10 + (c.toNat - 48) by omega) (foldl_le m _)
theorem dv_append_le (l m : List UInt8) : dv l ≤ dv (l ++ m) := by
  unfold dv
  rw [List.foldl_append]
  exact foldl_le m _
theorem dv_take_le (l : List UInt8) (k : Nat) : dv (l.take k) ≤ dv l := by
  have := dv_append_le (l.take k) (l.drop k)
  rwa [List.take_append_drop] at this
theorem dv_take_succ {l : List UInt8} {k : Nat} {c : UInt8} (h : l[k]? = some c) : dv (l.take (k + 1)) = dv (l.take k) * 10 + (c.toNat - 48) := by
  rw [List.take_add_one, h]
  exact dv_snoc _ _

/-- digits, without a nought ahead -/
def Canon (l : List UInt8) : Prop := l ≠ [] ∧ (∀ c ∈ l, 48 ≤ c.toNat ∧ c.toNat ≤ 57) ∧ (l.length = 1 ∨ l.head? ≠ some 48)
instance (l : List UInt8) : Decidable (Canon l) := inferInstanceAs (Decidable (_ ∧ _ ∧ _))

/-- what Parse answers, within bounds that hold a number -/
def parseF (l : List UInt8) (least greatest : Int) : Int × Int := if Canon l ∧ least ≤ (dv l : Int) ∧ (dv l : Int) ≤ greatest then ((dv l : Int), 0) else (0, 6)

/-- what holds when k bytes have been read -/
structure Pre (l : List UInt8) (greatest : Int) (k : Nat) : Prop where
  le : k ≤ l.length
  dig : ∀ (i : Nat) (c : UInt8), i < k → l[i]? = some c → 48 ≤ c.toNat ∧ c.toNat ≤ 57
  head : 2 ≤ k → l[0]? ≠ some 48
  fit : (dv (l.take k) : Int) ≤ greatest

theorem pre_zero (l : List UInt8) {g : Int} (hg : 0 ≤ g) : Pre l g 0 := ⟨Nat.zero_le _, fun i c h => absurd h (by omega), fun h => absurd h (by omega), by simpa [dv] using hg⟩

theorem pre_step {l : List UInt8} {g : Int} {k : Nat} {c : UInt8} (h : Pre l g k) (hc : l[k]? = some c) (hd : 48 ≤ c.toNat ∧ c.toNat ≤ 57) (h0 : k = 0 ∨ dv (l.take k) ≠ 0) (hg : (dv (l.take k) : Int) * 10 ≤ g - ((c.toNat : Int) - 48)) : Pre l g (k + 1) := by
  have hlt := (List.getElem?_eq_some_iff.1 hc).1
  refine ⟨hlt, fun i d hi hid => ?_, fun hk h48 => ?_, ?_⟩
  · by_cases hik : i = k
    · subst hik
      rw [hc] at hid
      cases hid
      exact hd
    · exact h.dig i d (by omega) hid
  · rcases h0 with h0 | h0
    · omega
    · by_cases hk1 : k = 1
      · subst hk1
        apply h0
        have : l.take 1 = [48] := by
          cases l with
          | nil => simp at h48
          | cons x r => simpa using h48
        rw [this]
        rfl
      · exact h.head (by omega) h48
  · rw [dv_take_succ hc]
    omega

theorem canon_digits {l : List UInt8} (h : Canon l) {k : Nat} {c : UInt8} (hc : l[k]? = some c) : 48 ≤ c.toNat ∧ c.toNat ≤ 57 := h.2.1 c (List.mem_of_getElem? hc)

theorem no_digit {l : List UInt8} {a g : Int} {k : Nat} {c : UInt8} (hc : l[k]? = some c) (hd : ¬ (48 ≤ c.toNat ∧ c.toNat ≤ 57)) : parseF l a g = (0, 6) := if_neg fun h => hd (canon_digits h.1 hc)

theorem dv_pos_of {l : List UInt8} {g : Int} : ∀ {k : Nat}, Pre l g k → 1 ≤ k → l[0]? ≠ some 48 → dv (l.take k) ≠ 0
  | 0, _, h1, _ => absurd h1 (by omega)
  | k + 1, h, _, h48 => by
    have hk := h.le
    obtain ⟨c, hc⟩ : ∃ c, l[k]? = some c := ⟨_, List.getElem?_eq_getElem (by omega)⟩
    rw [dv_take_succ hc]
    cases k with
    | zero =>
      have hd := h.dig 0 c (by omega) hc
      have : c.toNat ≠ 48 := fun e => h48 (by rw [hc]; congr 1; apply UInt8.toNat_inj.1; exact e)
      omega
    | succ k =>
      have h' : Pre l g (k + 1) := ⟨by omega, fun i d hi => h.dig i d (by omega), fun hk2 => h.head (by omega), by
        have := h.fit
        rw [dv_take_succ hc] at this
        omega⟩
      have := dv_pos_of h' (by omega) h48
      omega

/-- a nought ahead of more -/
theorem nought {l : List UInt8} {a g : Int} {k : Nat} {c : UInt8} (h : Pre l g k) (hc : l[k]? = some c) (hk : 1 ≤ k) (h0 : dv (l.take k) = 0) : parseF l a g = (0, 6) := if_neg fun hcn => by
  have hlt := (List.getElem?_eq_some_iff.1 hc).1
  have h48 : l[0]? = some 48 := Classical.byContradiction fun hne => dv_pos_of h hk hne h0
  rcases hcn.1.2.2 with h1 | h1
  · omega
  · exact h1 (by rw [List.head?_eq_getElem?]; exact h48)

/-- too great -/
theorem great {l : List UInt8} {a g : Int} {k : Nat} {c : UInt8} (hc : l[k]? = some c) (hd : 48 ≤ c.toNat ∧ c.toNat ≤ 57) (hg : g - ((c.toNat : Int) - 48) < (dv (l.take k) : Int) * 10) : parseF l a g = (0, 6) := if_neg fun hcn => by
  have := dv_take_le l (k + 1)
  rw [dv_take_succ hc] at this
  have := hcn.2.2
  omega

theorem canon_of_pre {l : List UInt8} {g : Int} (h : Pre l g l.length) (hne : l ≠ []) : Canon l :=
  ⟨hne, fun c hc => by
    obtain ⟨i, hi⟩ := List.getElem?_of_mem hc
    exact h.dig i c (List.getElem?_eq_some_iff.1 hi).1 hi, by
    by_cases h1 : l.length = 1
    · exact .inl h1
    · refine .inr fun e => ?_
      rw [List.head?_eq_getElem?] at e
      have : l.length ≠ 0 := fun e0 => hne (List.eq_nil_of_length_eq_zero e0)
      exact h.head (by omega) e⟩

theorem all_read {l : List UInt8} {a g : Int} (h : Pre l g l.length) (hne : l ≠ []) (ha : a ≤ (dv l : Int)) : parseF l a g = ((dv l : Int), 0) :=
  if_pos ⟨canon_of_pre h hne, ha, by have := h.fit; rwa [List.take_length] at this⟩
theorem too_small {l : List UInt8} {a g : Int} (ha : (dv l : Int) < a) : parseF l a g = (0, 6) := if_neg fun h => by have := h.2.1; omega
theorem empty_no {a g : Int} : parseF [] a g = (0, 6) := if_neg fun h => h.1.1 rfl

end Go.Proofs.YtefpplkoohnfbabGreatDoor.num
