/-
  Given for the seat's laws: an address of sixteen bytes as the program reads it, without memory. No condition but those of the theorems.
-/
import Derived.Test.YtghdaengkgiekaaGreatDoorYHGB
import Derived.Lib.IndexMore
namespace Go.Proofs.YtghdaengkgiekaaGreatDoor.hw
open Go.RowKit mem hostp
set_option linter.unusedVariables false

theorem cutDC_some : ∀ {l p r : Str}, cutDC l = some (p, r) → l = p ++ 58 :: 58 :: r
  | [], p, r, h => by simp [cutDC] at h
  | [_], p, r, h => by simp [cutDC] at h
  | a :: b :: l, p, r, h => by
    unfold cutDC at h
    split at h
    · rename_i hab
      simp only [Option.some.injEq, Prod.mk.injEq] at h
      obtain ⟨rfl, rfl⟩ := h
      rw [hab.1, hab.2]
      rfl
    · cases hc : cutDC (b :: l) with
      | none => rw [hc] at h; cases h
      | some q =>
        rw [hc] at h
        simp only [Option.map_some, Option.some.injEq, Prod.mk.injEq] at h
        obtain ⟨rfl, rfl⟩ := h
        have := cutDC_some (l := b :: l) (p := q.1) (r := q.2) hc
        rw [this]
        rfl
theorem index_dc : ∀ l : Str, Lib.index l [58, 58] = match cutDC l with
    | some q => ((q.1.length : Nat) : Int)
    | none => -1
  | [] => rfl
  | [a] => by
    unfold Lib.index
    simp [List.isPrefixOf, cutDC, Lib.index]
  | a :: b :: l => by
    have ih := index_dc (b :: l)
    rw [Lib.index, ih]
    have hp : ([58, 58] : Str).isPrefixOf (a :: b :: l) = (decide (a = 58 ∧ b = 58)) := by
      simp only [List.isPrefixOf, Bool.and_true]
      rw [Bool.eq_iff_iff]
      simp only [Bool.and_eq_true, beq_iff_eq, decide_eq_true_eq]
      constructor
      · rintro ⟨h1, h2⟩; exact ⟨h1.symm, h2.symm⟩
      · rintro ⟨h1, h2⟩; exact ⟨h1.symm, h2.symm⟩
    rw [hp]
    conv => rhs; unfold cutDC
    by_cases hab : a = 58 ∧ b = 58
    · simp [hab]
    · rw [if_neg hab]
      simp only [hab, decide_false, Bool.false_eq_true, if_false]
      cases hc : cutDC (b :: l) with
      | none => rfl
      | some q =>
        simp only [Option.map_some, List.length_cons]
        rw [show (((q.1.length : Nat) : Int) == -1) = false from beq_eq_false_iff_ne.2 (by omega)]
        simp
theorem cut_dc (l : Str) : Lib.cut l [58, 58] = match cutDC l with
    | some q => (q.1, q.2, true)
    | none => (l, [], false) := by
  have hi := index_dc l
  cases hc : cutDC l with
  | none =>
    rw [hc] at hi
    have hi' : Lib.index l [58, 58] = -1 := hi
    unfold Lib.cut
    rw [hi', if_neg (by omega)]
  | some q =>
    rw [hc] at hi
    have hi' : Lib.index l [58, 58] = ((q.1.length : Nat) : Int) := hi
    have hl := cutDC_some (p := q.1) (r := q.2) hc
    have e1 : l.take q.1.length = q.1 := by rw [hl]; simp
    have e2 : l.drop (q.1.length + 2) = q.2 := by rw [hl]; simp
    unfold Lib.cut
    rw [hi', if_pos (by omega), Int.toNat_natCast]
    show (l.take q.1.length, l.drop (q.1.length + 2), true) = _
    rw [e1, e2]
theorem cutDC_low : ∀ l : Str, cutDC (low l) = (cutDC l).map fun q => (low q.1, low q.2)
  | [] => rfl
  | [_] => rfl
  | a :: b :: l => by
    have ih := cutDC_low (b :: l)
    show cutDC (lc a :: lc b :: low l) = _
    have hiff : (lc a = 58 ∧ lc b = 58) ↔ (a = 58 ∧ b = 58) := by rw [lowc_58, lowc_58]
    unfold cutDC
    by_cases hab : a = 58 ∧ b = 58
    · rw [if_pos hab, if_pos (hiff.2 hab)]; rfl
    · rw [if_neg hab, if_neg (fun h => hab (hiff.1 h))]
      have ih' : cutDC (lc b :: low l) = (cutDC (b :: l)).map fun q => (low q.1, low q.2) := ih
      rw [ih']
      cases cutDC (b :: l) <;> rfl

/-- the address that the program reads -/
def pv6 (s : Str) : Option (List Nat) := match cutDC s with
  | some q => match g8 q.1, g8 q.2 with
    | some a, some b => if 8 ≤ a.length + b.length then none else some (a ++ (List.replicate (8 - a.length - b.length) 0 ++ b))
    | _, _ => none
  | none => match g8 s with
    | some a => if a.length = 8 then some a else none
    | none => none
theorem six_pv6 (s : Str) : six (low s) = pv6 s := by
  unfold six pv6
  rw [cutDC_low]
  cases cutDC s with
  | none =>
    simp only [Option.map_none, g8]
    cases groups (low s) with
    | none => rfl
    | some a =>
      by_cases h : a.length ≤ 8
      · simp [h]
      · have h8 : ¬ a.length = 8 := by omega
        simp [h, h8]
  | some q =>
    simp only [Option.map_some, g8]
    cases groups (low q.1) with
    | none => rfl
    | some a =>
      cases groups (low q.2) with
      | none => by_cases h : a.length ≤ 8 <;> simp [h]
      | some b =>
        by_cases h : a.length ≤ 8
        · by_cases h' : b.length ≤ 8
          · simp only [h, h', if_true]
            by_cases h7 : a.length + b.length > 7
            · rw [if_pos h7, if_pos (by omega)]
            · rw [if_neg h7, if_neg (by omega)]
          · have h7 : a.length + b.length > 7 := by omega
            simp [h, h', h7]
        · have h7 : a.length + b.length > 7 := by omega
          simp [h, h7]

/-- with k groups of the second row put in from behind -/
def mix (a b : List Nat) (k : Nat) : List Nat := a ++ List.replicate (8 - a.length - b.length) 0 ++ b.take k ++ List.replicate (b.length - k) 0
theorem mix_len {a b : List Nat} {k : Nat} (h : a.length + b.length ≤ 8) (hk : k ≤ b.length) : (mix a b k).length = 8 := by
  unfold mix; simp; omega
theorem mix_zero {a b : List Nat} (h : a.length + b.length ≤ 8) : mix a b 0 = pad8 a := by
  unfold mix pad8
  rw [List.take_zero, List.append_nil, List.append_assoc, List.replicate_append_replicate]
  congr 2
  omega
theorem mix_end (a b : List Nat) : mix a b b.length = a ++ (List.replicate (8 - a.length - b.length) 0 ++ b) := by
  unfold mix
  simp
theorem mix_step {a b : List Nat} {k v : Nat} (h : a.length + b.length ≤ 8) (hv : b[k]? = some v) : (mix a b k).set (8 - b.length + k) v = mix a b (k + 1) := by
  have hk : k < b.length := (List.getElem?_eq_some_iff.1 hv).1
  unfold mix
  have e1 : (a ++ List.replicate (8 - a.length - b.length) 0 ++ b.take k).length = 8 - b.length + k := by simp; omega
  rw [List.set_append, if_neg (by omega), e1, Nat.sub_self, show b.length - k = (b.length - (k + 1)) + 1 by omega, List.replicate_succ, List.set_cons_zero, List.take_add_one, hv]
  simp
end Go.Proofs.YtghdaengkgiekaaGreatDoor.hw
