/-
  Given for the seat's laws: groups as the program reads them, without memory. No condition but those of the theorems.
-/
import Derived.Test.YtefpplkoohnfbabGreatDoorHP4
import Derived.Test.YtefpplkoohnfbabGreatDoorHPU2
namespace Go.Proofs.YtefpplkoohnfbabGreatDoor.hw
open Go.RowKit mem hostp
set_option linter.unusedVariables false

theorem lowc_58 (c : UInt8) : lc c = 58 ↔ c = 58 := by
  constructor
  · intro h
    unfold lc at h
    split at h
    · rename_i hc
      have := congrArg UInt8.toNat h
      simp at this
      omega
    · exact h
  · rintro rfl
    rfl

theorem grps_snoc {l : List Str} {x : Str} : grps (l ++ [x]) = match grps l with
    | none => none
    | some a => match grp x with
      | none => none
      | some v => some (a ++ [v]) := by
  rw [grps_append]
  cases grps l with
  | none => rfl
  | some a =>
    show (match grps [x] with | none => none | some b => some (a ++ b)) = _
    unfold grps
    cases grp x with
    | none => rfl
    | some v => rfl
theorem grps_dead {l m : List Str} (h : grps l = none) : grps (l ++ m) = none := by rw [grps_append, h]
theorem grps_len : ∀ {l : List Str} {b : List Nat}, grps l = some b → b.length = l.length
  | [], b, h => by
    unfold grps at h
    cases h
    rfl
  | x :: l, b, h => by
    unfold grps at h
    split at h
    · cases h
    · split at h
      · cases h
      · rename_i v _ t ht
        cases h
        simp [grps_len ht]
theorem grps_lt : ∀ {l : List Str} {b : List Nat}, grps l = some b → ∀ v ∈ b, v < 65536
  | [], b, h => by
    unfold grps at h
    cases h
    simp
  | x :: l, b, h => by
    unfold grps at h
    split at h
    · cases h
    · rename_i v hv
      split at h
      · cases h
      · rename_i t ht
        cases h
        intro u hu
        rcases List.mem_cons.1 hu with rfl | hu
        · exact (grp_some hv).2.2
        · exact grps_lt ht u hu
theorem low_58 {x : Str} : (58 : UInt8) ∈ low x ↔ (58 : UInt8) ∈ x := by
  unfold low
  rw [List.mem_map]
  constructor
  · rintro ⟨c, hc, e⟩
    rw [lowc_58] at e
    exact e ▸ hc
  · exact fun h => ⟨58, h, by rfl⟩
theorem grp_colon {x : Str} (h : (58 : UInt8) ∈ x) : grp x = none := by
  cases hg : grp x with
  | none => rfl
  | some v => exact absurd h (grp_some hg).2.1

/-- the groups that the program reads: at most eight -/
def g8 (s : Str) : Option (List Nat) := match groups (low s) with
  | some a => if a.length ≤ 8 then some a else none
  | none => none
theorem g8_nil : g8 [] = some [] := rfl
theorem cut_low58 : ∀ s : Str, cut 58 (low s) = (cut 58 s).map low := by
  intro s
  induction s with
  | nil => rfl
  | cons c s ih =>
    show cut 58 (lc c :: low s) = _
    unfold cut
    by_cases h : c = 58
    · rw [if_pos ((lowc_58 c).2 h), if_pos h, ih]
      rfl
    · rw [if_neg (fun e => h ((lowc_58 c).1 e)), if_neg h, ih]
      cases cut 58 s <;> rfl
theorem g8_upto {s : Str} (h0 : s ≠ []) : g8 s = grps ((upto 58 8 s).map low) := by
  have hne : low s ≠ [] := fun e => h0 (List.map_eq_nil_iff.1 e)
  unfold g8 groups
  rw [if_neg hne, cut_low58]
  by_cases h : (cut 58 s).length ≤ 8
  · rw [upto_le h]
    cases hg : grps ((cut 58 s).map low) with
    | none => rfl
    | some a =>
      have := grps_len hg
      rw [List.length_map] at this
      dsimp only
      rw [if_pos (by omega)]
  · have hr : grps ((upto 58 8 s).map low) = none := by
      obtain ⟨x, hx, hm⟩ := upto_last (a := 58) (n := 8) (by omega) (show 8 < (cut 58 s).length by omega)
      have hl : (upto 58 8 s).length = 8 := by rw [upto_len 58 (by omega)]; omega
      have hx' : (upto 58 8 s)[7]? = some x := hx
      have : upto 58 8 s = (upto 58 8 s).take 7 ++ [x] := by
        conv => lhs; rw [← List.take_append_drop 7 (upto 58 8 s)]
        rw [List.drop_eq_getElem_cons (by omega), List.drop_eq_nil_of_le (by omega)]
        congr 2
        rw [List.getElem?_eq_getElem (by omega)] at hx'
        exact Option.some.inj hx'
      rw [this, List.map_append, List.map_cons, List.map_nil, grps_snoc]
      cases grps (((upto 58 8 s).take 7).map low) with
      | none => rfl
      | some a =>
        show (match grp (low x) with | none => none | some v => some (a ++ [v])) = none
        rw [grp_colon (low_58.2 hm)]
    rw [hr]
    cases hg : grps ((cut 58 s).map low) with
    | none => rfl
    | some a =>
      have := grps_len hg
      rw [List.length_map] at this
      dsimp only
      rw [if_neg (by omega)]
theorem g8_lt {s : Str} {a : List Nat} (h : g8 s = some a) : a.length ≤ 8 ∧ ∀ v ∈ a, v < 65536 := by
  by_cases h0 : s = []
  · subst h0
    cases h
    exact ⟨by simp, by simp⟩
  · have h2 := h
    rw [g8_upto h0] at h
    refine ⟨?_, grps_lt h⟩
    have := grps_len h
    rw [List.length_map, upto_len 58 (by omega)] at this
    omega

end Go.Proofs.YtefpplkoohnfbabGreatDoor.hw
