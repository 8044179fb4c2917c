/-
  Given for the seat's laws: plain facts on lists of numbers: where a line ends, and what a reader of lines answers. No program, no memory.
-/
import Derived.Lib.Index
import Derived.Lib.Bytes
import Derived.Lib.Bytes2
namespace Go.Proofs.Ytliajejgkinkjaa.plain
open Go

/-- the place of the first 13 that a 10 follows -/
def nEnd : List Int → Option Nat
  | [] => none
  | x :: l => if x = 13 ∧ l.head? = some 10 then some 0 else (nEnd l).map (· + 1)

/-- how many there are, but for a 13 that is the last one -/
def bare (ys : List Int) : Nat := if ys.getLast? = some 13 then ys.length - 1 else ys.length

def idxI (ys : List Int) : Int := match nEnd ys with
  | some i => (i : Int)
  | none => -1

/-- what lineLength answers: the length, and the error -/
def lineF (ys : List Int) (most : Int) : Int × Int := match nEnd ys with
  | some i => if most < (i : Int) then (0, 6) else ((i : Int), 0)
  | none => if most < (bare ys : Int) then (0, 6) else (0, 5)

def endAt (ys : List Int) (i : Nat) : Prop := ys[i]? = some 13 ∧ ys[i + 1]? = some 10

theorem byte_beq {x : Int} {k : Nat} (hx : 0 ≤ x ∧ x < 256) (hk : k < 256) : (UInt8.ofNat k == UInt8.ofNat x.toNat) = decide (x = (k : Int)) := by
  by_cases h : x = (k : Int)
  · subst h
    simp
  · rw [decide_eq_false h]
    apply beq_eq_false_iff_ne.2
    intro e
    have := congrArg UInt8.toNat e
    simp only [UInt8.toNat_ofNat'] at this
    omega

theorem index_nEnd : ∀ ys : List Int, (∀ x ∈ ys, 0 ≤ x ∧ x < 256) → Lib.index (Lib.bytesOf ys) [13, 10] = idxI ys
  | [], _ => rfl
  | x :: l, h => by
    have ih := index_nEnd l (fun y hy => h y (List.mem_cons_of_mem _ hy))
    have hx := h x (List.mem_cons_self ..)
    have e : Lib.bytesOf (x :: l) = UInt8.ofNat x.toNat :: Lib.bytesOf l := rfl
    have h13 : ((13 : UInt8) == UInt8.ofNat x.toNat) = decide (x = 13) := byte_beq (k := 13) hx (by decide)
    have h10 : [(10 : UInt8)].isPrefixOf (Lib.bytesOf l) = decide (l.head? = some 10) := by
      cases l with
      | nil => rfl
      | cons y r =>
        have hy := h y (List.mem_cons_of_mem _ (List.mem_cons_self ..))
        have : ((10 : UInt8) == UInt8.ofNat y.toNat) = decide (y = 10) := byte_beq (k := 10) hy (by decide)
        show (((10 : UInt8) == UInt8.ofNat y.toNat) && ([] : List UInt8).isPrefixOf _) = _
        rw [this]
        simp
    have hp : [(13 : UInt8), 10].isPrefixOf (UInt8.ofNat x.toNat :: Lib.bytesOf l) = decide (x = 13 ∧ l.head? = some 10) := by
      show (((13 : UInt8) == UInt8.ofNat x.toNat) && [(10 : UInt8)].isPrefixOf (Lib.bytesOf l)) = _
      rw [h13, h10]
      simp
    rw [e]
    simp only [Lib.index, hp, ih, decide_eq_true_eq]
    unfold idxI
    rw [nEnd]
    by_cases hc : x = 13 ∧ l.head? = some 10
    · rw [if_pos hc, if_pos hc]
      rfl
    · rw [if_neg hc, if_neg hc]
      cases hn : nEnd l with
      | none => simp
      | some i =>
        have : ((i : Int) == -1) = false := beq_eq_false_iff_ne.2 (by omega)
        simp [this]

theorem nEnd_some : ∀ {ys : List Int} {i : Nat}, nEnd ys = some i → endAt ys i ∧ ∀ j, j < i → ¬ endAt ys j
  | [], i, h => by cases h
  | x :: l, i, h => by
    rw [nEnd] at h
    by_cases hc : x = 13 ∧ l.head? = some 10
    · rw [if_pos hc] at h
      cases h
      refine ⟨⟨by simp [hc.1], ?_⟩, fun j hj => absurd hj (by omega)⟩
      have := hc.2
      rw [List.head?_eq_getElem?] at this
      simpa using this
    · rw [if_neg hc] at h
      cases hn : nEnd l with
      | none => rw [hn] at h; cases h
      | some k =>
        rw [hn] at h
        cases h
        have ih := nEnd_some hn
        refine ⟨⟨by simpa using ih.1.1, by simpa using ih.1.2⟩, fun j hj he => ?_⟩
        cases j with
        | zero =>
          apply hc
          refine ⟨by simpa using he.1, ?_⟩
          rw [List.head?_eq_getElem?]
          simpa using he.2
        | succ j => exact ih.2 j (Nat.lt_of_succ_lt_succ hj) ⟨by simpa using he.1, by simpa using he.2⟩

theorem nEnd_none : ∀ {ys : List Int}, nEnd ys = none → ∀ j, ¬ endAt ys j
  | [], _, j => fun he => by simp [endAt] at he
  | x :: l, h, j => by
    rw [nEnd] at h
    by_cases hc : x = 13 ∧ l.head? = some 10
    · rw [if_pos hc] at h
      cases h
    · rw [if_neg hc] at h
      have hn : nEnd l = none := by
        cases hn : nEnd l with
        | none => rfl
        | some k => rw [hn] at h; cases h
      intro he
      cases j with
      | zero =>
        apply hc
        refine ⟨by simpa using he.1, ?_⟩
        rw [List.head?_eq_getElem?]
        simpa using he.2
      | succ j => exact nEnd_none hn j ⟨by simpa using he.1, by simpa using he.2⟩

theorem nEnd_of {ys : List Int} {i : Nat} (h : endAt ys i) (hb : ∀ j, j < i → ¬ endAt ys j) : nEnd ys = some i := by
  cases hn : nEnd ys with
  | none => exact absurd h (nEnd_none hn i)
  | some k =>
    have hk := nEnd_some hn
    rcases Nat.lt_trichotomy k i with hlt | rfl | hgt
    · exact absurd hk.1 (hb k hlt)
    · rfl
    · exact absurd h (hk.2 i hgt)

theorem nEnd_lt {ys : List Int} {i : Nat} (h : nEnd ys = some i) : i + 2 ≤ ys.length := by
  have := (nEnd_some h).1.2
  have := (List.getElem?_eq_some_iff.1 this).1
  omega

theorem bare_le (ys : List Int) : bare ys ≤ ys.length := by unfold bare; split <;> omega

theorem hasSuffix_13 (ys : List Int) (h : ∀ x ∈ ys, 0 ≤ x ∧ x < 256) : Lib.hasSuffix (Lib.bytesOf ys) (Lib.bytesOf [13]) = decide (ys.getLast? = some 13) := by
  rw [Bool.eq_iff_iff]
  unfold Lib.hasSuffix
  rw [List.isSuffixOf_iff_suffix, decide_eq_true_eq]
  constructor
  · rintro ⟨t, ht⟩
    have h1 : (Lib.bytesOf ys).getLast? = some 13 := by rw [← ht]; simp [Lib.bytesOf]
    unfold Lib.bytesOf at h1
    rw [List.getLast?_map] at h1
    cases hl : ys.getLast? with
    | none => rw [hl] at h1; cases h1
    | some x =>
      rw [hl] at h1
      have hx := h x (List.mem_of_getLast? hl)
      have : UInt8.ofNat x.toNat = 13 := by simpa using h1
      have := congrArg UInt8.toNat this
      simp only [UInt8.toNat_ofNat'] at this
      congr 1
      have h13 : (13 : UInt8).toNat = 13 := rfl
      omega
  · intro hl
    obtain ⟨l, rfl⟩ : ∃ l, ys = l ++ [13] := by
      obtain ⟨l, hl'⟩ := List.getLast?_eq_some_iff.1 hl
      exact ⟨l, hl'⟩
    exact ⟨Lib.bytesOf l, by simp [Lib.bytesOf]⟩

theorem endAt_more {ys zs : List Int} {i : Nat} (h : i + 1 < ys.length) : endAt (ys ++ zs) i ↔ endAt ys i := by
  unfold endAt
  rw [List.getElem?_append_left (by omega), List.getElem?_append_left h]

/-- more bytes change no answer but that more are wanted -/
theorem lineF_more (ys zs : List Int) (m : Int) (h : (lineF ys m).2 ≠ 5) : lineF (ys ++ zs) m = lineF ys m := by
  cases hn : nEnd ys with
  | some i =>
    have hi := nEnd_some hn
    have hl := nEnd_lt hn
    have : nEnd (ys ++ zs) = some i := nEnd_of ((endAt_more (by omega)).2 hi.1) (fun j hj he => hi.2 j hj ((endAt_more (by omega)).1 he))
    unfold lineF
    rw [hn, this]
  | none =>
    have hb : m < (bare ys : Int) := by
      unfold lineF at h
      rw [hn] at h
      dsimp only at h
      split at h
      · assumption
      · exact absurd rfl h
    have e1 : lineF ys m = (0, 6) := by unfold lineF; rw [hn]; exact if_pos hb
    rw [e1]
    cases hn2 : nEnd (ys ++ zs) with
    | some i =>
      have hi := nEnd_some hn2
      have hno := nEnd_none hn i
      have hge : bare ys ≤ i := by
        rcases Nat.lt_or_ge (i + 1) ys.length with hlt | hge
        · exact absurd ((endAt_more hlt).1 hi.1) hno
        · unfold bare
          split
          · omega
          · rename_i hlast
            rcases Nat.lt_or_ge i ys.length with h1 | h1
            · exfalso
              apply hlast
              have h13 := hi.1.1
              rw [List.getElem?_append_left h1] at h13
              rw [List.getLast?_eq_getElem?, show ys.length - 1 = i by omega]
              exact h13
            · exact h1
      unfold lineF
      rw [hn2]
      exact if_pos (by omega)
    | none =>
      have hge : bare ys ≤ bare (ys ++ zs) := by
        cases zs with
        | nil => rw [List.append_nil]; exact Nat.le_refl _
        | cons z r =>
          have := bare_le ys
          have h2 : (ys ++ z :: r).length - 1 ≤ bare (ys ++ z :: r) := by unfold bare; split <;> omega
          rw [List.length_append, List.length_cons] at h2
          omega
      unfold lineF
      rw [hn2]
      exact if_pos (by omega)

theorem lineF_cases (ys : List Int) (m : Int) : (∃ i : Nat, lineF ys m = ((i : Int), 0) ∧ i + 2 ≤ ys.length) ∨ lineF ys m = (0, 5) ∨ lineF ys m = (0, 6) := by
  unfold lineF
  cases hn : nEnd ys with
  | some i =>
    dsimp only
    split
    · exact .inr (.inr rfl)
    · exact .inl ⟨i, rfl, nEnd_lt hn⟩
  | none =>
    dsimp only
    split
    · exact .inr (.inr rfl)
    · exact .inr (.inl rfl)

end Go.Proofs.Ytliajejgkinkjaa.plain
