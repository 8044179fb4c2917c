/-
  Given for the seat's laws: plain facts on lines, each with its end. No program, no memory.
-/
import Derived.Test.YtliajejgkinkjaaPure
import Derived.Laws.BytesArg
import Derived.Shelf.Spec.RuneCount
namespace Go.Proofs.Ytliajejgkinkjaa.plain
open Go

def ints (s : ByteArray) : List Int := s.data.toList.map fun c => (c.toNat : Int)
theorem ints_length (s : ByteArray) : (ints s).length = s.size := by
  have : s.size = s.data.size := rfl
  rw [this]
  simp [ints]
theorem ints_str (s : ByteArray) : strOfNums (ints s) = s := by
  apply ByteArray.ext
  apply Array.toList_inj.1
  rw [strOfNums_data]
  unfold ints
  rw [List.map_map]
  conv => rhs; rw [← List.map_id s.data.toList]
  apply List.map_congr_left
  intro x _
  simp
theorem ints_rng (s : ByteArray) : ∀ x ∈ ints s, 0 ≤ x ∧ x < 256 := by
  intro x hx
  obtain ⟨c, _, rfl⟩ := List.mem_map.1 hx
  have := c.toNat_lt
  omega
theorem ints_get {s : ByteArray} {k : Nat} (h : k < s.size) : (ints s)[k]? = some ((s[k].toNat : Int)) := by
  unfold ints
  rw [List.getElem?_map, Array.getElem?_toList, Array.getElem?_eq_getElem (show k < s.data.size from h)]
  rfl

/-- lines, each with its end, one behind the other -/
def enc : List ByteArray → List Int
  | [] => []
  | s :: r => ints s ++ 13 :: 10 :: enc r
theorem enc_append : ∀ a b : List ByteArray, enc (a ++ b) = enc a ++ enc b
  | [], b => rfl
  | s :: r, b => by
    show ints s ++ 13 :: 10 :: enc (r ++ b) = (ints s ++ 13 :: 10 :: enc r) ++ enc b
    rw [enc_append r b]
    simp
theorem enc_snoc (a : List ByteArray) (s : ByteArray) : enc (a ++ [s]) = enc a ++ (ints s ++ [13, 10]) := by
  rw [enc_append]
  rfl
theorem enc_rng : ∀ (l : List ByteArray), ∀ x ∈ enc l, 0 ≤ x ∧ x < 256
  | [], x, hx => by cases hx
  | s :: r, x, hx => by
    rcases List.mem_append.1 (show x ∈ ints s ++ 13 :: 10 :: enc r from hx) with h | h
    · exact ints_rng s x h
    · simp at h
      rcases h with rfl | rfl | h
      · decide
      · decide
      · exact enc_rng r x h
theorem enc_len : ∀ (l : List ByteArray), (∀ s ∈ l, s.size ≤ 100) → (enc l).length ≤ 102 * l.length
  | [], _ => Nat.zero_le _
  | s :: r, h => by
    have h1 := h s (List.mem_cons_self ..)
    have h2 := enc_len r (fun x hx => h x (List.mem_cons_of_mem _ hx))
    show (ints s ++ 13 :: 10 :: enc r).length ≤ _
    simp only [List.length_append, List.length_cons, ints_length]
    omega
/-- what is left behind the first i lines -/
theorem enc_drop (l : List ByteArray) (i : Nat) : (enc l).drop (enc (l.take i)).length = enc (l.drop i) := by
  conv => lhs; rw [← List.take_append_drop i l, enc_append, List.take_append_drop]
  rw [List.drop_left]
theorem enc_next {l : List ByteArray} {i : Nat} {s : ByteArray} (h : l[i]? = some s) : (enc (l.take (i + 1))).length = (enc (l.take i)).length + (s.size + 2) := by
  rw [List.take_add_one, h]
  show (enc (l.take i ++ [s])).length = _
  rw [enc_snoc]
  simp only [List.length_append, ints_length, List.length_cons, List.length_nil]
theorem enc_at {l : List ByteArray} {i : Nat} {s : ByteArray} (h : l[i]? = some s) : enc (l.drop i) = ints s ++ 13 :: 10 :: enc (l.drop (i + 1)) := by
  have hlt := (List.getElem?_eq_some_iff.1 h).1
  rw [List.drop_eq_getElem_cons hlt, (List.getElem?_eq_some_iff.1 h).2]
  rfl

def noEnd (s : ByteArray) : Prop := ∀ j, ¬ endAt (ints s) j

theorem nEnd_here {s : ByteArray} (h : noEnd s) (r : List Int) : nEnd (ints s ++ 13 :: 10 :: r) = some s.size := by
  refine nEnd_of ⟨?_, ?_⟩ (fun j hj he => ?_)
  · rw [List.getElem?_append_right (by rw [ints_length]; exact Nat.le_refl _), ints_length, Nat.sub_self]
    rfl
  · rw [List.getElem?_append_right (by rw [ints_length]; omega), ints_length, show s.size + 1 - s.size = 1 by omega]
    rfl
  · rcases Nat.lt_or_ge (j + 1) s.size with h1 | h1
    · exact h j ((endAt_more (by rw [ints_length]; exact h1)).1 he)
    · have hj1 : j + 1 = s.size := by omega
      have h10 := he.2
      rw [hj1, List.getElem?_append_right (by rw [ints_length]; exact Nat.le_refl _), ints_length, Nat.sub_self] at h10
      simp at h10

theorem lineF_long {s : ByteArray} (h : noEnd s) (r : List Int) {m : Int} (hm : m < (s.size : Int)) : lineF (ints s ++ 13 :: 10 :: r) m = (0, 6) := by
  unfold lineF
  rw [nEnd_here h r]
  exact if_pos hm
theorem lineF_here {s : ByteArray} (h : noEnd s) (r : List Int) {m : Int} (hm : ¬ m < (s.size : Int)) : lineF (ints s ++ 13 :: 10 :: r) m = ((s.size : Int), 0) := by
  unfold lineF
  rw [nEnd_here h r]
  exact if_neg hm
theorem lineF_nil {m : Int} (hm : 0 ≤ m) : lineF [] m = (0, 5) := by
  unfold lineF
  show (if m < ((bare [] : Nat) : Int) then _ else _) = _
  exact if_neg (by have : bare [] = 0 := rfl; omega)

/-- no end has been found within -/
theorem noEnd_of {s : ByteArray} (h : ∀ j, (h1 : j + 1 < s.size) → ¬ ((s[j].toNat : Int) = 13 ∧ (s[j + 1].toNat : Int) = 10)) : noEnd s := fun j he => by
  have h1 := (List.getElem?_eq_some_iff.1 he.2).1
  rw [ints_length] at h1
  have a := he.1
  have b := he.2
  rw [ints_get (by omega)] at a
  rw [ints_get h1] at b
  exact h j h1 ⟨Option.some.inj a, Option.some.inj b⟩

end Go.Proofs.Ytliajejgkinkjaa.plain
