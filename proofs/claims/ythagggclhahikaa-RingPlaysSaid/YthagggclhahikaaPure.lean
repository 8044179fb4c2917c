/-
  Given for the seat's laws: plain facts on lists of numbers: what two pieces laid into a store make of what a ring holds. No program, no memory. No condition but those of the theorems.
-/
namespace Go.Proofs.Ythagggclhahikaa.plain

/-- xs laid over zs from place o on -/
def lay {α : Type} (zs : List α) (o : Nat) (xs : List α) : List α := zs.take o ++ xs ++ zs.drop (o + xs.length)

theorem length_lay {α : Type} (zs : List α) (o : Nat) (xs : List α) (h : o + xs.length ≤ zs.length) : (lay zs o xs).length = zs.length := by simp [lay]; omega

theorem map_lay {α β : Type} (f : α → β) (zs : List α) (o : Nat) (xs : List α) : (lay zs o xs).map f = lay (zs.map f) o (xs.map f) := by simp [lay, List.map_take, List.map_drop]

theorem getD_lay (zs : List Int) (o : Nat) (xs : List Int) (h : o + xs.length ≤ zs.length) (k : Nat) :
    (lay zs o xs).getD k 0 = if o ≤ k ∧ k < o + xs.length then xs.getD (k - o) 0 else zs.getD k 0 := by
  have e : (lay zs o xs)[k]? = if o ≤ k ∧ k < o + xs.length then xs[k - o]? else zs[k]? := by
    unfold lay
    by_cases h1 : k < o
    · rw [if_neg (by omega), List.append_assoc, List.getElem?_append_left (by simp; omega), List.getElem?_take, if_pos h1]
    · by_cases h2 : k < o + xs.length
      · rw [if_pos ⟨by omega, h2⟩, List.append_assoc, List.getElem?_append_right (by simp; omega), List.getElem?_append_left (by simp; omega)]
        congr 1
        simp
        omega
      · rw [if_neg (by omega), List.getElem?_append_right (by simp; omega), List.getElem?_drop]
        congr 1
        simp
        omega
  simp only [List.getD_eq_getElem?_getD, e]
  split <;> rfl

theorem mod_case {a N : Nat} (h : a < 2 * N) : a % N = if a < N then a else a - N := by
  by_cases h1 : a < N
  · rw [if_pos h1, Nat.mod_eq_of_lt h1]
  · rw [if_neg h1, Nat.mod_eq_sub_mod (by omega), Nat.mod_eq_of_lt (by omega)]

/-- the bytes that are held, in order -/
def held (zs : List Int) (first n : Nat) : List Int := (List.range n).map fun j => zs.getD ((first + j) % zs.length) 0
theorem length_held (zs : List Int) (first n : Nat) : (held zs first n).length = n := by simp [held]

theorem getD_held (zs : List Int) (first n j : Nat) (h : j < n) : (held zs first n)[j]? = some (zs.getD ((first + j) % zs.length) 0) := by simp [held, h]

/-- one piece laid: the store, and what is left -/
def putStep (st : List Int × List Int) (x : Nat × Nat) : List Int × List Int := (lay st.1 x.1 (st.2.take x.2), st.2.drop x.2)
def putAll (st : List Int × List Int) (pre : List (Nat × Nat)) : List Int × List Int := pre.foldl putStep st
theorem putAll_snoc (st : List Int × List Int) (pre : List (Nat × Nat)) (x : Nat × Nat) : putAll st (pre ++ [x]) = putStep (putAll st pre) x := by simp [putAll]

theorem put_two (zs rem : List Int) (N first h n f t r : Nat) (hz : zs.length = N) (hr : rem.length = n) (h1 : first < N) (h2 : h + n ≤ N) (hn : 0 < n)
    (hf : f = (first + h) % N) (ht : t = min (f + n) N) (hrr : r = n - (t - f)) :
    held (putAll (zs, rem) [(f, t - f), (0, r)]).1 first (h + n) = held zs first h ++ rem ∧ (putAll (zs, rem) [(f, t - f), (0, r)]).1.length = N := by
  have hf' := mod_case (a := first + h) (N := N) (by omega)
  rw [← hf] at hf'
  have hfl : f < N := by rw [hf]; exact Nat.mod_lt _ (by omega)
  have htf : f < t := by omega
  have e : (putAll (zs, rem) [(f, t - f), (0, r)]).1 = lay (lay zs f (rem.take (t - f))) 0 ((rem.drop (t - f)).take r) := rfl
  have l1 : (rem.take (t - f)).length = t - f := by simp; omega
  have l2 : ((rem.drop (t - f)).take r).length = r := by simp; omega
  have hl1 : (lay zs f (rem.take (t - f))).length = N := by rw [length_lay _ _ _ (by omega), hz]
  have hl2 : (lay (lay zs f (rem.take (t - f))) 0 ((rem.drop (t - f)).take r)).length = N := by rw [length_lay _ _ _ (by omega), hl1]
  rw [e]
  refine ⟨?_, hl2⟩
  apply List.ext_getElem?
  intro j
  by_cases hj : j < h + n
  · rw [getD_held _ _ _ _ hj, hl2]
    have hp := mod_case (a := first + j) (N := N) (by omega)
    generalize (first + j) % N = p at hp
    rw [getD_lay _ _ _ (by omega), getD_lay _ _ _ (by omega), l1, l2]
    by_cases hjh : j < h
    · rw [List.getElem?_append_left (by rw [length_held]; exact hjh), getD_held _ _ _ _ hjh, hz, mod_case (a := first + j) (N := N) (by omega), ← hp]
      rw [if_neg (by split at hp <;> split at hf' <;> omega), if_neg (by split at hp <;> split at hf' <;> omega)]
    · rw [List.getElem?_append_right (by rw [length_held]; omega), length_held]
      have hg : ∀ i, i < n → rem[i]? = some (rem.getD i 0) := fun i hi => by
        rw [List.getD_eq_getElem?_getD, List.getElem?_eq_getElem (by omega)]; rfl
      rw [hg (j - h) (by omega)]
      by_cases hb : p < r
      · rw [if_pos (by omega)]
        have : (List.take r (List.drop (t - f) rem)).getD (p - 0) 0 = rem.getD (t - f + p) 0 := by
          simp [List.getD_eq_getElem?_getD, hb, List.getElem?_drop]
        rw [this]
        congr 2
        split at hp <;> split at hf' <;> omega
      · rw [if_neg (by omega), if_pos (by split at hp <;> split at hf' <;> omega)]
        have : (List.take (t - f) rem).getD (p - f) 0 = rem.getD (p - f) 0 := by
          have : p - f < t - f := by split at hp <;> split at hf' <;> omega
          simp [List.getD_eq_getElem?_getD, this]
        rw [this]
        congr 2
        split at hp <;> split at hf' <;> omega
  · rw [List.getElem?_eq_none (by rw [length_held]; omega), List.getElem?_eq_none (by rw [List.length_append, length_held]; omega)]

/-- the pieces that are read -/
def readAll (zs : List Int) (pre : List (Nat × Nat)) : List Int := pre.flatMap fun x => (zs.drop x.1).take x.2
theorem readAll_snoc (zs : List Int) (pre : List (Nat × Nat)) (x : Nat × Nat) : readAll zs (pre ++ [x]) = readAll zs pre ++ (zs.drop x.1).take x.2 := by simp [readAll]

theorem read_two (zs : List Int) (N first n f t r : Nat) (hz : zs.length = N) (h1 : first < N) (h2 : n ≤ N) (hn : 0 < n) (hf : f = (first + 0) % N) (ht : t = min (f + n) N) (hrr : r = n - (t - f)) :
    readAll zs [(f, t - f), (0, r)] = held zs first n := by
  have hf' : f = first := by rw [hf, Nat.add_zero, Nat.mod_eq_of_lt h1]
  subst hf'
  have e : readAll zs [(f, t - f), (0, r)] = (zs.drop f).take (t - f) ++ (zs.drop 0).take r := by simp [readAll]
  rw [e]
  have l1 : ((zs.drop f).take (t - f)).length = t - f := by simp; omega
  apply List.ext_getElem?
  intro j
  have hg : ∀ i, i < N → zs[i]? = some (zs.getD i 0) := fun i hi => by
    rw [List.getD_eq_getElem?_getD, List.getElem?_eq_getElem (by omega)]; rfl
  by_cases hj : j < n
  · rw [getD_held _ _ _ _ hj, hz, mod_case (a := f + j) (N := N) (by omega)]
    by_cases hlt : j < t - f
    · rw [List.getElem?_append_left (by omega), List.getElem?_take, if_pos hlt, List.getElem?_drop, if_pos (by omega), hg _ (by omega)]
    · rw [List.getElem?_append_right (by omega), l1, List.getElem?_take, if_pos (by omega), List.drop_zero, if_neg (by omega), hg _ (by omega)]
      congr 2
      omega
  · rw [List.getElem?_eq_none (by simp; omega), List.getElem?_eq_none (by rw [length_held]; omega)]

theorem held_take (zs : List Int) (first h n : Nat) (hn : n ≤ h) : (held zs first h).take n = held zs first n := by
  apply List.ext_getElem?
  intro j
  rw [List.getElem?_take]
  by_cases hj : j < n
  · rw [if_pos hj, getD_held _ _ _ _ (by omega), getD_held _ _ _ _ hj]
  · rw [if_neg hj, List.getElem?_eq_none (by rw [length_held]; omega)]

theorem held_drop (zs : List Int) (N first h n : Nat) (hz : zs.length = N) (hn : n ≤ h) : held zs ((first + n) % N) (h - n) = (held zs first h).drop n := by
  apply List.ext_getElem?
  intro j
  rw [List.getElem?_drop]
  by_cases hj : j < h - n
  · rw [getD_held _ _ _ _ hj, getD_held _ _ _ _ (by omega), hz]
    congr 2
    rw [Nat.mod_add_mod, Nat.add_assoc]
  · rw [List.getElem?_eq_none (by rw [length_held]; omega), List.getElem?_eq_none (by rw [length_held]; omega)]

end Go.Proofs.Ythagggclhahikaa.plain
