/-
  Given for the seat's laws: plain facts on lists of rows that rise by id. No program, no memory. No condition but those of the theorems.
-/
import Derived.Test.YtcecdcdnjbndiaaBin
import Derived.Test.YtcecdcdnjbndiaaDelete
namespace Go.Proofs.Ytcecdcdnjbndiaa.find
set_option linter.unusedVariables false

/-- is there a row of that id? -/
def Has (R : List (Int × Int)) (id : Int) : Prop := ∃ v, (id, v) ∈ R
def insR (x : Int × Int) : List (Int × Int) → List (Int × Int)
  | [] => [x]
  | y :: r => if x.1 < y.1 then x :: y :: r else y :: insR x r
def delR (id : Int) (R : List (Int × Int)) : List (Int × Int) := R.filter fun y => decide (y.1 ≠ id)
def setR (id v : Int) (R : List (Int × Int)) : List (Int × Int) := R.map fun y => if y.1 = id then (id, v) else y

theorem has_get {R : List (Int × Int)} {id : Int} (h : Has R id) : ∃ (k : Nat) (v : Int), R[k]? = some (id, v) := by
  obtain ⟨v, hv⟩ := h
  obtain ⟨k, hk⟩ := List.getElem?_of_mem hv
  exact ⟨k, v, hk⟩
theorem get_has {R : List (Int × Int)} {id v : Int} {k : Nat} (h : R[k]? = some (id, v)) : Has R id := ⟨v, List.mem_of_getElem? h⟩

theorem sorted_uniq {R : List (Int × Int)} (h : Sorted R) {i j : Nat} {x y : Int × Int} (hx : R[i]? = some x) (hy : R[j]? = some y) (e : x.1 = y.1) : i = j := by
  rcases Nat.lt_trichotomy i j with hl | hl | hl
  · have := sorted_at h hl hx hy; omega
  · exact hl
  · have := sorted_at h hl hy hx; omega

theorem mem_uniq {R : List (Int × Int)} (h : Sorted R) {id a b : Int} (ha : (id, a) ∈ R) (hb : (id, b) ∈ R) : a = b := by
  obtain ⟨i, hi⟩ := List.getElem?_of_mem ha
  obtain ⟨j, hj⟩ := List.getElem?_of_mem hb
  have := sorted_uniq h hi hj rfl
  subst this
  rw [hi] at hj
  cases hj
  rfl

/-- what find tells where the id is there -/
theorem Finds.in_ {R : List (Int × Int)} {id v : Int} {k j : Nat} {u : Bool} (hs : Sorted R) (hf : Finds R id k u) (h : R[j]? = some (id, v)) : k = j ∧ u = true := by
  have hkj : k ≤ j := by
    rcases Nat.lt_or_ge j k with hl | hl
    · have := hf.lo j _ hl h
      exact absurd this (Int.lt_irrefl _)
    · exact hl
  have hjk : ¬ k < j := fun hl => by
    have hk := (List.getElem?_eq_some_iff.1 h).1
    obtain ⟨x, hx⟩ : ∃ x, R[k]? = some x := ⟨_, List.getElem?_eq_getElem (by omega)⟩
    have h1 := hf.hi k x (Nat.le_refl _) hx
    have h2 := sorted_at hs hl hx h
    dsimp only at h2
    omega
  obtain rfl : k = j := by omega
  exact ⟨rfl, hf.used.2 ⟨_, h, rfl⟩⟩

theorem Finds.out {R : List (Int × Int)} {id : Int} {k : Nat} {u : Bool} (hf : Finds R id k u) (h : ¬ Has R id) : u = false := by
  cases u with
  | false => rfl
  | true =>
    obtain ⟨x, hx, rfl⟩ := hf.used.1 rfl
    exact absurd ⟨x.2, List.mem_of_getElem? hx⟩ h

theorem insR_perm (x : Int × Int) : ∀ R : List (Int × Int), (insR x R).Perm (x :: R)
  | [] => .refl _
  | y :: r => by
    unfold insR
    split
    · exact .refl _
    · exact ((insR_perm x r).cons y).trans (.swap x y r)
theorem mem_insR {x y : Int × Int} {R : List (Int × Int)} : y ∈ insR x R ↔ y = x ∨ y ∈ R := by rw [(insR_perm x R).mem_iff, List.mem_cons]
theorem length_insR (x : Int × Int) (R : List (Int × Int)) : (insR x R).length = R.length + 1 := (insR_perm x R).length_eq
theorem sorted_insR {x : Int × Int} : ∀ {R : List (Int × Int)}, Sorted R → ¬ Has R x.1 → Sorted (insR x R)
  | [], _, _ => List.pairwise_singleton _ _
  | y :: r, h, hn => by
    obtain ⟨h1, h2⟩ := List.pairwise_cons.1 h
    unfold insR
    split
    · rename_i hlt
      refine List.pairwise_cons.2 ⟨fun z hz => ?_, h⟩
      rcases List.mem_cons.1 hz with rfl | hz
      · exact hlt
      · exact Int.lt_trans hlt (h1 z hz)
    · rename_i hlt
      have hne : y.1 ≠ x.1 := fun e => hn ⟨y.2, by rw [← e]; exact List.mem_cons_self ..⟩
      refine List.pairwise_cons.2 ⟨fun z hz => ?_, sorted_insR h2 (fun ⟨v, hv⟩ => hn ⟨v, List.mem_cons_of_mem _ hv⟩)⟩
      rcases mem_insR.1 hz with rfl | hz
      · omega
      · exact h1 z hz

theorem ins_eq {x : Int × Int} : ∀ {R : List (Int × Int)} {k : Nat}, Sorted R → (∀ (j : Nat) (y : Int × Int), j < k → R[j]? = some y → y.1 < x.1) → (∀ (j : Nat) (y : Int × Int), k ≤ j → R[j]? = some y → x.1 ≤ y.1) → ¬ Has R x.1 → k ≤ R.length → ins R k x = insR x R
  | [], k, _, _, _, _, hk => by simp [ins, insR]
  | y :: r, 0, h, _, hi, hn, hk => by
    have h1 := hi 0 y (Nat.le_refl _) rfl
    have hne : y.1 ≠ x.1 := fun e => hn ⟨y.2, by rw [← e]; exact List.mem_cons_self ..⟩
    unfold insR
    rw [if_pos (by omega)]
    rfl
  | y :: r, k + 1, h, lo, hi, hn, hk => by
    have h1 := lo 0 y (by omega) rfl
    unfold insR
    rw [if_neg (by omega)]
    have := ins_eq (R := r) (k := k) (x := x) (List.pairwise_cons.1 h).2 (fun j z hj hz => lo (j + 1) z (by omega) (by simpa using hz)) (fun j z hj hz => hi (j + 1) z (by omega) (by simpa using hz))
      (fun ⟨v, hv⟩ => hn ⟨v, List.mem_cons_of_mem _ hv⟩) (by simpa using hk)
    rw [← this]
    rfl

theorem del_eq {id v : Int} : ∀ {R : List (Int × Int)} {k : Nat}, Sorted R → R[k]? = some (id, v) → del R k = delR id R
  | [], k, _, h => by simp at h
  | y :: r, 0, h, hk => by
    simp at hk
    subst hk
    have h1 := (List.pairwise_cons.1 h).1
    unfold delR
    rw [List.filter_cons_of_neg (by simp), List.filter_eq_self.2 (fun z hz => by have := h1 z hz; simp; omega)]
    rfl
  | y :: r, k + 1, h, hk => by
    have h1 := (List.pairwise_cons.1 h).1
    have hk' : r[k]? = some (id, v) := by simpa using hk
    have hlt := h1 _ (List.mem_of_getElem? hk')
    have := del_eq (List.pairwise_cons.1 h).2 hk'
    unfold delR at this ⊢
    rw [List.filter_cons_of_pos (by simp; omega), ← this]
    rfl

theorem set_eq {id v u : Int} : ∀ {R : List (Int × Int)} {k : Nat}, Sorted R → R[k]? = some (id, v) → R.set k (id, u) = setR id u R
  | [], k, _, h => by simp at h
  | y :: r, 0, h, hk => by
    simp at hk
    subst hk
    have h1 := (List.pairwise_cons.1 h).1
    unfold setR
    rw [List.set_cons_zero, List.map_cons, if_pos rfl]
    congr 1
    conv => lhs; rw [← List.map_id r]
    refine List.map_congr_left fun z hz => ?_
    rw [if_neg (by have := h1 z hz; dsimp only at this; omega)]
    rfl
  | y :: r, k + 1, h, hk => by
    have h1 := (List.pairwise_cons.1 h).1
    have hk' : r[k]? = some (id, v) := by simpa using hk
    have hlt := h1 _ (List.mem_of_getElem? hk')
    have := set_eq (u := u) (List.pairwise_cons.1 h).2 hk'
    unfold setR at this ⊢
    rw [List.set_cons_succ, List.map_cons, this, if_neg (by dsimp only at hlt; omega)]

theorem sorted_delR {id : Int} {R : List (Int × Int)} (h : Sorted R) : Sorted (delR id R) := h.filter _
theorem mem_delR {id : Int} {y : Int × Int} {R : List (Int × Int)} : y ∈ delR id R ↔ y ∈ R ∧ y.1 ≠ id := by simp [delR]
theorem length_delR {id v : Int} {R : List (Int × Int)} {k : Nat} (h : Sorted R) (hk : R[k]? = some (id, v)) : (delR id R).length = R.length - 1 := by
  rw [← del_eq h hk, length_del _ _ (List.getElem?_eq_some_iff.1 hk).1]
theorem sorted_setR {id v : Int} {R : List (Int × Int)} (h : Sorted R) : Sorted (setR id v R) := by
  refine List.pairwise_map.2 (h.imp fun {a b} hab => ?_)
  split <;> split <;> simp_all
theorem length_setR (id v : Int) (R : List (Int × Int)) : (setR id v R).length = R.length := List.length_map ..
theorem has_insR {x : Int × Int} {R : List (Int × Int)} {id : Int} : Has (insR x R) id ↔ id = x.1 ∨ Has R id := by
  constructor
  · rintro ⟨v, hv⟩
    rcases mem_insR.1 hv with e | h
    · left; rw [← e]
    · exact .inr ⟨v, h⟩
  · rintro (rfl | ⟨v, h⟩)
    · exact ⟨x.2, mem_insR.2 (.inl rfl)⟩
    · exact ⟨v, mem_insR.2 (.inr h)⟩
theorem has_delR {id : Int} {R : List (Int × Int)} {j : Int} : Has (delR id R) j ↔ Has R j ∧ j ≠ id := by
  constructor
  · rintro ⟨v, hv⟩
    have := mem_delR.1 hv
    exact ⟨⟨v, this.1⟩, this.2⟩
  · rintro ⟨⟨v, hv⟩, hne⟩
    exact ⟨v, mem_delR.2 ⟨hv, hne⟩⟩
theorem mem_setR {id v : Int} {R : List (Int × Int)} {y : Int × Int} : y ∈ setR id v R ↔ (y.1 ≠ id ∧ y ∈ R) ∨ (y = (id, v) ∧ Has R id) := by
  unfold setR
  rw [List.mem_map]
  constructor
  · rintro ⟨z, hz, rfl⟩
    split
    · rename_i e
      exact .inr ⟨rfl, z.2, by rw [← e]; exact hz⟩
    · rename_i e
      exact .inl ⟨e, hz⟩
  · rintro (⟨hne, hy⟩ | ⟨rfl, u, hu⟩)
    · exact ⟨y, hy, if_neg hne⟩
    · exact ⟨_, hu, if_pos rfl⟩
theorem has_setR {id v : Int} {R : List (Int × Int)} {j : Int} : Has (setR id v R) j ↔ Has R j := by
  constructor
  · rintro ⟨u, hu⟩
    rcases mem_setR.1 hu with ⟨_, h⟩ | ⟨e, h⟩
    · exact ⟨u, h⟩
    · cases e; exact h
  · rintro ⟨u, hu⟩
    by_cases e : j = id
    · subst e; exact ⟨v, mem_setR.2 (.inr ⟨rfl, u, hu⟩)⟩
    · exact ⟨u, mem_setR.2 (.inl ⟨e, hu⟩)⟩

end Go.Proofs.Ytcecdcdnjbndiaa.find
