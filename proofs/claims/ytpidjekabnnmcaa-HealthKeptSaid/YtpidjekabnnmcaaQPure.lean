/-
  Given for the seat's laws: rows of keys and ticks, plain: where a key stands, where it goes, one more, one less, a round; a row that is wanted tick by tick. No condition but those of the theorems.
-/
import Derived.Test.YtpidjekabnnmcaaMem
namespace Go.Proofs.Ytpidjekabnnmcaa.pb
set_option linter.unusedVariables false

/-- a row: its key, the tick at which it is due next -/
abbrev Rw := Int × Int
/-- the keys ascend -/
def Asc (l : List Rw) : Prop := ∀ (i j : Nat) (x y : Rw), i < j → l[i]? = some x → l[j]? = some y → x.1 < y.1
/-- where a key stands; the length, if it doesn't -/
def idx (k : Int) : List Rw → Nat
  | [] => 0
  | x :: l => if x.1 = k then 0 else idx k l + 1
def has (k : Int) (l : List Rw) : Bool := decide (idx k l < l.length)
/-- where a key goes: behind those that are not greater -/
def pos (k : Int) : List Rw → Nat
  | [] => 0
  | x :: l => if k < x.1 then 0 else pos k l + 1
def ins (k : Int) (l : List Rw) : List Rw := l.take (pos k l) ++ (k, 0) :: l.drop (pos k l)
def del (k : Int) (l : List Rw) : List Rw := l.take (idx k l) ++ l.drop (idx k l + 1)

theorem idx_le (k : Int) (l : List Rw) : idx k l ≤ l.length := by
  induction l with
  | nil => simp [idx]
  | cons x l ih => unfold idx; split <;> simp <;> omega
theorem idx_get {k : Int} {l : List Rw} (h : idx k l < l.length) : ∃ x, l[idx k l]? = some x ∧ x.1 = k := by
  induction l with
  | nil => simp at h
  | cons y l ih =>
    unfold idx at h ⊢
    by_cases e : y.1 = k
    · rw [if_pos e]; exact ⟨y, by simp, e⟩
    · rw [if_neg e] at h ⊢
      simp at h
      obtain ⟨x, hx, hk⟩ := ih h
      exact ⟨x, by simpa using hx, hk⟩
theorem idx_before {k : Int} {l : List Rw} {i : Nat} {x : Rw} (hi : i < idx k l) (hx : l[i]? = some x) : x.1 ≠ k := by
  induction l generalizing i with
  | nil => simp at hx
  | cons y l ih =>
    unfold idx at hi
    by_cases e : y.1 = k
    · rw [if_pos e] at hi; omega
    · rw [if_neg e] at hi
      cases i with
      | zero => simp at hx; subst hx; exact e
      | succ i =>
        have h2 : l[i]? = some x := by simpa using hx
        exact ih (i := i) (by omega) h2
/-- a key is found where it stands first -/
theorem idx_eq {k : Int} {l : List Rw} {i : Nat} {x : Rw} (hx : l[i]? = some x) (hk : x.1 = k) (hb : ∀ (j : Nat) (y : Rw), j < i → l[j]? = some y → y.1 ≠ k) : idx k l = i := by
  have hl := (List.getElem?_eq_some_iff.1 hx).1
  rcases Nat.lt_trichotomy (idx k l) i with h | h | h
  · have hll : idx k l < l.length := by omega
    obtain ⟨z, hz, hzk⟩ := idx_get hll
    exact absurd hzk (hb _ _ h hz)
  · exact h
  · exact absurd hk (idx_before h hx)
theorem idx_none {k : Int} {l : List Rw} (hb : ∀ (j : Nat) (y : Rw), l[j]? = some y → y.1 ≠ k) : idx k l = l.length := by
  rcases Nat.lt_or_ge (idx k l) l.length with h | h
  · obtain ⟨z, hz, hzk⟩ := idx_get h
    exact absurd hzk (hb _ _ hz)
  · have := idx_le k l; omega

theorem pos_le (k : Int) (l : List Rw) : pos k l ≤ l.length := by
  induction l with
  | nil => simp [pos]
  | cons x l ih => unfold pos; split <;> simp <;> omega
theorem pos_get {k : Int} {l : List Rw} (h : pos k l < l.length) : ∃ x, l[pos k l]? = some x ∧ k < x.1 := by
  induction l with
  | nil => simp at h
  | cons y l ih =>
    unfold pos at h ⊢
    by_cases e : k < y.1
    · rw [if_pos e]; exact ⟨y, by simp, e⟩
    · rw [if_neg e] at h ⊢
      simp at h
      obtain ⟨x, hx, hk⟩ := ih h
      exact ⟨x, by simpa using hx, hk⟩
theorem pos_before {k : Int} {l : List Rw} {i : Nat} {x : Rw} (hi : i < pos k l) (hx : l[i]? = some x) : x.1 ≤ k := by
  induction l generalizing i with
  | nil => simp at hx
  | cons y l ih =>
    unfold pos at hi
    by_cases e : k < y.1
    · rw [if_pos e] at hi; omega
    · rw [if_neg e] at hi
      cases i with
      | zero => simp at hx; subst hx; omega
      | succ i =>
        have h2 : l[i]? = some x := by simpa using hx
        exact ih (i := i) (by omega) h2
theorem pos_eq {k : Int} {l : List Rw} {i : Nat} (hl : i ≤ l.length) (hx : ∀ x, l[i]? = some x → k < x.1) (hb : ∀ (j : Nat) (y : Rw), j < i → l[j]? = some y → y.1 ≤ k) : pos k l = i := by
  rcases Nat.lt_trichotomy (pos k l) i with h | h | h
  · obtain ⟨z, hz, hzk⟩ := pos_get (k := k) (l := l) (by omega)
    have := hb _ _ h hz; omega
  · exact h
  · have hp := pos_le k l
    obtain ⟨z, hz⟩ : ∃ z, l[i]? = some z := ⟨_, List.getElem?_eq_getElem (by omega)⟩
    have h1 := pos_before h hz
    have h2 := hx z hz
    omega
/-- in ascending rows a key that stands there stands just ahead of where it would go -/
theorem idx_pos {k : Int} {l : List Rw} (ha : Asc l) (h : idx k l < l.length) : pos k l = idx k l + 1 := by
  obtain ⟨x, hx, hk⟩ := idx_get h
  refine pos_eq (by omega) (fun y hy => ?_) (fun j y hj hy => ?_)
  · have := ha _ _ _ _ (Nat.lt_succ_self _) hx hy; omega
  · rcases Nat.lt_or_ge j (idx k l) with h1 | h1
    · have := ha _ _ _ _ h1 hy hx; omega
    · obtain rfl : j = idx k l := by omega
      rw [hx] at hy
      cases hy
      omega
theorem ins_len (k : Int) (l : List Rw) : (ins k l).length = l.length + 1 := by
  have := pos_le k l
  unfold ins
  simp
  omega
theorem del_len {k : Int} {l : List Rw} (h : idx k l < l.length) : (del k l).length + 1 = l.length := by
  unfold del
  simp
  omega
theorem ins_get (k : Int) (l : List Rw) (i : Nat) : (ins k l)[i]? = if i < pos k l then l[i]? else if i = pos k l then some (k, 0) else l[i - 1]? := by
  have hp := pos_le k l
  unfold ins
  by_cases h1 : i < pos k l
  · rw [if_pos h1, List.getElem?_append_left (by simp; omega), List.getElem?_take, if_pos h1]
  · rw [if_neg h1, List.getElem?_append_right (by simp; omega)]
    have e : (l.take (pos k l)).length = pos k l := by simp; omega
    rw [e]
    by_cases h2 : i = pos k l
    · rw [if_pos h2, h2]; simp
    · rw [if_neg h2]
      obtain ⟨m, rfl⟩ : ∃ m, i = pos k l + 1 + m := ⟨i - pos k l - 1, by omega⟩
      have e2 : pos k l + 1 + m - pos k l = m + 1 := by omega
      rw [e2, List.getElem?_cons_succ, List.getElem?_drop]
      congr 1
      omega
theorem del_get (k : Int) (l : List Rw) (i : Nat) : (del k l)[i]? = if i < idx k l then l[i]? else l[i + 1]? := by
  have hp := idx_le k l
  unfold del
  by_cases h1 : i < idx k l
  · rw [if_pos h1, List.getElem?_append_left (by simp; omega), List.getElem?_take, if_pos h1]
  · rw [if_neg h1, List.getElem?_append_right (by simp; omega)]
    have e : (l.take (idx k l)).length = idx k l := by simp; omega
    rw [e, List.getElem?_drop]
    congr 1
    omega
theorem asc_ins {k : Int} {l : List Rw} (ha : Asc l) (h : ¬ idx k l < l.length) : Asc (ins k l) := by
  have hne : ∀ (j : Nat) (y : Rw), l[j]? = some y → y.1 ≠ k := fun j y hy => by
    have := (List.getElem?_eq_some_iff.1 hy).1
    exact idx_before (by omega) hy
  intro i j x y hij hx hy
  rw [ins_get] at hx hy
  by_cases h1 : i < pos k l
  · rw [if_pos h1] at hx
    by_cases h2 : j < pos k l
    · rw [if_pos h2] at hy; exact ha i j x y hij hx hy
    · rw [if_neg h2] at hy
      have hxk : x.1 < k := by have := pos_before h1 hx; have := hne _ _ hx; omega
      by_cases h3 : j = pos k l
      · rw [if_pos h3] at hy; cases hy; exact hxk
      · rw [if_neg h3] at hy
        exact ha i (j - 1) x y (by omega) hx hy
  · rw [if_neg h1] at hx
    rw [if_neg (by omega), if_neg (by omega)] at hy
    have hlt := (List.getElem?_eq_some_iff.1 hy).1
    by_cases h3 : i = pos k l
    · rw [if_pos h3] at hx
      cases hx
      obtain ⟨z, hz, hzk⟩ := pos_get (k := k) (l := l) (by omega)
      rcases Nat.lt_or_ge (pos k l) (j - 1) with h4 | h4
      · have := ha _ _ _ _ h4 hz hy; show k < y.1; omega
      · have e : j - 1 = pos k l := by omega
        rw [e, hz] at hy
        cases hy
        exact hzk
    · rw [if_neg h3] at hx
      exact ha (i - 1) (j - 1) x y (by omega) hx hy
theorem asc_del {k : Int} {l : List Rw} (ha : Asc l) : Asc (del k l) := by
  intro i j x y hij hx hy
  rw [del_get] at hx hy
  by_cases h1 : i < idx k l
  · rw [if_pos h1] at hx
    by_cases h2 : j < idx k l
    · rw [if_pos h2] at hy; exact ha i j x y hij hx hy
    · rw [if_neg h2] at hy; exact ha i (j + 1) x y (by omega) hx hy
  · rw [if_neg h1] at hx
    rw [if_neg (by omega)] at hy
    exact ha (i + 1) (j + 1) x y (by omega) hx hy

/-- a round: of each row what it becomes, and whether it is due -/
def wants (w : List Int) (k : Int) : Bool := w.any (· == k)
def isDue (now : Int) (w : List Int) (x : Rw) : Bool := wants w x.1 && decide (x.2 ≤ now)
def after (now ev : Int) (w : List Int) (x : Rw) : Rw := if wants w x.1 then (if x.2 ≤ now then (x.1, now + ev) else x) else (x.1, 0)
def round (now ev : Int) (w : List Int) (l : List Rw) : List Rw := l.map (after now ev w)
def dues (now : Int) (w : List Int) (l : List Rw) : List Int := (l.filter (isDue now w)).map (·.1)
theorem after_key (now ev : Int) (w : List Int) (x : Rw) : (after now ev w x).1 = x.1 := by unfold after; split <;> (try split) <;> rfl
theorem round_len (now ev : Int) (w : List Int) (l : List Rw) : (round now ev w l).length = l.length := by simp [round]
theorem asc_round {now ev : Int} {w : List Int} {l : List Rw} (ha : Asc l) : Asc (round now ev w l) := by
  intro i j x y hij hx hy
  unfold round at hx hy
  rw [List.getElem?_map] at hx hy
  obtain ⟨x0, hx0, rfl⟩ := Option.map_eq_some_iff.1 hx
  obtain ⟨y0, hy0, rfl⟩ := Option.map_eq_some_iff.1 hy
  rw [after_key, after_key]
  exact ha i j x0 y0 hij hx0 hy0
theorem dues_len (now : Int) (w : List Int) (l : List Rw) : (dues now w l).length ≤ l.length := by
  unfold dues
  simp
  exact List.length_filter_le _ _
/-- one row more -/
theorem dues_snoc (now : Int) (w : List Int) (l : List Rw) (x : Rw) : dues now w (l ++ [x]) = dues now w l ++ (if isDue now w x then [x.1] else []) := by
  unfold dues
  rw [List.filter_append, List.map_append]
  congr 1
  cases h : isDue now w x <;> simp [h]

/-- a row that is wanted tick by tick: its Next behind s ticks from t on, at a period ev -/
def nextAt (t ev s : Nat) : Nat := if s = 0 then 0 else t + ev * ((s + ev - 1) / ev)
theorem due_often {t ev s : Nat} (he : 1 ≤ ev) : (nextAt t ev s ≤ t + s) ↔ s % ev = 0 := by
  unfold nextAt
  by_cases h : s = 0
  · subst h; simp
  · rw [if_neg h]
    have h1 := Nat.div_add_mod s ev
    have h2 := Nat.mod_lt s (show 0 < ev by omega)
    generalize hq : s / ev = q at *
    generalize hr : s % ev = r at *
    by_cases h3 : r = 0
    · have e : (s + ev - 1) / ev = q := by
        rw [← h1, h3]
        have : ev * q + 0 + ev - 1 = ev * q + (ev - 1) := by omega
        rw [this, Nat.mul_add_div (by omega), Nat.div_eq_of_lt (by omega)]
        rfl
      rw [e]
      omega
    · have e : (s + ev - 1) / ev = q + 1 := by
        have : s + ev - 1 = ev * (q + 1) + (r - 1) := by rw [Nat.mul_add]; omega
        rw [this, Nat.mul_add_div (by omega), Nat.div_eq_of_lt (by omega)]
      rw [e, Nat.mul_add]
      omega
theorem next_due {t ev s : Nat} (he : 1 ≤ ev) (h : s % ev = 0) : nextAt t ev (s + 1) = t + s + ev := by
  unfold nextAt
  rw [if_neg (by omega)]
  have h1 := Nat.div_add_mod s ev
  have e : (s + 1 + ev - 1) / ev = s / ev + 1 := by
    have : s + 1 + ev - 1 = s + ev := by omega
    rw [this, Nat.add_div_right _ (by omega)]
  rw [e, Nat.mul_add]
  omega
theorem next_not {t ev s : Nat} (he : 1 ≤ ev) (h : s % ev ≠ 0) : nextAt t ev (s + 1) = nextAt t ev s := by
  have h0 : s ≠ 0 := by intro e; subst e; simp at h
  unfold nextAt
  rw [if_neg (by omega), if_neg h0]
  have h1 := Nat.div_add_mod s ev
  have h2 := Nat.mod_lt s (show 0 < ev by omega)
  generalize hq : s / ev = q at *
  generalize hr : s % ev = r at *
  have e1 : (s + ev - 1) / ev = q + 1 := by
    have : s + ev - 1 = ev * (q + 1) + (r - 1) := by rw [Nat.mul_add]; omega
    rw [this, Nat.mul_add_div (by omega), Nat.div_eq_of_lt (by omega)]
  have e2 : (s + 1 + ev - 1) / ev = q + 1 := by
    have : s + 1 + ev - 1 = ev * (q + 1) + r := by rw [Nat.mul_add]; omega
    rw [this, Nat.mul_add_div (by omega), Nat.div_eq_of_lt (by omega)]
  rw [e1, e2]
end Go.Proofs.Ytpidjekabnnmcaa.pb
