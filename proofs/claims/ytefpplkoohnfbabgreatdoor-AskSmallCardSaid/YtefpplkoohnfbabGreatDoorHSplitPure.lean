/-
  Given for the seat's laws: how the library cuts texts, in the words of the plain functions. No program, no memory.
-/
import Derived.Test.YtefpplkoohnfbabGreatDoorHLab
import Derived.Lib.SplitLaws
import Derived.Lib.IndexBytes
import Derived.Lib.Replace
namespace Go.Proofs.YtefpplkoohnfbabGreatDoor.hw
open hostp
set_option linter.unusedVariables false

theorem ix_free {c : UInt8} : ∀ {x : Str}, c ∉ x → Lib.indexByte x c = -1
  | [], _ => rfl
  | a :: x, h => by
    simp only [List.mem_cons, not_or] at h
    unfold Lib.indexByte
    rw [ix_free h.2]
    have : (a == c) = false := beq_eq_false_iff_ne.2 (fun e => h.1 e.symm)
    simp [this]
theorem ix_put {c : UInt8} : ∀ {x : Str} (r : Str), c ∉ x → Lib.indexByte (x ++ c :: r) c = x.length
  | [], r, _ => by simp [Lib.indexByte]
  | a :: x, r, h => by
    simp only [List.mem_cons, not_or] at h
    rw [List.cons_append]
    unfold Lib.indexByte
    rw [ix_put r h.2]
    have : (a == c) = false := beq_eq_false_iff_ne.2 (fun e => h.1 e.symm)
    simp [this]
theorem mem_parts {c : UInt8} : ∀ {l : Str}, c ∈ l → ∃ x r, l = x ++ c :: r ∧ c ∉ x
  | [], h => by simp at h
  | a :: l, h => by
    by_cases ha : a = c
    · subst ha; exact ⟨[], l, rfl, by simp⟩
    · have hl : c ∈ l := by
        rcases List.mem_cons.1 h with e | e
        · exact absurd e.symm ha
        · exact e
      obtain ⟨x, r, e, hx⟩ := mem_parts hl
      exact ⟨a :: x, r, by rw [e]; rfl, by simp only [List.mem_cons, not_or]; exact ⟨fun e => ha e.symm, hx⟩⟩
theorem ix_mem (c : UInt8) (l : Str) : decide (0 ≤ Lib.indexByte l c) = decide (c ∈ l) := by
  by_cases h : c ∈ l
  · obtain ⟨x, r, e, hx⟩ := mem_parts h
    rw [decide_eq_true h, e, ix_put r hx]
    exact decide_eq_true (by omega)
  · rw [decide_eq_false h, ix_free h]
    rfl
/-- the library's cutting, up to so many cuts -/
theorem splitK_cut (a : UInt8) : ∀ (k : Nat) (l : Str), Lib.splitK [a] 0 k l = if (cut a l).length ≤ k then cut a l else (cut a l).take k ++ [join a ((cut a l).drop k)]
  | 0, l => by
    have := List.length_pos_iff.2 (cut_ne a l)
    rw [if_neg (by omega), List.drop_zero, join_cut]
    rfl
  | k + 1, l => by
    unfold Lib.splitK
    by_cases h : a ∈ l
    · obtain ⟨x, r, e, hx⟩ := mem_parts h
      have hi : Lib.index l [a] = (x.length : Int) := by rw [Lib.index_one, e, ix_put r hx]
      rw [hi, if_neg (fun e => by have := beq_iff_eq.1 e; omega), Int.toNat_natCast, splitK_cut a k, e, cut_append r hx]
      have e1 : (x ++ a :: r).take (x.length + 0) = x := by simp
      have e2 : (x ++ a :: r).drop (x.length + [a].length) = r := by simp
      rw [e1, e2, List.length_cons]
      by_cases h2 : (cut a r).length ≤ k
      · rw [if_pos h2, if_pos (by omega)]
      · rw [if_neg h2, if_neg (by omega)]
        rfl
    · have hi : Lib.index l [a] = -1 := by rw [Lib.index_one, ix_free h]
      rw [hi, if_pos (by simp), cut_free h, if_pos (by simp)]
theorem cut_len (a : UInt8) : ∀ l : Str, (cut a l).length ≤ l.length + 1
  | [] => by simp [cut]
  | c :: r => by
    have ih := cut_len a r
    obtain ⟨x, t, he⟩ : ∃ x t, cut a r = x :: t := by
      cases h : cut a r with
      | nil => exact absurd h (cut_ne a r)
      | cons x t => exact ⟨x, t, rfl⟩
    by_cases hc : c = a
    · subst hc
      rw [cut_at, List.length_cons, List.length_cons]
      omega
    · rw [cut_other hc r he, List.length_cons]
      rw [he, List.length_cons] at ih
      rw [List.length_cons]
      omega
/-- at most n pieces, the last one whatever is left -/
def upto (a : UInt8) (n : Nat) (l : Str) : List Str := if (cut a l).length ≤ n then cut a l else (cut a l).take (n - 1) ++ [join a ((cut a l).drop (n - 1))]
theorem splitK_upto (a : UInt8) {n : Nat} (hn : 1 ≤ n) (l : Str) : Lib.splitK [a] 0 (min n (l.length + 1) - 1) l = upto a n l := by
  have h1 := cut_len a l
  have h0 := List.length_pos_iff.2 (cut_ne a l)
  rw [splitK_cut]
  unfold upto
  have last : ∀ k, (cut a l).length = k + 1 → (cut a l).take k ++ [join a ((cut a l).drop k)] = cut a l := fun k hk => by
    have : (cut a l).drop k = [(cut a l)[k]] := by
      rw [List.drop_eq_getElem_cons (by omega), List.drop_eq_nil_of_le (by omega)]
    have h := List.take_append_drop k (cut a l)
    rw [this] at h ⊢
    exact h
  by_cases h2 : n ≤ l.length + 1
  · rw [Nat.min_eq_left h2]
    by_cases h3 : (cut a l).length ≤ n
    · rw [if_pos h3]
      by_cases h4 : (cut a l).length ≤ n - 1
      · rw [if_pos h4]
      · rw [if_neg h4]
        exact last (n - 1) (by omega)
    · rw [if_neg h3, if_neg (by omega)]
  · rw [Nat.min_eq_right (by omega), if_pos (show (cut a l).length ≤ n by omega)]
    by_cases h4 : (cut a l).length ≤ l.length + 1 - 1
    · rw [if_pos h4]
    · rw [if_neg h4]
      exact last (l.length + 1 - 1) (by omega)
theorem upto_len (a : UInt8) {n : Nat} (hn : 1 ≤ n) (l : Str) : (upto a n l).length = min n (cut a l).length := by
  unfold upto
  split
  · omega
  · simp; omega
theorem upto_last {a : UInt8} {n : Nat} (hn : 1 ≤ n) {l : Str} (h : n < (cut a l).length) : ∃ x, (upto a n l)[n - 1]? = some x ∧ a ∈ x := by
  unfold upto
  rw [if_neg (by omega)]
  refine ⟨join a ((cut a l).drop (n - 1)), ?_, ?_⟩
  · rw [List.getElem?_append_right (by rw [List.length_take]; omega), List.length_take, Nat.min_eq_left (by omega), Nat.sub_self]
    rfl
  · rw [List.drop_eq_getElem_cons (by omega), show n - 1 + 1 = n by omega, List.drop_eq_getElem_cons (by omega)]
    exact mem_join
theorem upto_le {a : UInt8} {n : Nat} {l : Str} (h : (cut a l).length ≤ n) : upto a n l = cut a l := if_pos h
theorem piece_size {a : UInt8} {n : Nat} {l : Str} : ∀ x ∈ upto a n l, x.length ≤ l.length := by
  have hp : ∀ x ∈ cut a l, x.length ≤ l.length := by
    have : ∀ (l : Str), ∀ x ∈ cut a l, x.length ≤ l.length := by
      intro l
      induction l with
      | nil => intro x hx; simp [cut] at hx; subst hx; simp
      | cons c r ih =>
        intro x hx
        obtain ⟨y, t, he⟩ : ∃ x t, cut a r = x :: t := by
          cases h : cut a r with
          | nil => exact absurd h (cut_ne a r)
          | cons x t => exact ⟨x, t, rfl⟩
        by_cases hc : c = a
        · subst hc
          rw [cut_at] at hx
          rcases List.mem_cons.1 hx with rfl | hx
          · simp
          · have := ih x hx; simp; omega
        · rw [cut_other hc r he] at hx
          rcases List.mem_cons.1 hx with rfl | hx
          · have := ih y (by rw [he]; simp); simp; omega
          · have := ih x (by rw [he]; simp [hx]); simp; omega
    exact this l
  have hj : ∀ k, (join a ((cut a l).drop k)).length ≤ l.length := by
    have : ∀ (m : List Str) (k : Nat), (join a (m.drop k)).length ≤ (join a m).length := by
      intro m
      induction m with
      | nil => intro k; simp
      | cons y m ih =>
        intro k
        cases k with
        | zero => simp
        | succ k =>
          have h1 := ih k
          rw [List.drop_succ_cons]
          cases m with
          | nil => simp [join]
          | cons z m =>
            show _ ≤ (y ++ a :: join a (z :: m)).length
            rw [List.length_append, List.length_cons]
            omega
    intro k
    have h := this (cut a l) k
    rwa [join_cut] at h
  intro x hx
  unfold upto at hx
  split at hx
  · exact hp x hx
  · rcases List.mem_append.1 hx with hx | hx
    · exact hp x (List.mem_of_mem_take hx)
    · obtain rfl : x = _ := by simpa using hx
      exact hj _

/-- the library's taking out of each such byte -/
theorem repl_none (c : UInt8) : ∀ (k : Nat) (l : Str), l.count c = k → Lib.replaceK [c] [] k l = l.filter (fun b => decide (b ≠ c))
  | 0, l, h => by
    show l = _
    rw [List.count_eq_zero] at h
    exact (List.filter_eq_self.2 fun b hb => by simp; intro e; exact h (e ▸ hb)).symm
  | k + 1, l, h => by
    have hm : c ∈ l := List.count_pos_iff.1 (by omega)
    obtain ⟨x, r, rfl, hx⟩ := mem_parts hm
    have hi : Lib.index (x ++ c :: r) [c] = (x.length : Int) := by rw [Lib.index_one, ix_put r hx]
    rw [Lib.replaceK_hit _ _ _ _ _ hi]
    have hx0 : x.count c = 0 := List.count_eq_zero.2 hx
    have hr : r.count c = k := by
      rw [List.count_append, hx0, List.count_cons_self] at h
      omega
    have e1 : (x ++ c :: r).take x.length = x := by simp
    have e2 : (x ++ c :: r).drop (x.length + [c].length) = r := by simp
    rw [e1, e2, repl_none c k r hr, List.append_nil, List.filter_append, List.filter_cons, if_neg (by simp)]
    congr 1
    exact (List.filter_eq_self.2 fun b hb => by simp; intro e; exact hx (e ▸ hb)).symm
theorem repl_all (c : UInt8) (l : Str) : Lib.replaceAll l [c] [] = l.filter (fun b => decide (b ≠ c)) := by
  unfold Lib.replaceAll Lib.replace
  rw [if_neg (by simp)]
  unfold Lib.replaceNum
  rw [if_pos (.inl (by omega)), Lib.count_one]
  exact repl_none c _ l rfl

/-- digits and points alone -/
theorem filter_dd (l : Str) : (l.filter (fun b => decide (b ≠ 46))).all dig = l.all dd := by
  induction l with
  | nil => rfl
  | cons c l ih =>
    rw [List.filter_cons]
    by_cases h : c = 46
    · subst h
      rw [if_neg (by simp), ih, List.all_cons]
      rfl
    · rw [if_pos (by simp [h]), List.all_cons, List.all_cons, ih]
      congr 1
      unfold dd
      rw [decide_eq_false h, Bool.or_false]

end Go.Proofs.YtefpplkoohnfbabGreatDoor.hw
