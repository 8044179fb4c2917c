/-
  Given for the seat's laws: what is told ErrMore goes on to a head. Plain: nothing of the program. No condition.
-/
import Derived.Test.YtkclhfoeimbikaaDoorKPure
namespace Go.Proofs.YtkclhfoeimbikaaDoor.hd
set_option linter.unusedVariables false

theorem go_cut {t : T} {i : Nat} {s : Str} {j : Nat} (h : (go t i s).2.2.2 = 0) (hj : (go t i s).2.2.1 ≤ i + j) : go t i (s.take j) = go t i s := by
  induction s generalizing t i j with
  | nil => simp
  | cons c r ih =>
    have hk : i < (go t i (c :: r)).2.2.1 := by
      rcases go_kinds t i (c :: r) with ⟨_, a, _⟩ | ⟨a, _⟩ | a | a
      · exact a
      all_goals
        rw [a] at h
        simp at h
    cases j with
    | zero => omega
    | succ j =>
      rw [List.take_succ_cons]
      simp only [go] at h hj ⊢
      cases hs : step t c with
      | error e => rfl
      | ok t' =>
        simp only [hs] at h hj ⊢
        split
        · rfl
        · rename_i h1
          rw [if_neg h1] at h hj
          split
          · rfl
          · rename_i h2
            rw [if_neg h2] at h hj
            exact ih h (by omega)
/-- a head that begins with what isn't one yet is longer -/
theorem take_longer {b m : Str} (hb : take b = ([], [], 0, 5)) (h : (take (b ++ m)).2.2.2 = 0) : b.length < (take (b ++ m)).2.2.1 := by
  rcases Nat.lt_or_ge b.length (take (b ++ m)).2.2.1 with h1 | h1
  · exact h1
  · have := go_cut (t := start) (i := 0) (s := b ++ m) (j := b.length) h (by rw [Nat.zero_add]; exact h1)
    rw [List.take_left'] at this
    · rw [show go start 0 b = _ from hb] at this
      rw [show take (b ++ m) = go start 0 (b ++ m) from rfl, ← this] at h
      simp at h
    · rfl
theorem take_n_le (b : Str) : (take b).2.2.1 ≤ b.length := by
  rcases go_kinds start 0 b with ⟨_, _, a, _⟩ | ⟨a, _⟩ | a | a
  · have : (go start 0 b).2.2.1 ≤ b.length := by omega
    exact this
  all_goals
    rw [show take b = _ from a]
    exact Nat.zero_le _
theorem more_path {t : T} {i : Nat} {b : Str} (h : go t i b = ([], [], 0, 5)) : ∃ t', Path t b t' := by
  induction b generalizing t i with
  | nil => exact ⟨t, .nil t⟩
  | cons c r ih =>
    simp only [go] at h
    cases hs : step t c with
    | error e =>
      rw [hs] at h
      rcases step_err hs with rfl | rfl <;> simp at h
    | ok t' =>
      rw [hs] at h
      simp only at h
      split at h
      · simp at h
      · rename_i h1
        split at h
        · simp at h
        · obtain ⟨t2, hp⟩ := ih h
          exact ⟨t2, .cons hs h1 hp⟩
theorem path_st {t t' : T} {b : Str} (h : Path t b t') (ho : t.st ≠ .over) : t'.st ≠ .over := by
  induction h with
  | nil => exact ho
  | cons _ h1 _ ih => exact ih h1
def ends : List Str := [[13, 10, 13, 10], [10, 13, 10], [10], [13, 10], [65, 13, 10, 13, 10], [58, 13, 10, 13, 10], [65, 58, 13, 10, 13, 10]]
theorem more_ends {b : Str} (h : take b = ([], [], 0, 5)) (hb : b.length ≤ 500) : ∃ (j : Nat) (s : Str), ends[j]? = some s ∧ (take (b ++ s)).2.2.2 = 0 := by
  obtain ⟨t, hp⟩ := more_path h
  have ho := path_st hp (by decide)
  have hgo : ∀ s, take (b ++ s) = go t b.length s := fun s => by
    rw [show take (b ++ s) = go start 0 (b ++ s) from rfl, hp.go (by omega)]
    rw [Nat.zero_add]
  obtain ⟨n, hn⟩ : ∃ n, b.length = n := ⟨_, rfl⟩
  rw [hn] at hgo hb
  have v13 : vis 13 = false := by decide
  have v10 : vis 10 = false := by decide
  have v65 : vis 65 = true := by decide
  have s58 : sgn 58 = false := by decide
  have t13 : vtab 13 = false := by decide
  have q : ∀ k, k < 12 → n + k ≠ 512 := fun k hk => by omega
  obtain ⟨st, line, fs, name, part⟩ := t
  cases st with
  | first => exact ⟨4, _, rfl, by rw [hgo]; simp [go, step, v13, v65, Nat.add_assoc, q]⟩
  | within => exact ⟨0, _, rfl, by rw [hgo]; simp [go, step, v13, Nat.add_assoc, q]⟩
  | half => exact ⟨1, _, rfl, by rw [hgo]; simp [go, step, Nat.add_assoc, q]⟩
  | begin => exact ⟨3, _, rfl, by rw [hgo]; simp [go, step, Nat.add_assoc, q]⟩
  | named => exact ⟨5, _, rfl, by rw [hgo]; simp [go, step, s58, t13, Nat.add_assoc, q]⟩
  | valued => exact ⟨0, _, rfl, by rw [hgo]; simp [go, step, t13, Nat.add_assoc, q]⟩
  | last => exact ⟨2, _, rfl, by rw [hgo]; simp [go, step]⟩
  | over => exact absurd rfl ho
end Go.Proofs.YtkclhfoeimbikaaDoor.hd
