/-
  Given for the seat's laws: requests and replies as lists of bytes: what is printed, taken, and what more bytes do. Plain. No condition.
-/
import Derived.Test.YtefpplkoohnfbaaDoorAKPure
namespace Go.Proofs.YtefpplkoohnfbaaDoor.ak
open hostp
set_option linter.unusedVariables false

theorem tkP_cons (kind : Nat) (x : Str) (n : Nat) (h l : UInt8) (r : Str) : tkP kind x n (h :: l :: r) = if 256 * h.toNat + l.toNat = 0 then none_ 6 else ⟨kind, x, 256 * h.toNat + l.toNat, n + 2, 0⟩ := rfl
theorem tkN_cons (k : UInt8) (b : Str) : tkN (k :: b) = if k.toNat < 1 ∨ 40 < k.toNat then none_ 6 else if begins (low (b.take k.toNat)) k.toNat = false then none_ 6 else if b.length < k.toNat then none_ 5 else tkP 3 (low (b.take k.toNat)) (5 + k.toNat) (b.drop k.toNat) := rfl
/-! ### how a request lies -/
def hdr (k n : Nat) : Str := if k = 1 then [5, 1, 0, 1] else if k = 2 then [5, 1, 0, 4] else [5, 1, 0, 3, UInt8.ofNat n]
def hdn (k : Nat) : Nat := if k = 1 then 4 else if k = 2 then 4 else 5
theorem hdr_len (k n : Nat) : (hdr k n).length = hdn k := by
  unfold hdr hdn
  split
  · rfl
  · split <;> rfl
def nm_ (k : Nat) (y : Str) : Str := if k = 3 then low y else y
def fits (k : Nat) (y : Str) : Prop := (k = 1 ∧ y.length = 4) ∨ (k = 2 ∧ y.length = 16) ∨ (k = 3 ∧ nameB (low y) = true)
theorem name_len {s : Str} (h : nameB s = true) : 1 ≤ s.length ∧ s.length ≤ 40 := by
  constructor
  · rcases Nat.eq_zero_or_pos s.length with h0 | h0
    · rw [List.eq_nil_of_length_eq_zero h0, nameB_nil] at h
      cases h
    · exact h0
  · rcases Nat.lt_or_ge 40 s.length with h0 | h0
    · rw [nameB_long (by omega)] at h
      cases h
    · exact h0
theorem fits_len {k : Nat} {y : Str} (h : fits k y) : 1 ≤ y.length ∧ y.length ≤ 40 := by
  rcases h with ⟨_, h⟩ | ⟨_, h⟩ | ⟨_, h⟩
  · omega
  · omega
  · have := name_len h
    rwa [low_len] at this
theorem ofNat_len {n : Nat} (h : n ≤ 40) : (UInt8.ofNat n).toNat = n := by simp; omega
theorem begins_all {x : Str} {n : Nat} (h : x.length = n) : begins x n = nameB x := by unfold begins; rw [if_pos h]
theorem tkP_two (kind : Nat) (x : Str) (n : Nat) {h l : UInt8} (r : Str) (hp : 256 * h.toNat + l.toNat ≠ 0) : tkP kind x n (h :: l :: r) = ⟨kind, x, 256 * h.toNat + l.toNat, n + 2, 0⟩ := by
  rw [tkP_cons, if_neg hp]
theorem tk_form {k : Nat} {y r : Str} {h l : UInt8} (hf : fits k y) (hp : 256 * h.toNat + l.toNat ≠ 0) :
    tk (hdr k y.length ++ (y ++ h :: l :: r)) = ⟨k, nm_ k y, 256 * h.toNat + l.toNat, hdn k + y.length + 2, 0⟩ := by
  have hl := fits_len hf
  rcases hf with ⟨rfl, hy⟩ | ⟨rfl, hy⟩ | ⟨rfl, hn⟩
  · show tkA 1 4 (y ++ h :: l :: r) = _
    unfold tkA
    rw [if_neg (by simp; omega), List.take_left' hy, List.drop_left' hy, tkP_two _ _ _ _ hp, hy]
    rfl
  · show tkA 2 16 (y ++ h :: l :: r) = _
    unfold tkA
    rw [if_neg (by simp; omega), List.take_left' hy, List.drop_left' hy, tkP_two _ _ _ _ hp, hy]
    rfl
  · show tkN (UInt8.ofNat y.length :: (y ++ h :: l :: r)) = _
    rw [tkN_cons, ofNat_len hl.2, if_neg (by omega), List.take_left' rfl, List.drop_left' rfl, begins_all (low_len y), hn, if_neg (by decide), if_neg (by simp), tkP_two _ _ _ _ hp]
    rfl
theorem tkP_inv {kind n : Nat} {x l : Str} (h : (tkP kind x n l).e = 0) : ∃ a b r, l = a :: b :: r ∧ 256 * a.toNat + b.toNat ≠ 0 := by
  match l with
  | [] => cases h
  | [a] => cases h
  | a :: b :: r =>
    refine ⟨a, b, r, rfl, fun e => ?_⟩
    rw [tkP_cons, if_pos e] at h
    cases h
theorem tk_inv {b : Str} (h : (tk b).e = 0) : ∃ k y hi lo r, fits k y ∧ 256 * hi.toNat + lo.toNat ≠ 0 ∧ b = hdr k y.length ++ (y ++ hi :: lo :: r) := by
  match b with
  | [] => cases h
  | a :: b =>
    rw [tk_cons] at h
    by_cases ha : a = 5
    · subst ha
      rw [if_pos rfl] at h
      match b with
      | [] => cases h
      | a :: b =>
        rw [tk1_cons] at h
        by_cases ha : a = 1
        · subst ha
          rw [if_pos rfl] at h
          match b with
          | [] => cases h
          | a :: b =>
            rw [tk2_cons] at h
            by_cases ha : a = 0
            · subst ha
              rw [if_pos rfl] at h
              match b with
              | [] => cases h
              | c :: b =>
                rw [tk3_cons] at h
                have key : ∀ kind size, (tkA kind size b).e = 0 → ∃ y hi lo r, y.length = size ∧ 256 * hi.toNat + lo.toNat ≠ 0 ∧ b = y ++ hi :: lo :: r := by
                  intro kind size h
                  unfold tkA at h
                  by_cases hl : b.length < size
                  · rw [if_pos hl] at h; cases h
                  · rw [if_neg hl] at h
                    obtain ⟨hi, lo, r, hd, hp⟩ := tkP_inv h
                    refine ⟨b.take size, hi, lo, r, by simp; omega, hp, ?_⟩
                    rw [← hd, List.take_append_drop]
                by_cases h1 : c = 1
                · subst h1
                  rw [if_pos rfl] at h
                  obtain ⟨y, hi, lo, r, hy, hp, rfl⟩ := key _ _ h
                  exact ⟨1, y, hi, lo, r, .inl ⟨rfl, hy⟩, hp, rfl⟩
                · rw [if_neg h1] at h
                  by_cases h4 : c = 4
                  · subst h4
                    rw [if_pos rfl] at h
                    obtain ⟨y, hi, lo, r, hy, hp, rfl⟩ := key _ _ h
                    exact ⟨2, y, hi, lo, r, .inr (.inl ⟨rfl, hy⟩), hp, rfl⟩
                  · rw [if_neg h4] at h
                    by_cases h3 : c = 3
                    · subst h3
                      rw [if_pos rfl] at h
                      match b with
                      | [] => cases h
                      | k :: b =>
                        rw [tkN_cons] at h
                        by_cases hk : k.toNat < 1 ∨ 40 < k.toNat
                        · rw [if_pos hk] at h; cases h
                        · rw [if_neg hk] at h
                          cases hb : begins (low (b.take k.toNat)) k.toNat with
                          | false => rw [hb, if_pos rfl] at h; cases h
                          | true =>
                            rw [hb, if_neg (by decide)] at h
                            by_cases hl : b.length < k.toNat
                            · rw [if_pos hl] at h; cases h
                            · rw [if_neg hl] at h
                              obtain ⟨hi, lo, r, hd, hp⟩ := tkP_inv h
                              have hy : (b.take k.toNat).length = k.toNat := by simp; omega
                              rw [begins_all (by rw [low_len, hy])] at hb
                              refine ⟨3, b.take k.toNat, hi, lo, r, .inr (.inr ⟨rfl, hb⟩), hp, ?_⟩
                              rw [← hd, List.take_append_drop, hy]
                              show _ = 5 :: 1 :: 0 :: 3 :: UInt8.ofNat k.toNat :: b
                              simp
                    · rw [if_neg h3] at h; cases h
            · rw [if_neg ha] at h; cases h
        · rw [if_neg ha] at h; cases h
    · rw [if_neg ha] at h; cases h

/-! ### more bytes -/
theorem tkP_app {kind n : Nat} {x l : Str} (m : Str) (h : (tkP kind x n l).e ≠ 5) : tkP kind x n (l ++ m) = tkP kind x n l := by
  match l with
  | [] => exact absurd rfl h
  | [a] => exact absurd rfl h
  | a :: b :: r => rfl
theorem nmGo_pre : ∀ (x y : Str) (long : Nat) (nums : Bool) (last : UInt8), nmGo (x ++ y) long nums last = true → nmGo (x ++ [97]) long nums last = true
  | [], y, long, nums, last, _ => by simp [nmGo, okc, dig]
  | c :: x, y, long, nums, last, h => by
    have h : nmGo (c :: (x ++ y)) long nums last = true := h
    show nmGo (c :: (x ++ [97])) long nums last = true
    unfold nmGo at h ⊢
    split at h
    · rename_i hc
      rw [if_pos hc]
      split at h
      · cases h
      · rename_i hd
        rw [if_neg hd]
        exact nmGo_pre x y _ _ _ h
    · rename_i hc
      rw [if_neg hc]
      split at h
      · cases h
      · rename_i hd
        rw [if_neg hd]
        exact nmGo_pre x y _ _ _ h
theorem name_pre {x y : Str} (h : nameB (x ++ y) = true) (hx : x.length < 40) : nameB (x ++ [97]) = true := by
  have hl := (name_len h).2
  rw [← nmGo_name (by simp; omega) 0]
  rw [← nmGo_name hl 0] at h
  exact nmGo_pre x y _ _ _ h
theorem begins_pre {b m : Str} {n : Nat} (hn : n ≤ 40) (h : begins (low ((b ++ m).take n)) n = true) : begins (low (b.take n)) n = true := by
  by_cases hl : n ≤ b.length
  · rwa [List.take_append_of_le_length hl] at h
  · have e : (b ++ m).take n = b ++ m.take (n - b.length) := by rw [List.take_append, List.take_of_length_le (by omega)]
    have e2 : b.take n = b := List.take_of_length_le (by omega)
    rw [e, low_append] at h
    rw [e2]
    unfold begins at h ⊢
    rw [if_neg (by rw [low_len]; omega)]
    split at h
    · exact name_pre h (by rw [low_len]; omega)
    · rw [List.append_assoc] at h
      exact name_pre h (by rw [low_len]; omega)
theorem tk_app {b : Str} (m : Str) (h : (tk b).e ≠ 5) : tk (b ++ m) = tk b := by
  match b with
  | [] => exact absurd rfl h
  | a :: b =>
    show tk (a :: (b ++ m)) = _
    rw [tk_cons] at h ⊢
    rw [tk_cons]
    by_cases ha : a = 5
    · rw [if_pos ha] at h ⊢
      rw [if_pos ha]
      match b with
      | [] => exact absurd rfl h
      | a :: b =>
        show tk1 (a :: (b ++ m)) = _
        rw [tk1_cons] at h ⊢
        rw [tk1_cons]
        by_cases ha : a = 1
        · rw [if_pos ha] at h ⊢
          rw [if_pos ha]
          match b with
          | [] => exact absurd rfl h
          | a :: b =>
            show tk2 (a :: (b ++ m)) = _
            rw [tk2_cons] at h ⊢
            rw [tk2_cons]
            by_cases ha : a = 0
            · rw [if_pos ha] at h ⊢
              rw [if_pos ha]
              match b with
              | [] => exact absurd rfl h
              | c :: b =>
                show tk3 (c :: (b ++ m)) = _
                rw [tk3_cons] at h ⊢
                rw [tk3_cons]
                have key : ∀ kind size, (tkA kind size b).e ≠ 5 → tkA kind size (b ++ m) = tkA kind size b := by
                  intro kind size h
                  unfold tkA at h ⊢
                  by_cases hl : b.length < size
                  · rw [if_pos hl] at h; exact absurd rfl h
                  · rw [if_neg hl] at h ⊢
                    rw [if_neg (by simp; omega), List.take_append_of_le_length (by omega), List.drop_append_of_le_length (by omega)]
                    exact tkP_app m h
                by_cases h1 : c = 1
                · rw [if_pos h1] at h ⊢
                  rw [if_pos h1]
                  exact key _ _ h
                · rw [if_neg h1] at h ⊢
                  rw [if_neg h1]
                  by_cases h4 : c = 4
                  · rw [if_pos h4] at h ⊢
                    rw [if_pos h4]
                    exact key _ _ h
                  · rw [if_neg h4] at h ⊢
                    rw [if_neg h4]
                    by_cases h3 : c = 3
                    · rw [if_pos h3] at h ⊢
                      rw [if_pos h3]
                      match b with
                      | [] => exact absurd rfl h
                      | k :: b =>
                        show tkN (k :: (b ++ m)) = _
                        rw [tkN_cons] at h ⊢
                        rw [tkN_cons]
                        by_cases hk : k.toNat < 1 ∨ 40 < k.toNat
                        · rw [if_pos hk, if_pos hk]
                        · rw [if_neg hk] at h ⊢
                          rw [if_neg hk]
                          by_cases hl : b.length < k.toNat
                          · cases hb : begins (low (b.take k.toNat)) k.toNat with
                            | true => rw [hb, if_neg (by decide), if_pos hl] at h; exact absurd rfl h
                            | false =>
                              rw [if_pos rfl]
                              have : begins (low ((b ++ m).take k.toNat)) k.toNat = false := by
                                cases hq : begins (low ((b ++ m).take k.toNat)) k.toNat with
                                | false => rfl
                                | true => rw [begins_pre (by omega) hq] at hb; cases hb
                              rw [if_pos this]
                          · rw [List.take_append_of_le_length (by omega), List.drop_append_of_le_length (by omega)]
                            cases hb : begins (low (b.take k.toNat)) k.toNat with
                            | false => rw [if_pos rfl, if_pos rfl]
                            | true =>
                              rw [hb, if_neg (by decide), if_neg hl] at h
                              rw [if_neg (show ¬ true = false by decide), if_neg (show ¬ true = false by decide), if_neg hl, if_neg (show ¬ (b ++ m).length < k.toNat by simp; omega)]
                              exact tkP_app m h
                    · rw [if_neg h3, if_neg h3]
            · rw [if_neg ha, if_neg ha]
        · rw [if_neg ha, if_neg ha]
    · rw [if_neg ha, if_neg ha]
/-- an error bears nothing else -/
theorem tkP_kinds (kind : Nat) (x : Str) (n : Nat) (l : Str) : (tkP kind x n l).e = 0 ∨ tkP kind x n l = none_ 5 ∨ tkP kind x n l = none_ 6 := by
  match l with
  | [] => exact .inr (.inl rfl)
  | [a] => exact .inr (.inl rfl)
  | a :: b :: r =>
    rw [tkP_cons]
    split
    · exact .inr (.inr rfl)
    · exact .inl rfl
theorem tk_kinds (b : Str) : (tk b).e = 0 ∨ tk b = none_ 5 ∨ tk b = none_ 6 ∨ tk b = none_ 140 ∨ tk b = none_ 141 := by
  have hP : ∀ kind x n l, (tkP kind x n l).e = 0 ∨ tkP kind x n l = none_ 5 ∨ tkP kind x n l = none_ 6 ∨ tkP kind x n l = none_ 140 ∨ tkP kind x n l = none_ 141 := fun kind x n l => by
    rcases tkP_kinds kind x n l with h | h | h
    · exact .inl h
    · exact .inr (.inl h)
    · exact .inr (.inr (.inl h))
  unfold tk tk1 tk2 tk3
  repeat' split
  any_goals (first | exact .inr (.inl rfl) | exact .inr (.inr (.inl rfl)) | exact .inr (.inr (.inr (.inl rfl))) | exact .inr (.inr (.inr (.inr rfl))))
  all_goals (first | unfold tkA | unfold tkN)
  all_goals (repeat' split)
  all_goals (first | exact .inr (.inl rfl) | exact .inr (.inr (.inl rfl)) | exact hP _ _ _ _)
theorem tk_err {b : Str} (h : (tk b).e ≠ 0) : tk b = none_ (tk b).e ∧ ((tk b).e = 5 ∨ (tk b).e = 6 ∨ (tk b).e = 140 ∨ (tk b).e = 141) := by
  rcases tk_kinds b with h1 | h1 | h1 | h1 | h1
  · exact absurd h1 h
  all_goals (rw [h1]; exact ⟨rfl, by simp [none_]⟩)
/-- how long a request is -/
theorem tk_len {b : Str} (h : (tk b).e = 0) : (tk b).n ≤ b.length := by
  obtain ⟨k, y, hi, lo, r, hf, hp, rfl⟩ := tk_inv h
  rw [tk_form hf hp]
  simp only [List.length_append, hdr_len, List.length_cons]
  omega
/-- each beginning is told ErrMore -/
theorem tk_part {b : Str} {i : Nat} (hi : i < (tk b).n) : tk (b.take i) = none_ 5 := by
  have h0 : (tk b).e = 0 := by
    rcases Nat.eq_zero_or_pos (tk b).e with h | h
    · exact h
    · rw [(tk_err (by omega : (tk b).e ≠ 0)).1] at hi
      exact absurd hi (by simp [none_])
  rcases Nat.decEq (tk (b.take i)).e 5 with h5 | h5
  · have h1 := tk_app (b.drop i) h5
    rw [List.take_append_drop] at h1
    rw [h1] at h0 hi
    have := tk_len h0
    simp at this
    omega
  · have := (tk_err (b := b.take i) (by omega)).1
    rw [this, h5]

/-! ### how it may go on -/
def like (n : Nat) : UInt8 := if n = 0 then 5 else if n = 1 then 1 else if n = 2 then 0 else if n = 3 then 3 else 1
def ext (b : Str) : UInt8 := if b.length < 5 ∧ (b.length < 4 ∨ b[3]? = some 3) then like b.length else 97
def ndN : Str → Nat
  | [] => 44
  | k :: b => k.toNat + 2 - b.length
def nd3 : Str → Nat
  | [] => 45
  | c :: b => if c = 1 then 6 - b.length else if c = 4 then 18 - b.length else if c = 3 then ndN b else 0
def nd2 : Str → Nat
  | [] => 46
  | _ :: b => nd3 b
def nd1 : Str → Nat
  | [] => 47
  | _ :: b => nd2 b
def nd : Str → Nat
  | [] => 48
  | _ :: b => nd1 b
theorem none_ne {k : Nat} {x : Str} {p n : Nat} : (⟨k, x, p, n, 0⟩ : TK) ≠ none_ 5 := by simp [none_]
theorem tkP_more {kind n : Nat} {x l : Str} (h : tkP kind x n l = none_ 5) : l = [] ∨ ∃ a, l = [a] := by
  match l with
  | [] => exact .inl rfl
  | [a] => exact .inr ⟨a, rfl⟩
  | a :: b :: r =>
    rw [tkP_cons] at h
    split at h
    · exact absurd h (by decide)
    · exact absurd h none_ne
theorem tkP_one (kind n : Nat) (x : Str) (a : UInt8) : (tkP kind x n [a, 97]).e = 0 := by
  rw [tkP_two _ _ _ _ (by simp)]
theorem tkA_ext {kind size : Nat} {b : Str} (h : tkA kind size b = none_ 5) : b.length < size + 2 ∧ ((tkA kind size (b ++ [97])).e = 0 ∨ tkA kind size (b ++ [97]) = none_ 5) := by
  unfold tkA at h ⊢
  by_cases h1 : b.length < size
  · refine ⟨by omega, .inr ?_⟩
    by_cases h2 : b.length + 1 < size
    · rw [if_pos (by simp; omega)]
    · rw [if_neg (by simp; omega)]
      have : (b ++ [97]).drop size = [] := List.drop_eq_nil_of_le (by simp; omega)
      rw [this]
      rfl
  · rw [if_neg h1] at h
    rw [if_neg (by simp; omega), List.drop_append_of_le_length (by omega)]
    have hl : (b.drop size).length = b.length - size := by simp
    rcases tkP_more h with e | ⟨a, e⟩
    · rw [e] at hl ⊢
      simp at hl
      exact ⟨by omega, .inr rfl⟩
    · rw [e] at hl ⊢
      simp at hl
      exact ⟨by omega, .inl (tkP_one _ _ _ _)⟩
theorem tkN_ext {k : UInt8} {b : Str} (h : tkN (k :: b) = none_ 5) : b.length < k.toNat + 2 ∧ ((tkN (k :: (b ++ [97]))).e = 0 ∨ tkN (k :: (b ++ [97])) = none_ 5) := by
  rw [tkN_cons] at h ⊢
  by_cases hk : k.toNat < 1 ∨ 40 < k.toNat
  · rw [if_pos hk] at h; exact absurd h (by decide)
  · rw [if_neg hk] at h ⊢
    cases hb : begins (low (b.take k.toNat)) k.toNat with
    | false => rw [hb, if_pos rfl] at h; exact absurd h (by decide)
    | true =>
      rw [hb, if_neg (by decide)] at h
      by_cases h1 : b.length < k.toNat
      · refine ⟨by omega, .inr ?_⟩
        have e1 : b.take k.toNat = b := List.take_of_length_le (by omega)
        have e2 : (b ++ [97]).take k.toNat = b ++ [97] := List.take_of_length_le (by simp; omega)
        have e3 : low (b ++ [97]) = low b ++ [97] := by rw [low_append]; rfl
        rw [e1] at hb
        unfold begins at hb
        rw [if_neg (by rw [low_len]; omega)] at hb
        have hb2 : begins (low ((b ++ [97]).take k.toNat)) k.toNat = true := by
          rw [e2, e3]
          unfold begins
          split
          · exact hb
          · rename_i h2
            simp [low_len] at h2
            have := name_pad (x := low b) (m := 1) (by rw [low_len]; omega)
            rw [hb] at this
            rw [List.append_assoc]
            exact this
        rw [if_neg (by rw [hb2]; decide)]
        by_cases h2 : b.length + 1 < k.toNat
        · rw [if_pos (by simp; omega)]
        · rw [if_neg (by simp; omega)]
          have : (b ++ [97]).drop k.toNat = [] := List.drop_eq_nil_of_le (by simp; omega)
          rw [this]
          rfl
      · rw [if_neg h1] at h
        rw [List.take_append_of_le_length (by omega), hb, if_neg (by decide), if_neg (by simp; omega), List.drop_append_of_le_length (by omega)]
        have hl : (b.drop k.toNat).length = b.length - k.toNat := by simp
        rcases tkP_more h with e | ⟨a, e⟩
        · rw [e] at hl ⊢
          simp at hl
          exact ⟨by omega, .inr rfl⟩
        · rw [e] at hl ⊢
          simp at hl
          exact ⟨by omega, .inl (tkP_one _ _ _ _)⟩
theorem ext_long {a b c d : UInt8} {r : Str} (h : d ≠ 3 ∨ r ≠ []) : ext (a :: b :: c :: d :: r) = 97 := by
  unfold ext
  rw [if_neg]
  rintro ⟨h1, h2⟩
  rcases h2 with h2 | h2
  · simp at h2
    omega
  · rcases h with h | h
    · exact h (by simpa using h2)
    · have : 0 < r.length := List.length_pos_iff.2 h
      simp at h1
      omega
theorem ext_step {b : Str} (h : tk b = none_ 5) : nd b ≤ 48 ∧ ((tk (b ++ [ext b])).e = 0 ∨ (tk (b ++ [ext b]) = none_ 5 ∧ nd (b ++ [ext b]) < nd b)) := by
  match b with
  | [] => exact ⟨by decide, .inr ⟨rfl, by decide⟩⟩
  | a :: b =>
    rw [tk_cons] at h
    by_cases ha : a = 5
    · subst ha
      rw [if_pos rfl] at h
      match b with
      | [] => exact ⟨by decide, .inr ⟨rfl, by decide⟩⟩
      | a :: b =>
        rw [tk1_cons] at h
        by_cases ha : a = 1
        · subst ha
          rw [if_pos rfl] at h
          match b with
          | [] => exact ⟨by decide, .inr ⟨rfl, by decide⟩⟩
          | a :: b =>
            rw [tk2_cons] at h
            by_cases ha : a = 0
            · subst ha
              rw [if_pos rfl] at h
              match b with
              | [] => exact ⟨by decide, .inr ⟨rfl, by decide⟩⟩
              | c :: b =>
                rw [tk3_cons] at h
                by_cases h1 : c = 1
                · subst h1
                  rw [if_pos rfl] at h
                  rw [ext_long (.inl (by decide))]
                  obtain ⟨hl, hx⟩ := tkA_ext h
                  have e1 : nd (5 :: 1 :: 0 :: 1 :: b) = 6 - b.length := rfl
                  have e2 : nd (5 :: 1 :: 0 :: 1 :: b ++ [97]) = 6 - (b ++ [97]).length := rfl
                  refine ⟨by omega, ?_⟩
                  rcases hx with hx | hx
                  · exact .inl hx
                  · exact .inr ⟨hx, by rw [e1, e2]; simp; omega⟩
                · rw [if_neg h1] at h
                  by_cases h4 : c = 4
                  · subst h4
                    rw [if_pos rfl] at h
                    rw [ext_long (.inl (by decide))]
                    obtain ⟨hl, hx⟩ := tkA_ext h
                    have e1 : nd (5 :: 1 :: 0 :: 4 :: b) = 18 - b.length := rfl
                    have e2 : nd (5 :: 1 :: 0 :: 4 :: b ++ [97]) = 18 - (b ++ [97]).length := rfl
                    refine ⟨by omega, ?_⟩
                    rcases hx with hx | hx
                    · exact .inl hx
                    · exact .inr ⟨hx, by rw [e1, e2]; simp; omega⟩
                  · rw [if_neg h4] at h
                    by_cases h3 : c = 3
                    · subst h3
                      rw [if_pos rfl] at h
                      match b with
                      | [] => exact ⟨by decide, .inr ⟨rfl, by decide⟩⟩
                      | k :: b =>
                        rw [ext_long (.inr (by simp))]
                        obtain ⟨hl, hx⟩ := tkN_ext h
                        have hk : k.toNat ≤ 40 := by
                          rw [tkN_cons] at h
                          by_cases hk : k.toNat < 1 ∨ 40 < k.toNat
                          · rw [if_pos hk] at h; exact absurd h (by decide)
                          · omega
                        have e1 : nd (5 :: 1 :: 0 :: 3 :: k :: b) = k.toNat + 2 - b.length := rfl
                        have e2 : nd (5 :: 1 :: 0 :: 3 :: k :: b ++ [97]) = k.toNat + 2 - (b ++ [97]).length := rfl
                        refine ⟨by omega, ?_⟩
                        rcases hx with hx | hx
                        · exact .inl hx
                        · exact .inr ⟨hx, by rw [e1, e2]; simp; omega⟩
                    · rw [if_neg h3] at h; exact absurd h (by decide)
            · rw [if_neg ha] at h; exact absurd h (by decide)
        · rw [if_neg ha] at h; exact absurd h (by decide)
    · rw [if_neg ha] at h; exact absurd h (by decide)

/-! ### replies, more bytes -/
theorem chA_app {m size k : Nat} {b : Str} (x : Str) (h : (chA m size k b).e ≠ 5) : chA m size k (b ++ x) = chA m size k b := by
  unfold chA at h ⊢
  by_cases hl : b.length < size + 2
  · rw [if_pos hl] at h; exact absurd rfl h
  · rw [if_neg hl, if_neg (by simp; omega)]
theorem ch_app {b : Str} (x : Str) (h : (ch b).e ≠ 5) : ch (b ++ x) = ch b := by
  match b with
  | [] => exact absurd rfl h
  | a :: b =>
    show ch (a :: (b ++ x)) = _
    rw [ch_cons] at h ⊢
    rw [ch_cons]
    by_cases ha : a = 5
    · rw [if_pos ha] at h ⊢
      rw [if_pos ha]
      match b with
      | [] => exact absurd rfl h
      | m :: b =>
        show ch1 (m :: (b ++ x)) = _
        rw [ch1_cons] at h ⊢
        rw [ch1_cons]
        match b with
        | [] => exact absurd rfl h
        | a :: b =>
          show ch2 _ (a :: (b ++ x)) = _
          rw [ch2_cons] at h ⊢
          rw [ch2_cons]
          by_cases ha : a = 0
          · rw [if_pos ha] at h ⊢
            rw [if_pos ha]
            match b with
            | [] => exact absurd rfl h
            | c :: b =>
              show ch3 _ (c :: (b ++ x)) = _
              rw [ch3_cons] at h ⊢
              rw [ch3_cons]
              by_cases h1 : c = 1
              · rw [if_pos h1] at h ⊢
                rw [if_pos h1]
                exact chA_app x h
              · rw [if_neg h1] at h ⊢
                rw [if_neg h1]
                by_cases h4 : c = 4
                · rw [if_pos h4] at h ⊢
                  rw [if_pos h4]
                  exact chA_app x h
                · rw [if_neg h4] at h ⊢
                  rw [if_neg h4]
                  by_cases h3 : c = 3
                  · rw [if_pos h3] at h ⊢
                    rw [if_pos h3]
                    match b with
                    | [] => exact absurd rfl h
                    | k :: b => exact chA_app x h
                  · rw [if_neg h3, if_neg h3]
          · rw [if_neg ha, if_neg ha]
    · rw [if_neg ha, if_neg ha]
theorem chA_kinds (m size k : Nat) (b : Str) : chA m size k b = noneC 5 ∨ ((chA m size k b).e = 0 ∧ (chA m size k b).n = k + size + 2 ∧ size + 2 ≤ b.length) := by
  unfold chA
  by_cases h : b.length < size + 2
  · rw [if_pos h]; exact .inl rfl
  · rw [if_neg h]; exact .inr ⟨rfl, rfl, by omega⟩
theorem ch_kinds (b : Str) : ((ch b).e = 0 ∧ (ch b).n ≤ b.length) ∨ ch b = noneC 5 ∨ ch b = noneC 6 := by
  match b with
  | [] => exact .inr (.inl rfl)
  | a :: b =>
    rw [ch_cons]
    by_cases ha : a = 5
    · rw [if_pos ha]
      match b with
      | [] => exact .inr (.inl rfl)
      | m :: b =>
        rw [ch1_cons]
        match b with
        | [] => exact .inr (.inl rfl)
        | a :: b =>
          rw [ch2_cons]
          by_cases ha : a = 0
          · rw [if_pos ha]
            match b with
            | [] => exact .inr (.inl rfl)
            | c :: b =>
              rw [ch3_cons]
              have key : ∀ size k (d : Str), k + d.length ≤ (a :: a :: a :: c :: b).length → (((chA m.toNat size k d).e = 0 ∧ (chA m.toNat size k d).n ≤ (a :: a :: a :: c :: b).length) ∨ chA m.toNat size k d = noneC 5 ∨ chA m.toNat size k d = noneC 6) := by
                intro size k d hd
                rcases chA_kinds m.toNat size k d with h | ⟨h1, h2, h3⟩
                · exact .inr (.inl h)
                · exact .inl ⟨h1, by omega⟩
              by_cases h1 : c = 1
              · rw [if_pos h1]; exact key _ _ _ (by simp; omega)
              · rw [if_neg h1]
                by_cases h4 : c = 4
                · rw [if_pos h4]; exact key _ _ _ (by simp; omega)
                · rw [if_neg h4]
                  by_cases h3 : c = 3
                  · rw [if_pos h3]
                    match b with
                    | [] => exact .inr (.inl rfl)
                    | k :: b => exact key _ _ _ (by simp; omega)
                  · rw [if_neg h3]; exact .inr (.inr rfl)
          · rw [if_neg ha]; exact .inr (.inr rfl)
    · rw [if_neg ha]; exact .inr (.inr rfl)
theorem ch_part {b : Str} {i : Nat} (hi : i < (ch b).n) : ch (b.take i) = noneC 5 := by
  have h0 : (ch b).e = 0 := by
    rcases ch_kinds b with ⟨h, _⟩ | h | h
    · exact h
    · rw [h] at hi; exact absurd hi (by simp [noneC])
    · rw [h] at hi; exact absurd hi (by simp [noneC])
  have happ := fun h5 : (ch (b.take i)).e ≠ 5 => by
    have h1 := ch_app (b.drop i) h5
    rwa [List.take_append_drop] at h1
  rcases ch_kinds (b.take i) with ⟨h, hl⟩ | h | h
  · exfalso
    rw [happ (by omega)] at hi
    simp at hl
    omega
  · exact h
  · exfalso
    rw [happ (by rw [h]; decide), h] at h0
    cases h0
/-- the reply with a number -/
theorem ch_reply (m : UInt8) (r : Str) : ch (5 :: m :: 0 :: 1 :: 0 :: 0 :: 0 :: 0 :: 0 :: 0 :: r) = ⟨m.toNat, 10, 0⟩ := by
  show chA m.toNat 4 4 (0 :: 0 :: 0 :: 0 :: 0 :: 0 :: r) = _
  unfold chA
  rw [if_neg (by simp)]
end Go.Proofs.YtefpplkoohnfbaaDoor.ak
