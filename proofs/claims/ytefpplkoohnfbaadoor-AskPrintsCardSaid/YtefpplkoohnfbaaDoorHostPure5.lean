/-
  Given for the seat's laws: what loops over a text come to, step by step: the first '::', the last ':', a name, the text of groups, the longest row of noughts, the value of digits. No program, no memory.
-/
import Derived.Test.YtefpplkoohnfbaaDoorHostPure4
namespace Go.Proofs.YtefpplkoohnfbaaDoor.hostp
set_option linter.unusedVariables false

/-! ### the first '::', by its place -/
theorem cutDC_at : ∀ {s : Str} {i : Nat}, (∀ j, j < i → ¬ (s[j]? = some 58 ∧ s[j + 1]? = some 58)) → s[i]? = some 58 → s[i + 1]? = some 58 → cutDC s = some (s.take i, s.drop (i + 2))
  | [], i, _, h, _ => by simp at h
  | [a], i, _, _, h => by simp at h
  | a :: b :: r, 0, _, h1, h2 => by
    simp at h1 h2
    subst h1 h2
    rfl
  | a :: b :: r, i + 1, hn, h1, h2 => by
    have h0 := hn 0 (by omega)
    simp at h0
    rw [cutDC, if_neg (fun e => h0 e.1 e.2), cutDC_at (s := b :: r) (i := i) (fun j hj => by simpa using hn (j + 1) (by omega)) (by simpa using h1) (by simpa using h2)]
    rfl
theorem cutDC_no : ∀ {s : Str}, (∀ j : Nat, ¬ (s[j]? = some 58 ∧ s[j + 1]? = some 58)) → cutDC s = none
  | [], _ => rfl
  | [a], _ => rfl
  | a :: b :: r, hn => by
    have h0 := hn 0
    simp at h0
    rw [cutDC, if_neg (fun e => h0 e.1 e.2), cutDC_no (s := b :: r) (fun j => by simpa using hn (j + 1))]
    rfl

/-! ### the last ':', by its place -/
theorem lastC_at {s : Str} {i : Nat} (h : s[i]? = some 58) (hn : ∀ j, i < j → s[j]? ≠ some 58) : lastC s = some (s.take i, s.drop (i + 1)) := by
  obtain ⟨hl, he⟩ := List.getElem?_eq_some_iff.1 h
  have e1 : s = s.take i ++ 58 :: s.drop (i + 1) := by rw [← he, ← List.drop_eq_getElem_cons hl, List.take_append_drop]
  have hno : (58 : UInt8) ∉ s.drop (i + 1) := fun hm => by
    obtain ⟨j, hj⟩ := List.getElem?_of_mem hm
    rw [List.getElem?_drop] at hj
    exact hn (i + 1 + j) (by omega) hj
  conv => lhs; rw [e1]
  exact lastC_put _ hno

/-! ### a name, byte by byte -/
def nmGo : Str → Nat → Bool → UInt8 → Bool
  | [], long, nums, last => decide (0 < long) && decide (last ≠ 45) && !nums
  | c :: r, long, nums, last =>
    if c = 46 then (if long = 0 ∨ last = 45 then false else nmGo r 0 true c)
    else if okc c = false ∨ (c = 45 ∧ long = 0) then false
    else nmGo r (long + 1) (nums && dig c) c
/-- what the rest of a label, and what follows, must be, behind a label's beginning -/
def labRest (cur : Str) (s : Str) : Bool := match cut 46 s with
  | [] => false
  | x :: t => ((cur ++ x) :: t).all lab && !(((cur ++ x) :: t).getLast?.getD []).all dig
theorem lab_iff {x : Str} : lab x = true ↔ x ≠ [] ∧ (∀ c ∈ x, okc c = true) ∧ x.head? ≠ some 45 ∧ x.getLast? ≠ some 45 := by
  unfold lab
  simp only [Bool.and_eq_true, decide_eq_true_eq, List.all_eq_true, and_assoc]
theorem nmGo_lab : ∀ (s cur : Str) (last : UInt8), (∀ c ∈ cur, okc c = true) → cur.head? ≠ some 45 → (cur ≠ [] → cur.getLast? = some last) → nmGo s cur.length (cur.all dig) last = labRest cur s
  | [], cur, last, h1, h2, h3 => by
    unfold nmGo labRest cut
    dsimp only
    rw [List.append_nil]
    by_cases hc : cur = []
    · subst hc
      simp [lab]
    · have hl := h3 hc
      have hlen : 0 < cur.length := List.length_pos_iff.2 hc
      have e1 : lab cur = decide (last ≠ 45) := by
        by_cases hd : last = 45
        · rcases hh : lab cur with _ | _
          · simp [hd]
          · have := (lab_iff.1 hh).2.2.2
            rw [hl, hd] at this
            exact absurd rfl this
        · rw [lab_iff.2 ⟨hc, h1, h2, by rw [hl]; simpa using hd⟩]
          simp [hd]
      simp [e1, hlen]
  | c :: r, cur, last, h1, h2, h3 => by
    obtain ⟨x, t, he⟩ : ∃ x t, cut 46 r = x :: t := by
      cases h : cut 46 r with
      | nil => exact absurd h (cut_ne 46 r)
      | cons x t => exact ⟨x, t, rfl⟩
    unfold nmGo
    by_cases hc : c = 46
    · subst hc
      rw [if_pos rfl]
      have e0 : labRest cur (46 :: r) = (lab cur && labRest [] r) := by
        unfold labRest
        rw [cut_at, he]
        dsimp only
        rw [List.append_nil, List.nil_append, List.all_cons, List.getLast?_cons_cons, Bool.and_assoc]
      rw [e0]
      by_cases hb : cur.length = 0 ∨ last = 45
      · rw [if_pos hb]
        have : lab cur = false := by
          rcases hh : lab cur with _ | _
          · rfl
          · obtain ⟨q1, q2, q3, q4⟩ := lab_iff.1 hh
            rcases hb with hb | hb
            · exact absurd (List.length_eq_zero_iff.1 hb) q1
            · rw [h3 q1, hb] at q4
              exact absurd rfl q4
        rw [this]
        rfl
      · rw [if_neg hb]
        have hne : cur ≠ [] := fun e => hb (.inl (by rw [e]; rfl))
        have : lab cur = true := lab_iff.2 ⟨hne, h1, h2, by rw [h3 hne]; intro e; cases e; exact hb (.inr rfl)⟩
        rw [this, Bool.true_and]
        exact nmGo_lab r [] 46 (by simp) (by simp) (fun e => absurd rfl e)
    · rw [if_neg hc]
      have e0 : labRest cur (c :: r) = labRest (cur ++ [c]) r := by
        unfold labRest
        rw [cut_other hc r he, he]
        dsimp only
        rw [List.append_assoc]
        rfl
      rw [e0]
      by_cases hb : okc c = false ∨ (c = 45 ∧ cur.length = 0)
      · rw [if_pos hb]
        unfold labRest
        rw [he]
        dsimp only
        have : lab (cur ++ [c] ++ x) = false := by
          rcases hh : lab (cur ++ [c] ++ x) with _ | _
          · rfl
          · obtain ⟨q1, q2, q3, q4⟩ := lab_iff.1 hh
            rcases hb with hb | ⟨hb, hb2⟩
            · have := q2 c (by simp)
              rw [hb] at this
              cases this
            · obtain rfl : cur = [] := List.length_eq_zero_iff.1 hb2
              subst hb
              exact absurd rfl q3
        rw [List.all_cons, this]
        rfl
      · rw [if_neg hb]
        have hok : okc c = true := by
          rcases h : okc c with _ | _
          · exact absurd (.inl h) hb
          · rfl
        have := nmGo_lab r (cur ++ [c]) c (fun d hd => by
          rcases List.mem_append.1 hd with hd | hd
          · exact h1 d hd
          · obtain rfl : d = c := by simpa using hd
            exact hok) (by
          cases cur with
          | nil => simp; intro e; exact hb (.inr ⟨e, rfl⟩)
          | cons d cur => simpa using h2) (fun _ => by simp)
        rw [← this]
        simp
/-- the loop over a text, from its start -/
theorem nmGo_name {s : Str} (h : s.length ≤ 40) (c : UInt8) : nmGo s 0 true c = nameB s := by
  have := nmGo_lab s [] c (by simp) (by simp) (fun e => absurd rfl e)
  rw [show nmGo s 0 true c = nmGo s ([] : Str).length (([] : Str).all dig) c from rfl, this]
  unfold labRest nameB
  cases he : cut 46 s with
  | nil => exact absurd he (cut_ne 46 s)
  | cons x t =>
    dsimp only
    rw [List.nil_append, decide_eq_true h, Bool.true_and]
theorem nameB_long {s : Str} (h : ¬ s.length ≤ 40) : nameB s = false := by
  unfold nameB
  rw [decide_eq_false h]
  rfl
theorem nameB_nil : nameB [] = false := by decide

/-! ### texts with a byte between, one more -/
theorem join_snoc {a : UInt8} : ∀ {l : List Str} (x : Str), l ≠ [] → join a (l ++ [x]) = join a l ++ a :: x
  | [], x, h => absurd rfl h
  | [y], x, _ => rfl
  | y :: z :: l, x, _ => by
    show y ++ a :: join a ((z :: l) ++ [x]) = (y ++ a :: join a (z :: l)) ++ a :: x
    rw [join_snoc x (by simp)]
    simp
theorem take_snoc' {l : List Str} {i : Nat} {x : Str} (h : l[i]? = some x) : l.take (i + 1) = l.take i ++ [x] := by rw [List.take_add_one, h]; rfl
/-- the first i texts, with a byte between -/
theorem join_take {a : UInt8} {l : List Str} {i : Nat} {x : Str} (h : l[i]? = some x) : join a (l.take (i + 1)) = join a (l.take i) ++ ((if i = 0 then [] else [a]) ++ x) := by
  rw [take_snoc' h]
  by_cases hi : i = 0
  · subst hi
    simp [join]
  · have hl := (List.getElem?_eq_some_iff.1 h).1
    rw [if_neg hi, join_snoc x (fun e => by have := congrArg List.length e; rw [List.length_take, List.length_nil] at this; omega)]
    rfl

/-! ### the text of groups, group by group -/
def out6 (l : List Str) (k m i : Nat) : Str := if m = 0 ∨ i ≤ k then join 58 (l.take i) else join 58 (l.take k) ++ 58 :: 58 :: join 58 ((l.drop (k + m)).take (i - (k + m)))
theorem out6_start (l : List Str) (k m : Nat) : out6 l k m 0 = [] := by
  unfold out6
  rw [if_pos (.inr (Nat.zero_le _))]
  rfl
theorem out6_before {l : List Str} {k m i : Nat} {x : Str} (h : l[i]? = some x) (hi : m = 0 ∨ i < k) : out6 l k m (i + 1) = out6 l k m i ++ ((if i = 0 then [] else [58]) ++ x) := by
  unfold out6
  rw [if_pos (hi.imp id (by omega)), if_pos (hi.imp id (by omega)), join_take h]
theorem out6_row {l : List Str} {k m : Nat} (hm : 0 < m) : out6 l k m (k + m) = out6 l k m k ++ [58, 58] := by
  unfold out6
  rw [if_neg (by omega), if_pos (.inr (Nat.le_refl _)), Nat.sub_self]
  rfl
theorem out6_behind {l : List Str} {k m i : Nat} {x : Str} (h : l[i]? = some x) (hm : 0 < m) (hi : k + m ≤ i) : out6 l k m (i + 1) = out6 l k m i ++ ((if i = k + m then [] else [58]) ++ x) := by
  unfold out6
  have e : (l.drop (k + m))[i - (k + m)]? = some x := by rw [List.getElem?_drop, ← h]; congr 1; omega
  rw [if_neg (by omega), if_neg (by omega), show i + 1 - (k + m) = i - (k + m) + 1 by omega, join_take e]
  by_cases hik : i = k + m
  · rw [if_pos (by omega), if_pos hik]
    simp
  · rw [if_neg (by omega), if_neg hik]
    simp
theorem out6_end {l : List Str} {k m : Nat} (h8 : l.length = 8) (hk : m = 0 ∨ k + m ≤ 8) : out6 l k m 8 = tx6 l k m := by
  unfold out6 tx6
  by_cases hm : m = 0
  · rw [if_pos (.inl hm), if_pos hm, List.take_of_length_le (by omega)]
  · rw [if_neg (by omega), if_neg hm, List.take_of_length_le (l := l.drop (k + m)) (by simp; omega)]

/-! ### the longest row of noughts, place by place -/
theorem zr_at : ∀ {g : List Nat} {k : Nat}, (∀ j, j < k → g[j]? = some 0) → g[k]? ≠ some 0 → zr g = k
  | [], 0, _, _ => rfl
  | [], k + 1, h, _ => by have := h 0 (by omega); simp at this
  | v :: g, 0, _, h => by
    unfold zr
    rw [if_neg (by simpa using h)]
  | v :: g, k + 1, h, h2 => by
    have h0 : v = 0 := by simpa using h 0 (by omega)
    unfold zr
    rw [if_pos h0, zr_at (g := g) (k := k) (fun j hj => by simpa using h (j + 1) (by omega)) (by simpa using h2)]
theorem zr_drop {g : List Nat} {i k : Nat} (hik : i ≤ k) (h : ∀ j, i ≤ j → j < k → g[j]? = some 0) (h2 : g[k]? ≠ some 0) : zr (g.drop i) = k - i :=
  zr_at (fun j hj => by rw [List.getElem?_drop]; exact h (i + j) (by omega) (by omega)) (by rw [List.getElem?_drop, show i + (k - i) = k by omega]; exact h2)
theorem bst_step {g : List Nat} {i r : Nat} (h : zr (g.drop i) = r) : bst g (i + 1) = if r > (bst g i).2 ∧ 2 ≤ r then (i, r) else bst g i := by
  show (if zr (g.drop i) > (bst g i).2 ∧ 2 ≤ zr (g.drop i) then (i, zr (g.drop i)) else bst g i) = _
  rw [h]

/-! ### digits, one by one -/
theorem dv_iff {c : UInt8} {d : Nat} : dv c = some d ↔ d < 16 ∧ dg d = c := ⟨fun h => ⟨dv_lt h, dg_dv h⟩, fun ⟨h, e⟩ => by rw [← e]; exact dv_dg h⟩
theorem dv_none {c : UInt8} (h : ∀ d, d < 16 → dg d ≠ c) : dv c = none := by
  cases hd : dv c with
  | none => rfl
  | some d => exact absurd (dv_iff.1 hd).2 (h d (dv_iff.1 hd).1)
theorem dv_dig {c : UInt8} (h : 48 ≤ c.toNat ∧ c.toNat ≤ 57) : dv c = some (c.toNat - 48) := by unfold dv; rw [if_pos h]
theorem dv_dig_lt {c : UInt8} {d : Nat} (h : dv c = some d) (hd : d < 10) : 48 ≤ c.toNat ∧ c.toNat ≤ 57 := by
  unfold dv at h
  split at h
  · rename_i hc
    exact hc
  · split at h
    · cases h; omega
    · cases h
theorem vl_step {b : Nat} {s : Str} {i : Nat} {c : UInt8} {a : Nat} (hs : s[i]? = some c) (h : vl b (s.take i) 0 = some a) : vl b (s.take (i + 1)) 0 = match dv c with
    | none => none
    | some d => if d < b then some (a * b + d) else none := by
  rw [List.take_add_one, hs, vl_append, h]
  show vl b [c] a = _
  rw [vl_cons]
  rfl
/-- where a digit is none, there is no value -/
theorem vl_bad {b : Nat} {s : Str} {i : Nat} (h : vl b (s.take i) 0 = none) : vl b s 0 = none := by
  rw [← List.take_append_drop i s, vl_append, h]
  rfl
theorem vl_take_lt {b : Nat} {s : Str} {i a : Nat} (h : vl b (s.take i) 0 = some a) (hi : i ≤ s.length) : a < b ^ i := by
  have := vl_lt h
  rw [List.length_take, Nat.min_eq_left hi] at this
  omega

/-! ### pieces, one by one -/
theorem grps_cons (x : Str) (r : List Str) : grps (x :: r) = match grp x with
    | none => none
    | some v => match grps r with
      | none => none
      | some t => some (v :: t) := rfl
theorem grps_append : ∀ (l m : List Str), grps (l ++ m) = match grps l with
    | none => none
    | some a => match grps m with
      | none => none
      | some b => some (a ++ b)
  | [], m => by
    show grps m = match grps m with
      | none => none
      | some b => some ([] ++ b)
    cases grps m <;> rfl
  | x :: l, m => by
    show grps (x :: (l ++ m)) = _
    rw [grps_cons, grps_cons, grps_append l m]
    cases grp x with
    | none => rfl
    | some v =>
      dsimp only
      cases grps l with
      | none => rfl
      | some a =>
        dsimp only
        cases grps m with
        | none => rfl
        | some b => rfl
theorem decs_cons (x : Str) (r : List Str) : decs (x :: r) = match dec x 255 with
    | none => none
    | some v => match decs r with
      | none => none
      | some t => some (v :: t) := rfl
theorem decs_append : ∀ (l m : List Str), decs (l ++ m) = match decs l with
    | none => none
    | some a => match decs m with
      | none => none
      | some b => some (a ++ b)
  | [], m => by
    show decs m = match decs m with
      | none => none
      | some b => some ([] ++ b)
    cases decs m <;> rfl
  | x :: l, m => by
    show decs (x :: (l ++ m)) = _
    rw [decs_cons, decs_cons, decs_append l m]
    cases dec x 255 with
    | none => rfl
    | some v =>
      dsimp only
      cases decs l with
      | none => rfl
      | some a =>
        dsimp only
        cases decs m with
        | none => rfl
        | some b => rfl
theorem by2_append : ∀ (a b : List Nat), by2 (a ++ b) = by2 a ++ by2 b
  | [], b => rfl
  | v :: a, b => by
    show _ :: _ :: by2 (a ++ b) = _
    rw [by2_append a b]
    rfl
theorem by2_noughts : ∀ k : Nat, by2 (List.replicate k 0) = List.replicate (2 * k) 0
  | 0 => rfl
  | k + 1 => by
    rw [List.replicate_succ, show 2 * (k + 1) = 2 * k + 1 + 1 by omega, List.replicate_succ, List.replicate_succ]
    show _ :: _ :: by2 (List.replicate k 0) = _
    rw [by2_noughts k]
    rfl

end Go.Proofs.YtefpplkoohnfbaaDoor.hostp
