/-
  Given for the seat's laws: a health table, plain: the first place that fits, a reload parent by parent, the rows of the plan of probes as a set. No condition but those of the theorems.
-/
import Derived.Test.YtpidjekabnnmcaaQPure
namespace Go.Proofs.Ytpidjekabnnmcaa.hp
open pb
set_option linter.unusedVariables false

/-! ### the first place that fits -/
/-- among the first j places; -1: none -/
def fnd (ok : Nat → Bool) : Nat → Int
  | 0 => -1
  | j + 1 => if fnd ok j < 0 ∧ ok j = true then (j : Int) else fnd ok j
theorem fnd_bound (ok : Nat → Bool) (j : Nat) : -1 ≤ fnd ok j ∧ fnd ok j < (j : Int) := by
  induction j with
  | zero => simp [fnd]
  | succ j ih => unfold fnd; split <;> omega
theorem fnd_none {ok : Nat → Bool} {j : Nat} : fnd ok j = -1 ↔ ∀ i, i < j → ok i = false := by
  induction j with
  | zero => simp [fnd]
  | succ j ih =>
    unfold fnd
    constructor
    · intro h i hi
      split at h
      · omega
      · rename_i hc
        have h1 := ih.1 h
        by_cases e : i = j
        · subst e
          cases hok : ok i with
          | false => rfl
          | true => exact absurd ⟨by omega, hok⟩ hc
        · exact h1 i (by omega)
    · intro h
      rw [if_neg (by rintro ⟨_, hc⟩; rw [h j (by omega)] at hc; cases hc)]
      exact ih.2 fun i hi => h i (by omega)
theorem fnd_some {ok : Nat → Bool} {j k : Nat} (h : fnd ok j = (k : Int)) : k < j ∧ ok k = true ∧ ∀ i, i < k → ok i = false := by
  induction j with
  | zero => simp [fnd] at h
  | succ j ih =>
    unfold fnd at h
    split at h
    · rename_i hc
      have hk : k = j := by omega
      subst hk
      have hb := fnd_bound ok k
      exact ⟨by omega, hc.2, fnd_none.1 (by omega)⟩
    · obtain ⟨h1, h2, h3⟩ := ih h
      exact ⟨by omega, h2, h3⟩
theorem fnd_cases (ok : Nat → Bool) (j : Nat) : fnd ok j = -1 ∨ ∃ k : Nat, fnd ok j = (k : Int) := by
  have := fnd_bound ok j
  by_cases h : fnd ok j < 0
  · exact .inl (by omega)
  · exact .inr ⟨(fnd ok j).toNat, by omega⟩
/-- the place that fits alone is found -/
theorem fnd_only {ok : Nat → Bool} {j k : Nat} (hk : k < j) (h : ok k = true) (hb : ∀ i, i < j → i ≠ k → ok i = false) : fnd ok j = (k : Int) := by
  rcases fnd_cases ok j with h1 | ⟨m, h1⟩
  · rw [fnd_none.1 h1 k hk] at h; cases h
  · obtain ⟨h2, h3, _⟩ := fnd_some h1
    by_cases e : m = k
    · rw [h1, e]
    · rw [hb m h2 e] at h3; cases h3

/-! ### a reload -/
section
variable {α β : Type}
/-- a record: its key, its parent, what is kept of it -/
structure Rc (α β : Type) where
  key : Int
  pa : α
  st : β
/-- what a reload has come to: which records are taken over, the next key, the records so far -/
structure RS (α β : Type) where
  taken : List Bool
  next : Int
  out : List (Rc α β)
def fits [DecidableEq α] (R : List (Rc α β)) (t : List Bool) (p : α) (k : Nat) : Bool :=
  match R[k]? with
  | some x => !(t.getD k true) && decide (x.pa = p)
  | none => false
def rstep [DecidableEq α] (init : β) (R : List (Rc α β)) (p : α) (s : RS α β) : RS α β :=
  if fnd (fits R s.taken p) R.length < 0 then { s with next := s.next + 1, out := s.out ++ [⟨s.next, p, init⟩] }
  else
    match R[(fnd (fits R s.taken p) R.length).toNat]? with
    | some x => { s with taken := s.taken.set (fnd (fits R s.taken p) R.length).toNat true, out := s.out ++ [x] }
    | none => s
def reload [DecidableEq α] (init : β) (R : List (Rc α β)) (ps : List α) (next : Int) : RS α β := ps.foldl (fun s p => rstep init R p s) ⟨List.replicate R.length false, next, []⟩

/-- what stands all along -/
structure RInv (init : β) (R : List (Rc α β)) (n0 : Int) (ps : List α) (s : RS α β) : Prop where
  len : s.taken.length = R.length
  many : s.out.length = ps.length
  next : n0 ≤ s.next ∧ s.next ≤ n0 + (ps.length : Int)
  each : ∀ x ∈ s.out, (n0 ≤ x.key ∧ x.key < s.next ∧ x.st = init) ∨ ∃ k : Nat, R[k]? = some x ∧ s.taken[k]? = some true
  back : ∀ (k : Nat) (x : Rc α β), R[k]? = some x → s.taken[k]? = some true → x ∈ s.out
  pars : s.out.map (·.pa) = ps
theorem rinv_start (init : β) (R : List (Rc α β)) (n0 : Int) : RInv init R n0 [] ⟨List.replicate R.length false, n0, []⟩ :=
  ⟨by simp, rfl, by simp, fun x hx => by simp at hx, fun k x hx ht => by rw [List.getElem?_replicate] at ht; split at ht <;> simp at ht, rfl⟩
theorem rinv_step [DecidableEq α] {init : β} {R : List (Rc α β)} {n0 : Int} {ps : List α} {s : RS α β} (h : RInv init R n0 ps s) (p : α) : RInv init R n0 (ps ++ [p]) (rstep init R p s) := by
  unfold rstep
  have hn := h.next
  by_cases hf : fnd (fits R s.taken p) R.length < 0
  · rw [if_pos hf]
    refine ⟨h.len, by simp [h.many], ⟨by show n0 ≤ s.next + 1; omega, by show s.next + 1 ≤ _; simp; omega⟩, fun x hx => ?_, fun k x hx ht => List.mem_append_left _ (h.back k x hx ht), by simp [h.pars]⟩
    rcases List.mem_append.1 hx with hx | hx
    · rcases h.each x hx with h1 | h1
      · exact .inl ⟨h1.1, by show x.key < s.next + 1; omega, h1.2.2⟩
      · exact .inr h1
    · simp at hx
      subst hx
      exact .inl ⟨hn.1, by show s.next < s.next + 1; omega, rfl⟩
  · rw [if_neg hf]
    obtain ⟨k, hk⟩ : ∃ k : Nat, fnd (fits R s.taken p) R.length = (k : Int) := ⟨(fnd (fits R s.taken p) R.length).toNat, by omega⟩
    obtain ⟨h1, h2, _⟩ := fnd_some hk
    rw [hk, Int.toNat_natCast]
    obtain ⟨x, hx⟩ : ∃ x, R[k]? = some x := ⟨_, List.getElem?_eq_getElem h1⟩
    rw [hx]
    have hp : x.pa = p := by
      unfold fits at h2
      rw [hx] at h2
      simp at h2
      exact h2.2
    have hkl : k < s.taken.length := by rw [h.len]; exact h1
    refine ⟨by simp [h.len], by simp [h.many], ⟨hn.1, by show s.next ≤ _; simp; omega⟩, fun y hy => ?_, fun j y hy ht => ?_, by simp [h.pars, hp]⟩
    · rcases List.mem_append.1 hy with hy | hy
      · rcases h.each y hy with h3 | ⟨j, hj, ht⟩
        · exact .inl h3
        · refine .inr ⟨j, hj, ?_⟩
          show (s.taken.set k true)[j]? = some true
          rw [List.getElem?_set]
          split
          · simp
          · exact ht
      · simp at hy
        subst hy
        refine .inr ⟨k, hx, ?_⟩
        show (s.taken.set k true)[k]? = some true
        simp [hkl]
    · change (s.taken.set k true)[j]? = some true at ht
      rw [List.getElem?_set] at ht
      split at ht
      · rename_i e
        subst e
        rw [hx] at hy
        cases hy
        simp
      · exact List.mem_append_left _ (h.back j y hy ht)
theorem rinv_all [DecidableEq α] (init : β) (R : List (Rc α β)) (n0 : Int) (ps : List α) : RInv init R n0 ps (reload init R ps n0) := by
  unfold reload
  have : ∀ (qs rs : List α) (s : RS α β), RInv init R n0 rs s → RInv init R n0 (rs ++ qs) (qs.foldl (fun s p => rstep init R p s) s) := by
    intro qs
    induction qs with
    | nil => intro rs s h; simpa using h
    | cons q qs ih =>
      intro rs s h
      have := ih (rs ++ [q]) (rstep init R q s) (rinv_step h q)
      simpa using this
  exact this ps [] _ (rinv_start init R n0)
end

/-! ### the rows of the plan as a set -/
theorem mem_ins {k : Int} {l : List Rw} {x : Rw} : x ∈ ins k l ↔ x = (k, 0) ∨ x ∈ l := by
  unfold ins
  rw [List.mem_append, List.mem_cons]
  constructor
  · rintro (h | h | h)
    · exact .inr (List.mem_of_mem_take h)
    · exact .inl h
    · exact .inr (List.mem_of_mem_drop h)
  · rintro (h | h)
    · exact .inr (.inl h)
    · rw [← List.take_append_drop (pos k l) l, List.mem_append] at h
      rcases h with h | h
      · exact .inl h
      · exact .inr (.inr h)
theorem asc_key {l : List Rw} (h : Asc l) {x y : Rw} (hx : x ∈ l) (hy : y ∈ l) (e : x.1 = y.1) : x = y := by
  obtain ⟨i, hi⟩ := List.getElem?_of_mem hx
  obtain ⟨j, hj⟩ := List.getElem?_of_mem hy
  rcases Nat.lt_trichotomy i j with hl | hl | hl
  · have := h i j x y hl hi hj; omega
  · subst hl; rw [hi] at hj; cases hj; rfl
  · have := h j i y x hl hj hi; omega
theorem mem_del {k : Int} {l : List Rw} (h : Asc l) {x : Rw} : x ∈ del k l ↔ x ∈ l ∧ x.1 ≠ k := by
  constructor
  · intro hx
    obtain ⟨i, hi⟩ := List.getElem?_of_mem hx
    rw [del_get] at hi
    by_cases hlt : i < idx k l
    · rw [if_pos hlt] at hi
      exact ⟨List.mem_of_getElem? hi, idx_before hlt hi⟩
    · rw [if_neg hlt] at hi
      refine ⟨List.mem_of_getElem? hi, fun e => ?_⟩
      obtain ⟨y, hy, hk⟩ := idx_get (k := k) (l := l) (by have := (List.getElem?_eq_some_iff.1 hi).1; omega)
      have := h _ _ y x (show idx k l < i + 1 by omega) hy hi
      omega
  · rintro ⟨hx, hne⟩
    obtain ⟨i, hi⟩ := List.getElem?_of_mem hx
    have hik : i ≠ idx k l := fun e => by
      obtain ⟨y, hy, hk⟩ := idx_get (k := k) (l := l) (by have := (List.getElem?_eq_some_iff.1 hi).1; omega)
      rw [e, hy] at hi
      cases hi
      exact hne hk
    rcases Nat.lt_or_ge i (idx k l) with hlt | hge
    · exact List.mem_of_getElem? (i := i) (by rw [del_get, if_pos hlt]; exact hi)
    · exact List.mem_of_getElem? (i := i - 1) (by rw [del_get, if_neg (by omega), show i - 1 + 1 = i by omega]; exact hi)
theorem has_iff {k : Int} {l : List Rw} : idx k l < l.length ↔ ∃ x ∈ l, x.1 = k := by
  constructor
  · intro h
    obtain ⟨x, hx, hk⟩ := idx_get h
    exact ⟨x, List.mem_of_getElem? hx, hk⟩
  · rintro ⟨x, hx, hk⟩
    have hle := idx_le k l
    rcases Nat.lt_or_ge (idx k l) l.length with h | h
    · exact h
    · obtain ⟨i, hi⟩ := List.getElem?_of_mem hx
      have := (List.getElem?_eq_some_iff.1 hi).1
      exact absurd hk (idx_before (by omega) hi)
/-- ascending rows are told by what is among them -/
theorem asc_ext {l m : List Rw} (hl : Asc l) (hm : Asc m) (h : ∀ x, x ∈ l ↔ x ∈ m) : l = m := by
  have pw : ∀ {l : List Rw}, Asc l → l.Pairwise (fun a b => a.1 < b.1) := fun {l} ha => by
    rw [List.pairwise_iff_getElem]
    intro i j hi hj hij
    exact ha i j _ _ hij (List.getElem?_eq_getElem hi) (List.getElem?_eq_getElem hj)
  have go : ∀ (l m : List Rw), l.Pairwise (fun a b => a.1 < b.1) → m.Pairwise (fun a b => a.1 < b.1) → (∀ x, x ∈ l ↔ x ∈ m) → l = m := by
    intro l
    induction l with
    | nil =>
      intro m _ _ h
      cases m with
      | nil => rfl
      | cons b m => exact absurd ((h b).2 (by simp)) (by simp)
    | cons a l ih =>
      intro m h1 h2 h
      cases m with
      | nil => exact absurd ((h a).1 (by simp)) (by simp)
      | cons b m =>
        obtain ⟨p1, p2⟩ := List.pairwise_cons.1 h1
        obtain ⟨q1, q2⟩ := List.pairwise_cons.1 h2
        have hab : a = b := by
          rcases List.mem_cons.1 ((h a).1 (by simp)) with e | e
          · exact e
          · rcases List.mem_cons.1 ((h b).2 (by simp)) with e' | e'
            · exact e'.symm
            · have := q1 a e; have := p1 b e'; omega
        subst hab
        congr 1
        refine ih m p2 q2 fun x => ?_
        constructor
        · intro hx
          rcases List.mem_cons.1 ((h x).1 (List.mem_cons_of_mem _ hx)) with e | e
          · subst e; have := p1 _ hx; omega
          · exact e
        · intro hx
          rcases List.mem_cons.1 ((h x).2 (List.mem_cons_of_mem _ hx)) with e | e
          · subst e; have := q1 _ hx; omega
          · exact e
  exact go l m (pw hl) (pw hm) h

/-! ### a reload of parents that are all known -/
section
variable {α β : Type}
/-- no two records have one parent -/
def Unlike (R : List (Rc α β)) : Prop := ∀ (i k : Nat) (x y : Rc α β), R[i]? = some x → R[k]? = some y → x.pa = y.pa → i = k
theorem unlike_mem {R : List (Rc α β)} (h : Unlike R) {x y : Rc α β} (hx : x ∈ R) (hy : y ∈ R) (e : x.pa = y.pa) : x = y := by
  obtain ⟨i, hi⟩ := List.getElem?_of_mem hx
  obtain ⟨k, hk⟩ := List.getElem?_of_mem hy
  have := h i k x y hi hk e
  subst this
  rw [hi] at hk
  cases hk
  rfl
/-- while such a reload goes on -/
structure Kn (R : List (Rc α β)) (n : Int) (rs : List α) (s : RS α β) : Prop where
  next : s.next = n
  len : s.taken.length = R.length
  took : ∀ (k : Nat) (x : Rc α β), R[k]? = some x → (s.taken.getD k true = true ↔ x.pa ∈ rs)
  pars : s.out.map (·.pa) = rs
  old : ∀ y ∈ s.out, y ∈ R
theorem kn_step [DecidableEq α] {init : β} {R : List (Rc α β)} {n : Int} {rs : List α} {s : RS α β} (hR : Unlike R) (h : Kn R n rs s) {p : α} (hp : p ∉ rs) (hin : ∃ x ∈ R, x.pa = p) : Kn R n (rs ++ [p]) (rstep init R p s) := by
  obtain ⟨x, hx, hxp⟩ := hin
  obtain ⟨k, hk⟩ := List.getElem?_of_mem hx
  have hkl := (List.getElem?_eq_some_iff.1 hk).1
  have htk : s.taken.getD k true = false := by
    cases ht : s.taken.getD k true with
    | false => rfl
    | true => exact absurd (hxp ▸ (h.took k x hk).1 ht) hp
  have hf : fnd (fits R s.taken p) R.length = (k : Int) := by
    refine fnd_only hkl ?_ fun i hi hne => ?_
    · unfold fits
      rw [hk, htk]
      simp [hxp]
    · unfold fits
      obtain ⟨y, hy⟩ : ∃ y, R[i]? = some y := ⟨_, List.getElem?_eq_getElem hi⟩
      rw [hy]
      have : y.pa ≠ p := fun e => hne (hR i k y x hy hk (by rw [e, hxp]))
      simp [this]
  unfold rstep
  rw [hf, if_neg (by omega), Int.toNat_natCast, hk]
  refine ⟨h.next, by simp [h.len], fun j y hy => ?_, by simp [h.pars, hxp], fun y hy => ?_⟩
  · show (s.taken.set k true).getD j true = true ↔ _
    have hj := (List.getElem?_eq_some_iff.1 hy).1
    by_cases e : k = j
    · subst e
      rw [hk] at hy
      cases hy
      constructor
      · intro _; simp [hxp]
      · intro _; rw [List.getD_eq_getElem?_getD, List.getElem?_set]; simp [h.len, hkl]
    · rw [List.getD_eq_getElem?_getD, List.getElem?_set, if_neg e, ← List.getD_eq_getElem?_getD, h.took j y hy]
      have hne : y.pa ≠ p := fun e' => e (hR k j x y hk hy (by rw [e', hxp]))
      simp [hne]
  · rcases List.mem_append.1 hy with hy | hy
    · exact h.old y hy
    · simp at hy
      subst hy
      exact hx
theorem kn_all [DecidableEq α] (init : β) {R : List (Rc α β)} (n : Int) {ps : List α} (hR : Unlike R) (hp : ps.Nodup) (hin : ∀ p ∈ ps, ∃ x ∈ R, x.pa = p) : Kn R n ps (reload init R ps n) := by
  unfold reload
  have : ∀ (qs rs : List α) (s : RS α β), (rs ++ qs).Nodup → (∀ p ∈ qs, ∃ x ∈ R, x.pa = p) → Kn R n rs s → Kn R n (rs ++ qs) (qs.foldl (fun s p => rstep init R p s) s) := by
    intro qs
    induction qs with
    | nil => intro rs s _ _ h; simpa using h
    | cons q qs ih =>
      intro rs s hn hq h
      have hn2 : (rs ++ [q] ++ qs).Nodup := by simpa using hn
      have hqr : q ∉ rs := fun e => by
        rw [List.nodup_append] at hn
        exact hn.2.2 q e q (by simp) rfl
      have := ih (rs ++ [q]) (rstep init R q s) hn2 (fun p hp => hq p (List.mem_cons_of_mem _ hp)) (kn_step hR h hqr (hq q (by simp)))
      simpa using this
  refine this ps [] _ (by simpa using hp) hin ⟨rfl, by simp, fun k x hk => ?_, rfl, fun y hy => by simp at hy⟩
  have hkl := (List.getElem?_eq_some_iff.1 hk).1
  rw [List.getD_eq_getElem?_getD, List.getElem?_replicate, if_pos hkl]
  simp
end

/-! ### rows dropped and added, key by key -/
def dropAll (ks : List Int) (M : List Rw) : List Rw := ks.foldl (fun M k => if idx k M < M.length then del k M else M) M
def addAll (ks : List Int) (M : List Rw) : List Rw := ks.foldl (fun M k => if idx k M < M.length then M else ins k M) M
theorem dropAll_asc (ks : List Int) {M : List Rw} (h : Asc M) : Asc (dropAll ks M) := by
  unfold dropAll
  induction ks generalizing M with
  | nil => exact h
  | cons k ks ih =>
    rw [List.foldl_cons]
    by_cases hk : idx k M < M.length
    · rw [if_pos hk]; exact ih (asc_del h)
    · rw [if_neg hk]; exact ih h
theorem mem_dropAll (ks : List Int) {M : List Rw} (h : Asc M) {x : Rw} : x ∈ dropAll ks M ↔ x ∈ M ∧ x.1 ∉ ks := by
  unfold dropAll
  induction ks generalizing M with
  | nil => simp
  | cons k ks ih =>
    rw [List.foldl_cons]
    by_cases hk : idx k M < M.length
    · rw [if_pos hk, ih (asc_del h), mem_del h, List.mem_cons, not_or, and_assoc]
    · rw [if_neg hk, ih h, List.mem_cons, not_or]
      constructor
      · rintro ⟨h1, h2⟩
        exact ⟨h1, fun e => hk (has_iff.2 ⟨x, h1, e⟩), h2⟩
      · rintro ⟨h1, _, h2⟩
        exact ⟨h1, h2⟩
theorem addAll_asc (ks : List Int) {M : List Rw} (h : Asc M) : Asc (addAll ks M) := by
  unfold addAll
  induction ks generalizing M with
  | nil => exact h
  | cons k ks ih =>
    rw [List.foldl_cons]
    by_cases hk : idx k M < M.length
    · rw [if_pos hk]; exact ih h
    · rw [if_neg hk]; exact ih (asc_ins h hk)
theorem mem_addAll (ks : List Int) {M : List Rw} {x : Rw} : x ∈ addAll ks M ↔ x ∈ M ∨ (x.2 = 0 ∧ x.1 ∈ ks ∧ ¬ ∃ y ∈ M, y.1 = x.1) := by
  unfold addAll
  induction ks generalizing M with
  | nil => simp
  | cons k ks ih =>
    rw [List.foldl_cons]
    by_cases hk : idx k M < M.length
    · rw [if_pos hk, ih]
      have hh := has_iff.1 hk
      constructor
      · rintro (h | ⟨h1, h2, h3⟩)
        · exact .inl h
        · exact .inr ⟨h1, List.mem_cons_of_mem _ h2, h3⟩
      · rintro (h | ⟨h1, h2, h3⟩)
        · exact .inl h
        · rcases List.mem_cons.1 h2 with e | e
          · exact absurd (by rw [e]; exact hh) h3
          · exact .inr ⟨h1, e, h3⟩
    · rw [if_neg hk, ih]
      have hh : ¬ ∃ y ∈ M, y.1 = k := fun e => hk (has_iff.2 e)
      constructor
      · rintro (h | ⟨h1, h2, h3⟩)
        · rcases mem_ins.1 h with e | e
          · subst e; exact .inr ⟨rfl, by simp, hh⟩
          · exact .inl e
        · exact .inr ⟨h1, List.mem_cons_of_mem _ h2, fun ⟨y, hy, e⟩ => h3 ⟨y, mem_ins.2 (.inr hy), e⟩⟩
      · rintro (h | ⟨h1, h2, h3⟩)
        · exact .inl (mem_ins.2 (.inr h))
        · by_cases e : x.1 = k
          · exact .inl (mem_ins.2 (.inl (Prod.ext e h1)))
          · rcases List.mem_cons.1 h2 with e' | e'
            · exact absurd e' e
            · refine .inr ⟨h1, e', fun ⟨y, hy, e2⟩ => ?_⟩
              rcases mem_ins.1 hy with e3 | e3
              · subst e3; exact e e2.symm
              · exact h3 ⟨y, e3, e2⟩
/-- dropped and then added, or the other way round: where no key is in both, the rows are the same -/
theorem drop_add {ks ns : List Int} {M : List Rw} (h : Asc M) (hd : ∀ k ∈ ks, k ∉ ns) : addAll ns (dropAll ks M) = dropAll ks (addAll ns M) := by
  refine asc_ext (addAll_asc _ (dropAll_asc _ h)) (dropAll_asc _ (addAll_asc _ h)) fun x => ?_
  rw [mem_addAll, mem_dropAll ks (addAll_asc _ h), mem_dropAll ks h, mem_addAll]
  constructor
  · rintro (⟨h1, h2⟩ | ⟨h1, h2, h3⟩)
    · exact ⟨.inl h1, h2⟩
    · have hk : x.1 ∉ ks := fun e => hd _ e h2
      exact ⟨.inr ⟨h1, h2, fun ⟨y, hy, e⟩ => h3 ⟨y, (mem_dropAll ks h).2 ⟨hy, by rw [e]; exact hk⟩, e⟩⟩, hk⟩
  · rintro ⟨h1 | ⟨h1, h2, h3⟩, h4⟩
    · exact .inl ⟨h1, h4⟩
    · exact .inr ⟨h1, h2, fun ⟨y, hy, e⟩ => h3 ⟨y, ((mem_dropAll ks h).1 hy).1, e⟩⟩
end Go.Proofs.Ytpidjekabnnmcaa.hp
