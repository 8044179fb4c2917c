/-
  Given for the seat's laws: the texts of hosts as plain lists of bytes: cut at colons and dots, groups, runs of noughts. No program, no memory.
-/
import Derived.Lib.ItoaNum
namespace Go.Proofs.YtefpplkoohnfbaaDoor.hostp
set_option linter.unusedVariables false

abbrev Str := List UInt8

/-! ### cut and put together -/
/-- a text, cut at each such byte -/
def cut (at_ : UInt8) : Str → List Str
  | [] => [[]]
  | c :: r => if c = at_ then [] :: cut at_ r else match cut at_ r with
    | [] => [[c]]
    | h :: t => (c :: h) :: t
/-- texts, with such a byte between -/
def join (at_ : UInt8) : List Str → Str
  | [] => []
  | [x] => x
  | x :: y :: r => x ++ at_ :: join at_ (y :: r)

theorem cut_ne (a : UInt8) (s : Str) : cut a s ≠ [] := by
  cases s with
  | nil => simp [cut]
  | cons c r =>
    unfold cut
    split
    · simp
    · split <;> simp
theorem cut_at (a : UInt8) (r : Str) : cut a (a :: r) = [] :: cut a r := by simp [cut]
theorem cut_other {a c : UInt8} (h : c ≠ a) (r : Str) {x : Str} {t : List Str} (he : cut a r = x :: t) : cut a (c :: r) = (c :: x) :: t := by
  rw [cut, if_neg h, he]
theorem cut_free {a : UInt8} : ∀ {x : Str}, a ∉ x → cut a x = [x]
  | [], _ => rfl
  | c :: r, h => by
    simp only [List.mem_cons, not_or] at h
    exact cut_other (fun e => h.1 e.symm) r (cut_free h.2)
theorem cut_append {a : UInt8} : ∀ {x : Str} (r : Str), a ∉ x → cut a (x ++ a :: r) = x :: cut a r
  | [], r, _ => cut_at a r
  | c :: x, r, h => by
    simp only [List.mem_cons, not_or] at h
    exact cut_other (fun e => h.1 e.symm) _ (cut_append r h.2)
theorem cut_join {a : UInt8} : ∀ {l : List Str}, l ≠ [] → (∀ x ∈ l, a ∉ x) → cut a (join a l) = l
  | [], h, _ => absurd rfl h
  | [x], _, h => cut_free (h x (by simp))
  | x :: y :: r, _, h => by
    show cut a (x ++ a :: join a (y :: r)) = _
    rw [cut_append _ (h x (by simp)), cut_join (by simp) (fun z hz => h z (by simp [hz]))]
theorem join_cut (a : UInt8) : ∀ s : Str, join a (cut a s) = s
  | [] => rfl
  | c :: r => by
    have ih := join_cut a r
    obtain ⟨x, t, he⟩ : ∃ x t, cut a r = x :: t := by
      cases h : cut a r with
      | nil => exact absurd h (cut_ne a r)
      | cons x t => exact ⟨x, t, rfl⟩
    by_cases hc : c = a
    · subst hc
      rw [cut_at, he]
      show [] ++ c :: join c (x :: t) = _
      rw [← he, ih]
      rfl
    · rw [cut_other hc r he]
      rw [he] at ih
      cases t with
      | nil => show c :: x = c :: r; rw [← ih]; rfl
      | cons y t => show (c :: x) ++ a :: join a (y :: t) = c :: r; rw [← ih]; rfl
/-- the pieces hold no such byte -/
theorem cut_mem (a : UInt8) : ∀ (s : Str), ∀ x ∈ cut a s, a ∉ x
  | [], x, hx => by simp [cut] at hx; subst hx; simp
  | c :: r, x, hx => by
    obtain ⟨y, t, he⟩ : ∃ x t, cut a r = x :: t := by
      cases h : cut a r with
      | nil => exact absurd h (cut_ne a r)
      | cons x t => exact ⟨x, t, rfl⟩
    have ih := cut_mem a r
    by_cases hc : c = a
    · subst hc
      rw [cut_at] at hx
      rcases List.mem_cons.1 hx with rfl | hx
      · simp
      · exact ih x hx
    · rw [cut_other hc r he] at hx
      rcases List.mem_cons.1 hx with rfl | hx
      · simp only [List.mem_cons, not_or]
        exact ⟨fun e => hc e.symm, ih y (by rw [he]; simp)⟩
      · exact ih x (by rw [he]; simp [hx])
theorem cut_sub (a : UInt8) : ∀ (s : Str), ∀ x ∈ cut a s, ∀ c ∈ x, c ∈ s
  | [], x, hx, c, hc => by simp [cut] at hx; subst hx; simp at hc
  | d :: r, x, hx, c, hc => by
    obtain ⟨y, t, he⟩ : ∃ x t, cut a r = x :: t := by
      cases h : cut a r with
      | nil => exact absurd h (cut_ne a r)
      | cons x t => exact ⟨x, t, rfl⟩
    have ih := cut_sub a r
    by_cases hd : d = a
    · subst hd
      rw [cut_at] at hx
      rcases List.mem_cons.1 hx with rfl | hx
      · simp at hc
      · exact List.mem_cons_of_mem _ (ih x hx c hc)
    · rw [cut_other hd r he] at hx
      rcases List.mem_cons.1 hx with rfl | hx
      · rcases List.mem_cons.1 hc with rfl | hc
        · simp
        · exact List.mem_cons_of_mem _ (ih y (by rw [he]; simp) c hc)
      · exact List.mem_cons_of_mem _ (ih x (by rw [he]; simp [hx]) c hc)
/-- as a loop goes through a text: the pieces that are whole, and the one that grows -/
theorem cut_grow (a : UInt8) : ∀ (s : Str) (w : Str), a ∉ w → ∃ x t, cut a s = x :: t ∧ cut a (w ++ s) = (w ++ x) :: t
  | s, [], _ => by
    cases h : cut a s with
    | nil => exact absurd h (cut_ne a s)
    | cons x t => exact ⟨x, t, rfl, by simpa using h⟩
  | s, c :: w, hw => by
    simp only [List.mem_cons, not_or] at hw
    obtain ⟨x, t, h1, h2⟩ := cut_grow a s w hw.2
    exact ⟨x, t, h1, cut_other (fun e => hw.1 e.symm) _ h2⟩
theorem cut_snoc_at (a : UInt8) : ∀ (s : Str) (l : List Str) (w : Str), cut a s = l ++ [w] → cut a (s ++ [a]) = l ++ [w, []]
  | [], l, w, h => by
    cases l with
    | nil => simp [cut] at h; subst h; simp [cut]
    | cons x l => simp [cut] at h
  | c :: r, l, w, h => by
    obtain ⟨x, t, he⟩ : ∃ x t, cut a r = x :: t := by
      cases h : cut a r with
      | nil => exact absurd h (cut_ne a r)
      | cons x t => exact ⟨x, t, rfl⟩
    by_cases hc : c = a
    · subst hc
      rw [cut_at] at h
      cases l with
      | nil => simp at h; exact absurd h.2 (cut_ne _ _)
      | cons y l =>
        simp only [List.cons_append, List.cons.injEq] at h
        obtain ⟨rfl, h⟩ := h
        show cut c (c :: (r ++ [c])) = _
        rw [cut_at, cut_snoc_at c r l w h]
        rfl
    · rw [cut_other hc r he] at h
      cases l with
      | nil =>
        simp only [List.nil_append, List.cons.injEq] at h
        obtain ⟨rfl, rfl⟩ := h
        have := cut_snoc_at a r [] x (by simpa using he)
        exact cut_other hc _ (by simpa using this)
      | cons y l =>
        simp only [List.cons_append, List.cons.injEq] at h
        obtain ⟨rfl, rfl⟩ := h
        have := cut_snoc_at a r (x :: l) w (by simpa using he)
        exact cut_other hc _ (by simpa using this)
theorem cut_snoc (a : UInt8) {d : UInt8} (hd : d ≠ a) : ∀ (s : Str) (l : List Str) (w : Str), cut a s = l ++ [w] → cut a (s ++ [d]) = l ++ [w ++ [d]]
  | [], l, w, h => by
    cases l with
    | nil => simp [cut] at h; subst h; simp [cut, hd]
    | cons x l => simp [cut] at h
  | c :: r, l, w, h => by
    obtain ⟨x, t, he⟩ : ∃ x t, cut a r = x :: t := by
      cases h : cut a r with
      | nil => exact absurd h (cut_ne a r)
      | cons x t => exact ⟨x, t, rfl⟩
    by_cases hc : c = a
    · subst hc
      rw [cut_at] at h
      cases l with
      | nil => simp at h; exact absurd h.2 (cut_ne _ _)
      | cons y l =>
        simp only [List.cons_append, List.cons.injEq] at h
        obtain ⟨rfl, h⟩ := h
        show cut c (c :: (r ++ [d])) = _
        rw [cut_at, cut_snoc c hd r l w h]
        rfl
    · rw [cut_other hc r he] at h
      cases l with
      | nil =>
        simp only [List.nil_append, List.cons.injEq] at h
        obtain ⟨rfl, rfl⟩ := h
        have := cut_snoc a hd r [] x (by simpa using he)
        exact cut_other hc _ (by simpa using this)
      | cons y l =>
        simp only [List.cons_append, List.cons.injEq] at h
        obtain ⟨rfl, rfl⟩ := h
        have := cut_snoc a hd r (x :: l) w (by simpa using he)
        exact cut_other hc _ (by simpa using this)

/-! ### the first '::' -/
def cutDC : Str → Option (Str × Str)
  | a :: b :: r => if a = 58 ∧ b = 58 then some ([], r) else (cutDC (b :: r)).map fun p => (a :: p.1, p.2)
  | _ => none
theorem cutDC_free : ∀ {x : Str}, (58 : UInt8) ∉ x → cutDC x = none
  | [], _ => rfl
  | [_], _ => rfl
  | a :: b :: r, h => by
    have h1 : a ≠ 58 := fun e => h (by simp [e])
    unfold cutDC
    rw [if_neg (fun e => h1 e.1), cutDC_free (fun e => h (List.mem_cons_of_mem _ e))]
    rfl
/-- behind bytes that are none, and one more -/
theorem cutDC_skip : ∀ {x : Str}, (58 : UInt8) ∉ x → x ≠ [] → ∀ {r : Str} (c : UInt8), cutDC (x ++ r) = (cutDC (x.getLast! :: r)).map fun p => (x.dropLast ++ p.1, p.2)
  | [], _, h, _, _ => absurd rfl h
  | [a], _, _, r, _ => by
    show cutDC (a :: r) = (cutDC (a :: r)).map fun p => ([] ++ p.1, p.2)
    cases cutDC (a :: r) <;> simp
  | a :: b :: x, h, _, r, c => by
    have h1 : a ≠ 58 := fun e => h (by simp [e])
    have ih := cutDC_skip (x := b :: x) (fun e => h (List.mem_cons_of_mem _ e)) (by simp) (r := r) c
    show cutDC (a :: b :: (x ++ r)) = _
    rw [cutDC, if_neg (fun e => h1 e.1)]
    have e1 : b :: (x ++ r) = (b :: x) ++ r := rfl
    rw [e1, ih]
    have e2 : (a :: b :: x).getLast! = (b :: x).getLast! := by simp [List.getLast!]
    rw [e2]
    cases cutDC ((b :: x).getLast! :: r) <;> simp
/-- pieces, then '::': that is the first one -/
theorem cutDC_join : ∀ {l : List Str} (r : Str), (∀ x ∈ l, (58 : UInt8) ∉ x ∧ x ≠ []) → cutDC (join 58 l ++ 58 :: 58 :: r) = some (join 58 l, r)
  | [], r, _ => by simp [join, cutDC]
  | [x], r, h => by
    obtain ⟨h1, h2⟩ := h x (by simp)
    show cutDC (x ++ 58 :: 58 :: r) = some (x, r)
    induction x with
    | nil => exact absurd rfl h2
    | cons a x ih =>
      have ha : a ≠ 58 := fun e => h1 (by simp [e])
      cases x with
      | nil => simp [cutDC, ha]
      | cons b x =>
        have := ih (fun z hz => by simp at hz; subst hz; exact ⟨fun e => h1 (List.mem_cons_of_mem _ e), by simp⟩) (fun e => h1 (List.mem_cons_of_mem _ e)) (by simp)
        show cutDC (a :: b :: (x ++ 58 :: 58 :: r)) = _
        rw [cutDC, if_neg (fun e => ha e.1)]
        have e1 : b :: (x ++ 58 :: 58 :: r) = b :: x ++ 58 :: 58 :: r := rfl
        rw [e1, this]
        rfl
  | x :: y :: l, r, h => by
    obtain ⟨h1, h2⟩ := h x (by simp)
    have hy := (h y (by simp)).2
    have ih := cutDC_join (l := y :: l) r (fun z hz => h z (by simp [hz]))
    show cutDC ((x ++ 58 :: join 58 (y :: l)) ++ 58 :: 58 :: r) = some (x ++ 58 :: join 58 (y :: l), r)
    have hj : ∃ d t, join 58 (y :: l) = d :: t ∧ d ≠ 58 := by
      cases y with
      | nil => exact absurd rfl hy
      | cons d y =>
        have hd : d ≠ 58 := fun e => (h (d :: y) (by simp)).1 (by simp [e])
        cases l with
        | nil => exact ⟨d, y, rfl, hd⟩
        | cons z l => exact ⟨d, y ++ 58 :: join 58 (z :: l), rfl, hd⟩
    obtain ⟨d, t, hj, hd⟩ := hj
    rw [hj] at ih ⊢
    clear hj h
    have hbase : cutDC (58 :: (d :: t ++ 58 :: 58 :: r)) = some (58 :: d :: t, r) := by
      show cutDC (58 :: d :: (t ++ 58 :: 58 :: r)) = _
      rw [cutDC, if_neg (fun e => hd e.2)]
      have e1 : d :: (t ++ 58 :: 58 :: r) = d :: t ++ 58 :: 58 :: r := rfl
      rw [e1, ih]
      rfl
    rw [List.append_assoc]
    show cutDC (x ++ (58 :: (d :: t ++ 58 :: 58 :: r))) = _
    clear h2
    induction x with
    | nil => exact hbase
    | cons a x ihx =>
      have ha : a ≠ 58 := fun e => h1 (by simp [e])
      have := ihx (fun e => h1 (List.mem_cons_of_mem _ e))
      cases x with
      | nil =>
        show cutDC (a :: 58 :: (d :: t ++ 58 :: 58 :: r)) = _
        rw [cutDC, if_neg (fun e => ha e.1), hbase]
        rfl
      | cons b x =>
        show cutDC (a :: b :: (x ++ 58 :: (d :: t ++ 58 :: 58 :: r))) = _
        rw [cutDC, if_neg (fun e => ha e.1)]
        have e1 : b :: (x ++ 58 :: (d :: t ++ 58 :: 58 :: r)) = b :: x ++ 58 :: (d :: t ++ 58 :: 58 :: r) := rfl
        rw [e1, this]
        rfl
/-- pieces alone hold no '::' -/
theorem cutDC_pieces {l : List Str} (h : ∀ x ∈ l, (58 : UInt8) ∉ x ∧ x ≠ []) : cutDC (join 58 l) = none := by
  cases he : cutDC (join 58 l) with
  | none => rfl
  | some p =>
    exfalso
    have key : ∀ (s : Str) (p : Str × Str), cutDC s = some p → s = p.1 ++ 58 :: 58 :: p.2 := by
      intro s
      induction s with
      | nil => intro p hp; simp [cutDC] at hp
      | cons a s ih =>
        intro p hp
        cases s with
        | nil => simp [cutDC] at hp
        | cons b s =>
          rw [cutDC] at hp
          split at hp
          · rename_i e
            obtain ⟨rfl, rfl⟩ := e
            cases hp
            rfl
          · obtain ⟨p', hp', rfl⟩ := Option.map_eq_some_iff.1 hp
            have := ih p' hp'
            rw [this]
            rfl
    have hs := key _ _ he
    have hl : l ≠ [] := by
      rintro rfl
      simp [join, cutDC] at he
    have hc := cut_join (a := 58) hl (fun x hx => (h x hx).1)
    rw [hs] at hc
    -- a piece between the two is empty
    have hmem : ∀ (s : Str) (t : Str), ∃ x u, cut 58 (s ++ 58 :: 58 :: t) = x :: u ∧ ([] : Str) ∈ u := by
      intro s t
      induction s with
      | nil => exact ⟨[], [] :: cut 58 t, by rw [List.nil_append, cut_at, cut_at], by simp⟩
      | cons a s ih =>
        obtain ⟨x, u, hx, hu⟩ := ih
        by_cases ha : a = 58
        · subst ha
          exact ⟨[], x :: u, by rw [List.cons_append, cut_at, hx], by simp [hu]⟩
        · exact ⟨a :: x, u, by rw [List.cons_append, cut_other ha _ hx], hu⟩
    obtain ⟨x, u, h1, h2⟩ := hmem p.1 p.2
    rw [hc] at h1
    exact (h [] (by rw [h1]; simp [h2])).2 rfl

/-! ### numbers to a base -/
/-- a digit's letter -/
def dg (d : Nat) : UInt8 := if d < 10 then UInt8.ofNat (48 + d) else UInt8.ofNat (87 + d)
theorem dg_low {d : Nat} (h : d < 10) : (dg d).toNat = 48 + d := by rw [dg, if_pos h, UInt8.toNat_ofNat']; omega
theorem dg_high {d : Nat} (h : ¬ d < 10) (h2 : d < 16) : (dg d).toNat = 87 + d := by rw [dg, if_neg h, UInt8.toNat_ofNat']; omega
/-- a letter's digit -/
def dv (c : UInt8) : Option Nat := if 48 ≤ c.toNat ∧ c.toNat ≤ 57 then some (c.toNat - 48) else if 97 ≤ c.toNat ∧ c.toNat ≤ 102 then some (c.toNat - 87) else none
theorem dv_dg {d : Nat} (h : d < 16) : dv (dg d) = some d := by
  unfold dv
  by_cases h1 : d < 10
  · rw [dg_low h1, if_pos (by omega)]; congr 1; omega
  · rw [dg_high h1 h, if_neg (by omega), if_pos (by omega)]; congr 1; omega
theorem dv_lt {c : UInt8} {d : Nat} (h : dv c = some d) : d < 16 := by
  unfold dv at h
  split at h
  · cases h; omega
  · split at h
    · cases h; omega
    · cases h
theorem dg_dv {c : UInt8} {d : Nat} (h : dv c = some d) : dg d = c := by
  unfold dv at h
  split at h
  · cases h
    apply UInt8.toNat_inj.1
    rw [dg_low (by omega)]; omega
  · split at h
    · cases h
      apply UInt8.toNat_inj.1
      rw [dg_high (by omega) (by omega)]; omega
    · cases h
theorem dg_small {d : Nat} (h : d < 16) : ¬ (65 ≤ (dg d).toNat ∧ (dg d).toNat ≤ 90) ∧ dg d ≠ 58 ∧ dg d ≠ 46 ∧ dg d ≠ 91 ∧ dg d ≠ 93 := by
  have key : ∀ c : UInt8, (c.toNat ≤ 47 ∨ c.toNat = 58 ∨ 91 ≤ c.toNat ∧ c.toNat ≤ 96) → dg d ≠ c := fun c hc e => by
    have := congrArg UInt8.toNat e
    by_cases h1 : d < 10
    · rw [dg_low h1] at this; omega
    · rw [dg_high h1 h] at this; omega
  refine ⟨?_, key 58 (by decide), key 46 (by decide), key 91 (by decide), key 93 (by decide)⟩
  by_cases h1 : d < 10
  · rw [dg_low h1]; omega
  · rw [dg_high h1 h]; omega

/-- a number's digits -/
def nm (b n : Nat) : Str := if h : n < b ∨ b < 2 then [dg n] else nm b (n / b) ++ [dg (n % b)]
termination_by n
decreasing_by exact Nat.div_lt_self (by omega) (by omega)
theorem nm_small {b n : Nat} (h : n < b) : nm b n = [dg n] := by rw [nm, dif_pos (.inl h)]
theorem nm_step {b n : Nat} (hb : 2 ≤ b) (h : ¬ n < b) : nm b n = nm b (n / b) ++ [dg (n % b)] := by rw [nm, dif_neg (by omega)]
/-- the value of digits -/
def vl (b : Nat) : Str → Nat → Option Nat
  | [], a => some a
  | c :: r, a => match dv c with
    | none => none
    | some d => if d < b then vl b r (a * b + d) else none
theorem vl_cons (b : Nat) (c : UInt8) (r : Str) (a : Nat) : vl b (c :: r) a = match dv c with
    | none => none
    | some d => if d < b then vl b r (a * b + d) else none := rfl
theorem vl_append (b : Nat) : ∀ (x y : Str) (a : Nat), vl b (x ++ y) a = (vl b x a).bind fun a' => vl b y a'
  | [], y, a => rfl
  | c :: x, y, a => by
    show vl b (c :: (x ++ y)) a = _
    rw [vl_cons, vl_cons]
    cases dv c with
    | none => rfl
    | some d =>
      dsimp only
      split
      · exact vl_append b x y _
      · rfl
theorem vl_nm {b : Nat} (hb : 2 ≤ b) (hb2 : b ≤ 16) (n : Nat) : vl b (nm b n) 0 = some n := by
  induction n using Nat.strongRecOn with
  | ind n ih =>
    by_cases h : n < b
    · rw [nm_small h]
      unfold vl
      rw [dv_dg (by omega)]
      dsimp only
      rw [if_pos h]
      simp [vl]
    · rw [nm_step hb h, vl_append, ih _ (Nat.div_lt_self (by omega) (by omega))]
      show vl b [dg (n % b)] (n / b) = _
      have hm : n % b < b := Nat.mod_lt _ (by omega)
      unfold vl
      rw [dv_dg (by omega)]
      dsimp only
      rw [if_pos hm]
      unfold vl
      rw [Nat.div_add_mod' n b]
theorem nm_inj {b : Nat} (hb : 2 ≤ b) (hb2 : b ≤ 16) {m n : Nat} (h : nm b m = nm b n) : m = n := by
  have h1 := vl_nm hb hb2 m
  rw [h, vl_nm hb hb2 n] at h1
  cases h1
  rfl
theorem nm_mem {b : Nat} (hb : 2 ≤ b) (n : Nat) : ∀ c ∈ nm b n, ∃ d, d < b ∧ c = dg d := by
  induction n using Nat.strongRecOn with
  | ind n ih =>
    intro c hc
    by_cases h : n < b
    · rw [nm_small h] at hc
      exact ⟨n, h, by simpa using hc⟩
    · rw [nm_step hb h] at hc
      rcases List.mem_append.1 hc with hc | hc
      · exact ih _ (Nat.div_lt_self (by omega) (by omega)) c hc
      · exact ⟨n % b, Nat.mod_lt _ (by omega), by simpa using hc⟩
theorem nm_ne {b : Nat} (hb : 2 ≤ b) (n : Nat) : nm b n ≠ [] := by
  by_cases h : n < b
  · rw [nm_small h]; simp
  · rw [nm_step hb h]; simp
theorem nm_len {b : Nat} (hb : 2 ≤ b) : ∀ (k n : Nat), n < b ^ (k + 1) → (nm b n).length ≤ k + 1
  | 0, n, h => by rw [nm_small (by simpa using h)]; simp
  | k + 1, n, h => by
    by_cases h1 : n < b
    · rw [nm_small h1]; simp
    · rw [nm_step hb h1, List.length_append]
      have := nm_len hb k (n / b) (by rw [Nat.div_lt_iff_lt_mul (by omega)]; rwa [Nat.pow_succ] at h)
      simp
      omega

end Go.Proofs.YtefpplkoohnfbaaDoor.hostp
