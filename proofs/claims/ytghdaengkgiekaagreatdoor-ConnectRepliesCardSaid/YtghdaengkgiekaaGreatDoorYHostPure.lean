/-
  Given for the seat's laws: the texts of hosts as plain lists of bytes: cut at colons and dots, groups, runs of noughts. No program, no memory.
-/
import Derived.Lib.ItoaNum
namespace Go.Proofs.YtghdaengkgiekaaGreatDoor.hostp
set_option linter.unusedVariables false

abbrev Str := List UInt8

/-! ### cut and put together -/
/-- a text, cut at each such byte -/
def cut (at_ : UInt8) : Str → List Str
  | [] => [[]]
  | c :: r => if c = at_ then [] :: cut at_ r else match cut at_ r with
    | [] => [[c]]
    | h :: t => (c :: h) :: t
/-- texts, with such a byte between -/
def join (at_ : UInt8) : List Str → Str
  | [] => []
  | [x] => x
  | x :: y :: r => x ++ at_ :: join at_ (y :: r)

theorem cut_ne (a : UInt8) (s : Str) : cut a s ≠ [] := by
  cases s with
  | nil => simp [cut]
  | cons c r =>
    unfold cut
    split
    · simp
    · split <;> simp
theorem cut_at (a : UInt8) (r : Str) : cut a (a :: r) = [] :: cut a r := by simp [cut]
theorem cut_other {a c : UInt8} (h : c ≠ a) (r : Str) {x : Str} {t : List Str} (he : cut a r = x :: t) : cut a (c :: r) = (c :: x) :: t := by
  rw [cut, if_neg h, he]
theorem cut_free {a : UInt8} : ∀ {x : Str}, a ∉ x → cut a x = [x]
  | [], _ => rfl
  | c :: r, h => by
    simp only [List.mem_cons, not_or] at h
    exact cut_other (fun e => h.1 e.symm) r (cut_free h.2)
theorem cut_append {a : UInt8} : ∀ {x : Str} (r : Str), a ∉ x → cut a (x ++ a :: r) = x :: cut a r
  | [], r, _ => cut_at a r
  | c :: x, r, h => by
    simp only [List.mem_cons, not_or] at h
    exact cut_other (fun e => h.1 e.symm) _ (cut_append r h.2)
theorem cut_join {a : UInt8} : ∀ {l : List Str}, l ≠ [] → (∀ x ∈ l, a ∉ x) → cut a (join a l) = l
  | [], h, _ => absurd rfl h
  | [x], _, h => cut_free (h x (by simp))
  | x :: y :: r, _, h => by
    show cut a (x ++ a :: join a (y :: r)) = _
    rw [cut_append _ (h x (by simp)), cut_join (by simp) (fun z hz => h z (by simp [hz]))]
theorem join_cut (a : UInt8) : ∀ s : Str, join a (cut a s) = s
  | [] => rfl
  | c :: r => by
    have ih := join_cut a r
    obtain ⟨x, t, he⟩ : ∃ x t, cut a r = x :: t := by
      cases h : cut a r with
      | nil => exact absurd h (cut_ne a r)
      | cons x t => exact ⟨x, t, rfl⟩
    by_cases hc : c = a
    · subst hc
      rw [cut_at, he]
      show [] ++ c :: join c (x :: t) = _
      rw [← he, ih]
      rfl
    · rw [cut_other hc r he]
      rw [he] at ih
      cases t with
      | nil => show c :: x = c :: r; rw [← ih]; rfl
      | cons y t => show (c :: x) ++ a :: join a (y :: t) = c :: r; rw [← ih]; rfl
/-- the pieces hold no such byte -/
theorem cut_mem (a : UInt8) : ∀ (s : Str), ∀ x ∈ cut a s, a ∉ x
  | [], x, hx => by simp [cut] at hx; subst hx; simp
  | c :: r, x, hx => by
    obtain ⟨y, t, he⟩ : ∃ x t, cut a r = x :: t := by
      cases h : cut a r with
      | nil => exact absurd h (cut_ne a r)
      | cons x t => exact ⟨x, t, rfl⟩
    have ih := cut_mem a r
    by_cases hc : c = a
    · subst hc
      rw [cut_at] at hx
      rcases List.mem_cons.1 hx with rfl | hx
      · simp
      · exact ih x hx
    · rw [cut_other hc r he] at hx
      rcases List.mem_cons.1 hx with rfl | hx
      · simp only [List.mem_cons, not_or]
        exact ⟨fun e => hc e.symm, ih y (by rw [he]; simp)⟩
      · exact ih x (by rw [he]; simp [hx])
theorem cut_sub (a : UInt8) : ∀ (s : Str), ∀ x ∈ cut a s, ∀ c ∈ x, c ∈ s
  | [], x, hx, c, hc => by simp [cut] at hx; subst hx; simp at hc
  | d :: r, x, hx, c, hc => by
    obtain ⟨y, t, he⟩ : ∃ x t, cut a r = x :: t := by
      cases h : cut a r with
      | nil => exact absurd h (cut_ne a r)
      | cons x t => exact ⟨x, t, rfl⟩
    have ih := cut_sub a r
    by_cases hd : d = a
    · subst hd
      rw [cut_at] at hx
      rcases List.mem_cons.1 hx with rfl | hx
      · simp at hc
      · exact List.mem_cons_of_mem _ (ih x hx c hc)
    · rw [cut_other hd r he] at hx
      rcases List.mem_cons.1 hx with rfl | hx
      · rcases List.mem_cons.1 hc with rfl | hc
        · simp
        · exact List.mem_cons_of_mem _ (ih y (by rw [he]; simp) c hc)
      · exact List.mem_cons_of_mem _ (ih x (by rw [he]; simp [hx]) c hc)
/-- as a loop goes through a text: the pieces that are whole, and the one that grows -/
theorem cut_grow (a : UInt8) : ∀ (s : Str) (w : Str), a ∉ w → ∃ x t, cut a s = x :: t ∧ cut a (w ++ s) = (w ++ x) :: t
  | s, [], _ => by
    cases h : cut a s with
    | nil => exact absurd h (cut_ne a s)
    | cons x t => exact ⟨x, t, rfl, by simpa using h⟩
  | s, c :: w, hw => by
    simp only [List.mem_cons, not_or] at hw
    obtain ⟨x, t, h1, h2⟩ := cut_grow a s w hw.2
    exact ⟨x, t, h1, cut_other (fun e => hw.1 e.symm) _ h2⟩
theorem cut_snoc_at (a : UInt8) : ∀ (s : Str) (l : List Str) (w : Str), cut a s = l ++ [w] → cut a (s ++ [a]) = l ++ [w, []]
  | [], l, w, h => by
    cases l with
    | nil => simp [cut] at h; subst h; simp [cut]
    | cons x l => simp [cut] at h
  | c :: r, l, w, h => by
    obtain ⟨x, t, he⟩ : ∃ x t, cut a r = x :: t := by
      cases h : cut a r with
      | nil => exact absurd h (cut_ne a r)
      | cons x t => exact ⟨x, t, rfl⟩
    by_cases hc : c = a
    · subst hc
      rw [cut_at] at h
      cases l with
      | nil => simp at h; exact absurd h.2 (cut_ne _ _)
      | cons y l =>
        simp only [List.cons_append, List.cons.injEq] at h
        obtain ⟨rfl, h⟩ := h
        show cut c (c :: (r ++ [c])) = _
        rw [cut_at, cut_snoc_at c r l w h]
        rfl
    · rw [cut_other hc r he] at h
      cases l with
      | nil =>
        simp only [List.nil_append, List.cons.injEq] at h
        obtain ⟨rfl, rfl⟩ := h
        have := cut_snoc_at a r [] x (by simpa using he)
        exact cut_other hc _ (by simpa using this)
      | cons y l =>
        simp only [List.cons_append, List.cons.injEq] at h
        obtain ⟨rfl, rfl⟩ := h
        have := cut_snoc_at a r (x :: l) w (by simpa using he)
        exact cut_other hc _ (by simpa using this)
theorem cut_snoc (a : UInt8) {d : UInt8} (hd : d ≠ a) : ∀ (s : Str) (l : List Str) (w : Str), cut a s = l ++ [w] → cut a (s ++ [d]) = l ++ [w ++ [d]]
  | [], l, w, h => by
    cases l with
    | nil => simp [cut] at h; subst h; simp [cut, hd]
    | cons x l => simp [cut] at h
  | c :: r, l, w, h => by
    obtain ⟨x, t, he⟩ : ∃ x t, cut a r = x :: t := by
      cases h : cut a r with
      | nil => exact absurd h (cut_ne a r)
      | cons x t => exact ⟨x, t, rfl⟩
    by_cases hc : c = a
    · subst hc
      rw [cut_at] at h
      cases l with
      | nil => simp at h; exact absurd h.2 (cut_ne _ _)
      | cons y l =>
        simp only [List.cons_append, List.cons.injEq] at h
        obtain ⟨rfl, h⟩ := h
        show cut c (c :: (r ++ [d])) = _
        rw [cut_at, cut_snoc c hd r l w h]
        rfl
    · rw [cut_other hc r he] at h
      cases l with
      | nil =>
        simp only [List.nil_append, List.cons.injEq] at h
        obtain ⟨rfl, rfl⟩ := h
        have := cut_snoc a hd r [] x (by simpa using he)
        exact cut_other hc _ (by simpa using this)
      | cons y l =>
        simp only [List.cons_append, List.cons.injEq] at h
        obtain ⟨rfl, rfl⟩ := h
        have := cut_snoc a hd r (x :: l) w (by simpa using he)
        exact cut_other hc _ (by simpa using this)

/-! ### the first '::' -/
def cutDC : Str → Option (Str × Str)
  | a :: b :: r => if a = 58 ∧ b = 58 then some ([], r) else (cutDC (b :: r)).map fun p => (a :: p.1, p.2)
  | _ => none
theorem cutDC_free : ∀ {x : Str}, (58 : UInt8) ∉ x → cutDC x = none
  | [], _ => rfl
  | [_], _ => rfl
  | a :: b :: r, h => by
    have h1 : a ≠ 58 := fun e => h (by simp [e])
    unfold cutDC
    rw [if_neg (fun e => h1 e.1), cutDC_free (fun e => h (List.mem_cons_of_mem _ e))]
    rfl
/-- behind bytes that are none, and one more -/
theorem cutDC_skip : ∀ {x : Str}, (58 : UInt8) ∉ x → x ≠ [] → ∀ {r : Str} (c : UInt8), cutDC (x ++ r) = (cutDC (x.getLast! :: r)).map fun p => (x.dropLast ++ p.1, p.2)
  | [], _, h, _, _ => absurd rfl h
  | [a], _, _, r, _ => by
    show cutDC (a :: r) = (cutDC (a :: r)).map fun p => ([] ++ p.1, p.2)
    cases cutDC (a :: r) <;> simp
  | a :: b :: x, h, _, r, c => by
    have h1 : a ≠ 58 := fun e => h (by simp [e])
    have ih := cutDC_skip (x := b :: x) (fun e => h (List.mem_cons_of_mem _ e)) (by simp) (r := r) c
    show cutDC (a :: b :: (x ++ r)) = _
    rw [cutDC, if_neg (fun e => h1 e.1)]
    have e1 : b :: (x ++ r) = (b :: x) ++ r := rfl
    rw [e1, ih]
    have e2 : (a :: b :: x).getLast! = (b :: x).getLast! := by simp [List.getLast!]
    rw [e2]
    cases cutDC ((b :: x).getLast! :: r) <;> simp
/-- pieces, then '::': that is the first one -/
theorem cutDC_join : ∀ {l : List Str} (r : Str), (∀ x ∈ l, (58 : UInt8) ∉ x ∧ x ≠ []) → cutDC (join 58 l ++ 58 :: 58 :: r) = some (join 58 l, r)
  | [], r, _ => by simp [join, cutDC]
  | [x], r, h => by
    obtain ⟨h1, h2⟩ := h x (by simp)
    show cutDC (x ++ 58 :: 58 :: r) = some (x, r)
    induction x with
    | nil => exact absurd rfl h2
    | cons a x ih =>
      have ha : a ≠ 58 := fun e => h1 (by simp [e])
      cases x with
      | nil => simp [cutDC, ha]
      | cons b x =>
        have := ih (fun z hz => by simp at hz; subst hz; exact ⟨fun e => h1 (List.mem_cons_of_mem _ e), by simp⟩) (fun e => h1 (List.mem_cons_of_mem _ e)) (by simp)
        show cutDC (a :: b :: (x ++ 58 :: 58 :: r)) = _
        rw [cutDC, if_neg (fun e => ha e.1)]
        have e1 : b :: (x ++ 58 :: 58 :: r) = b :: x ++ 58 :: 58 :: r := rfl
        rw [e1, this]
        rfl
  | x :: y :: l, r, h => by
    obtain ⟨h1, h2⟩ := h x (by simp)
    have hy := (h y (by simp)).2
    have ih := cutDC_join (l := y :: l) r (fun z hz => h z (by simp [hz]))
    show cutDC ((x ++ 58 :: join 58 (y :: l)) ++ 58 :: 58 :: r) = some (x ++ 58 :: join 58 (y :: l), r)
    have hj : ∃ d t, join 58 (y :: l) = d :: t ∧ d ≠ 58 := by
      cases y with
      | nil => exact absurd rfl hy
      | cons d y =>
        have hd : d ≠ 58 := fun e => (h (d :: y) (by simp)).1 (by simp [e])
        cases l with
        | nil => exact ⟨d, y, rfl, hd⟩
        | cons z l => exact ⟨d, y ++ 58 :: join 58 (z :: l), rfl, hd⟩
    obtain ⟨d, t, hj, hd⟩ := hj
    rw [hj] at ih ⊢
    clear hj h
    have hbase : cutDC (58 :: (d :: t ++ 58 :: 58 :: r)) = some (58 :: d :: t, r) := by
      show cutDC (58 :: d :: (t ++ 58 :: 58 :: r)) = _
      rw [cutDC, if_neg (fun e => hd e.2)]
      have e1 : d :: (t ++ 58 :: 58 :: r) = d :: t ++ 58 :: 58 :: r := rfl
      rw [e1, ih]
      rfl
    rw [List.append_assoc]
    show cutDC (x ++ (58 :: (d :: t ++ 58 :: 58 :: r))) = _
    clear h2
    induction x with
    | nil => exact hbase
    | cons a x ihx =>
      have ha : a ≠ 58 := fun e => h1 (by simp [e])
      have := ihx (fun e => h1 (List.mem_cons_of_mem _ e))
      cases x with
      | nil =>
        show cutDC (a :: 58 :: (d :: t ++ 58 :: 58 :: r)) = _
        rw [cutDC, if_neg (fun e => ha e.1), hbase]
        rfl
      | cons b x =>
        show cutDC (a :: b :: (x ++ 58 :: (d :: t ++ 58 :: 58 :: r))) = _
        rw [cutDC, if_neg (fun e => ha e.1)]
        have e1 : b :: (x ++ 58 :: (d :: t ++ 58 :: 58 :: r)) = b :: x ++ 58 :: (d :: t ++ 58 :: 58 :: r) := rfl
        rw [e1, this]
        rfl
/-- pieces alone hold no '::' -/
theorem cutDC_pieces {l : List Str} (h : ∀ x ∈ l, (58 : UInt8) ∉ x ∧ x ≠ []) : cutDC (join 58 l) = none := by
  cases he : cutDC (join 58 l) with
  | none => rfl
  | some p =>
    exfalso
    have key : ∀ (s : Str) (p : Str × Str), cutDC s = some p → s = p.1 ++ 58 :: 58 :: p.2 := by
      intro s
      induction s with
      | nil => intro p hp; simp [cutDC] at hp
      | cons a s ih =>
        intro p hp
        cases s with
        | nil => simp [cutDC] at hp
        | cons b s =>
          rw [cutDC] at hp
          split at hp
          · rename_i e
            obtain ⟨rfl, rfl⟩ := e
            cases hp
            rfl
          · obtain ⟨p', hp', rfl⟩ := Option.map_eq_some_iff.1 hp
            have := ih p' hp'
            rw [this]
            rfl
    have hs := key _ _ he
    have hl : l ≠ [] := by
      rintro rfl
      simp [join, cutDC] at he
    have hc := cut_join (a := 58) hl (fun x hx => (h x hx).1)
    rw [hs] at hc
    -- a piece between the two is empty
    have hmem : ∀ (s : Str) (t : Str), ∃ x u, cut 58 (s ++ 58 :: 58 :: t) = x :: u ∧ ([] : Str) ∈ u := by
      intro s t
      induction s with
      | nil => exact ⟨[], [] :: cut 58 t, by rw [List.nil_append, cut_at, cut_at], by simp⟩
      | cons a s ih =>
        obtain ⟨x, u, hx, hu⟩ := ih
        by_cases ha : a = 58
        · subst ha
          exact ⟨[], x :: u, by rw [List.cons_append, cut_at, hx], by simp [hu]⟩
        · exact ⟨a :: x, u, by rw [List.cons_append, cut_other ha _ hx], hu⟩
    obtain ⟨x, u, h1, h2⟩ := hmem p.1 p.2
    rw [hc] at h1
    exact (h [] (by rw [h1]; simp [h2])).2 rfl

/-! ### numbers to a base -/
/-- a digit's letter -/
def dg (d : Nat) : UInt8 := if d < 10 then UInt8.ofNat (48 + d) else UInt8.ofNat (87 + d)
theorem dg_low {d : Nat} (h : d < 10) : (dg d).toNat = 48 + d := by rw [dg, if_pos h, UInt8.toNat_ofNat']; omega
theorem dg_high {d : Nat} (h : ¬ d < 10) (h2 : d < 16) : (dg d).toNat = 87 + d := by rw [dg, if_neg h, UInt8.toNat_ofNat']; omega
/-- a letter's digit -/
def dv (c : UInt8) : Option Nat := if 48 ≤ c.toNat ∧ c.toNat ≤ 57 then some (c.toNat - 48) else if 97 ≤ c.toNat ∧ c.toNat ≤ 102 then some (c.toNat - 87) else none
theorem dv_dg {d : Nat} (h : d < 16) : dv (dg d) = some d := by
  unfold dv
  by_cases h1 : d < 10
  · rw [dg_low h1, if_pos (by omega)]; congr 1; omega
  · rw [dg_high h1 h, if_neg (by omega), if_pos (by omega)]; congr 1; omega
theorem dv_lt {c : UInt8} {d : Nat} (h : dv c = some d) : d < 16 := by
  unfold dv at h
  split at h
  · cases h; omega
  · split at h
    · cases h; omega
    · cases h
theorem dg_dv {c : UInt8} {d : Nat} (h : dv c = some d) : dg d = c := by
  unfold dv at h
  split at h
  · cases h
    apply UInt8.toNat_inj.1
    rw [dg_low (by omega)]; omega
  · split at h
    · cases h
      apply UInt8.toNat_inj.1
      rw [dg_high (by omega) (by omega)]; omega
    · cases h
theorem dg_small {d : Nat} (h : d < 16) : ¬ (65 ≤ (dg d).toNat ∧ (dg d).toNat ≤ 90) ∧ dg d ≠ 58 ∧ dg d ≠ 46 ∧ dg d ≠ 91 ∧ dg d ≠ 93 := by
  have key : ∀ c : UInt8, (c.toNat ≤ 47 ∨ c.toNat = 58 ∨ 91 ≤ c.toNat ∧ c.toNat ≤ 96) → dg d ≠ c := fun c hc e => by
    have := congrArg UInt8.toNat e
    by_cases h1 : d < 10
    · rw [dg_low h1] at this; omega
    · rw [dg_high h1 h] at this; omega
  refine ⟨?_, key 58 (by decide), key 46 (by decide), key 91 (by decide), key 93 (by decide)⟩
  by_cases h1 : d < 10
  · rw [dg_low h1]; omega
  · rw [dg_high h1 h]; omega

/-- a number's digits -/
def nm (b n : Nat) : Str := if h : n < b ∨ b < 2 then [dg n] else nm b (n / b) ++ [dg (n % b)]
termination_by n
decreasing_by exact Nat.div_lt_self (by omega) (by omega)
theorem nm_small {b n : Nat} (h : n < b) : nm b n = [dg n] := by rw [nm, dif_pos (.inl h)]
theorem nm_step {b n : Nat} (hb : 2 ≤ b) (h : ¬ n < b) : nm b n = nm b (n / b) ++ [dg (n % b)] := by rw [nm, dif_neg (by omega)]
/-- the value of digits -/
def vl (b : Nat) : Str → Nat → Option Nat
  | [], a => some a
  | c :: r, a => match dv c with
    | none => none
    | some d => if d < b then vl b r (a * b + d) else none
theorem vl_cons (b : Nat) (c : UInt8) (r : Str) (a : Nat) : vl b (c :: r) a = match dv c with
    | none => none
    | some d => if d < b then vl b r (a * b + d) else none := rfl
theorem vl_append (b : Nat) : ∀ (x y : Str) (a : Nat), vl b (x ++ y) a = (vl b x a).bind fun a' => vl b y a'
  | [], y, a => rfl
  | c :: x, y, a => by
    show vl b (c :: (x ++ y)) a = _
    rw [vl_cons, vl_cons]
    cases dv c with
    | none => rfl
    | some d =>
      dsimp only
      split
      · exact vl_append b x y _
      · rfl
theorem vl_nm {b : Nat} (hb : 2 ≤ b) (hb2 : b ≤ 16) (n : Nat) : vl b (nm b n) 0 = some n := by
  induction n using Nat.strongRecOn with
  | ind n ih =>
    by_cases h : n < b
    · rw [nm_small h]
      unfold vl
      rw [dv_dg (by omega)]
      dsimp only
      rw [if_pos h]
      simp [vl]
    · rw [nm_step hb h, vl_append, ih _ (Nat.div_lt_self (by omega) (by omega))]
      show vl b [dg (n % b)] (n / b) = _
      have hm : n % b < b := Nat.mod_lt _ (by omega)
      unfold vl
      rw [dv_dg (by omega)]
      dsimp only
      rw [if_pos hm]
      unfold vl
      rw [Nat.div_add_mod' n b]
theorem nm_inj {b : Nat} (hb : 2 ≤ b) (hb2 : b ≤ 16) {m n : Nat} (h : nm b m = nm b n) : m = n := by
  have h1 := vl_nm hb hb2 m
  rw [h, vl_nm hb hb2 n] at h1
  cases h1
  rfl
theorem nm_mem {b : Nat} (hb : 2 ≤ b) (n : Nat) : ∀ c ∈ nm b n, ∃ d, d < b ∧ c = dg d := by
  induction n using Nat.strongRecOn with
  | ind n ih =>
    intro c hc
    by_cases h : n < b
    · rw [nm_small h] at hc
      exact ⟨n, h, by simpa using hc⟩
    · rw [nm_step hb h] at hc
      rcases List.mem_append.1 hc with hc | hc
      · exact ih _ (Nat.div_lt_self (by omega) (by omega)) c hc
      · exact ⟨n % b, Nat.mod_lt _ (by omega), by simpa using hc⟩
theorem nm_ne {b : Nat} (hb : 2 ≤ b) (n : Nat) : nm b n ≠ [] := by
  by_cases h : n < b
  · rw [nm_small h]; simp
  · rw [nm_step hb h]; simp
theorem nm_len {b : Nat} (hb : 2 ≤ b) : ∀ (k n : Nat), n < b ^ (k + 1) → (nm b n).length ≤ k + 1
  | 0, n, h => by rw [nm_small (by simpa using h)]; simp
  | k + 1, n, h => by
    by_cases h1 : n < b
    · rw [nm_small h1]; simp
    · rw [nm_step hb h1, List.length_append]
      have := nm_len hb k (n / b) (by rw [Nat.div_lt_iff_lt_mul (by omega)]; rwa [Nat.pow_succ] at h)
      simp
      omega

end Go.Proofs.YtghdaengkgiekaaGreatDoor.hostp

/-
  Given for the seat's laws: groups, addresses, names, hosts and targets as plain lists of bytes; what is written is read as it was. No program, no memory.
-/
namespace Go.Proofs.YtghdaengkgiekaaGreatDoor.hostp
set_option linter.unusedVariables false

theorem vl_mem {b : Nat} : ∀ {x : Str} {a v : Nat}, vl b x a = some v → ∀ c ∈ x, ∃ d, dv c = some d ∧ d < b
  | [], _, _, _, c, hc => by simp at hc
  | e :: x, a, v, h, c, hc => by
    rw [vl_cons] at h
    cases he : dv e with
    | none => rw [he] at h; cases h
    | some d =>
      rw [he] at h
      dsimp only at h
      split at h
      · rename_i hd
        rcases List.mem_cons.1 hc with rfl | hc
        · exact ⟨d, he, hd⟩
        · exact vl_mem h c hc
      · cases h
theorem vl_lt {b : Nat} : ∀ {x : Str} {a v : Nat}, vl b x a = some v → v < (a + 1) * b ^ x.length
  | [], a, v, h => by
    cases h
    simp
  | e :: x, a, v, h => by
    rw [vl_cons] at h
    cases he : dv e with
    | none => rw [he] at h; cases h
    | some d =>
      rw [he] at h
      dsimp only at h
      split at h
      · rename_i hd
        have h1 := vl_lt h
        have h2 : a * b + d + 1 ≤ (a + 1) * b := by rw [Nat.add_mul]; omega
        have h3 : (a * b + d + 1) * b ^ x.length ≤ (a + 1) * b * b ^ x.length := Nat.mul_le_mul_right _ h2
        rw [List.length_cons, Nat.pow_succ, Nat.mul_comm (b ^ x.length) b, ← Nat.mul_assoc]
        omega
      · cases h
theorem dv_58 : dv 58 = none := by decide
theorem dv_46 : dv 46 = none := by decide

/-! ### groups -/
def grp (s : Str) : Option Nat := if s ≠ [] ∧ s.length ≤ 4 then vl 16 s 0 else none
def grps : List Str → Option (List Nat)
  | [] => some []
  | x :: r => match grp x with
    | none => none
    | some v => match grps r with
      | none => none
      | some t => some (v :: t)
def groups (s : Str) : Option (List Nat) := if s = [] then some [] else grps (cut 58 s)
theorem grp_some {x : Str} {v : Nat} (h : grp x = some v) : x ≠ [] ∧ (58 : UInt8) ∉ x ∧ v < 65536 := by
  unfold grp at h
  split at h
  · rename_i hx
    refine ⟨hx.1, fun h58 => ?_, ?_⟩
    · obtain ⟨d, hd, _⟩ := vl_mem h 58 h58
      rw [dv_58] at hd
      cases hd
    · have h1 := vl_lt h
      have h2 : (16 : Nat) ^ x.length ≤ 16 ^ 4 := Nat.pow_le_pow_right (by omega) hx.2
      simp at h1
      omega
  · cases h
theorem grp_nm {v : Nat} (h : v < 65536) : grp (nm 16 v) = some v := by
  unfold grp
  rw [if_pos ⟨nm_ne (by omega) v, nm_len (by omega) 3 v (by omega)⟩]
  exact vl_nm (by omega) (by omega) v
/-- texts that are those groups' -/
def AllGrp : List Str → List Nat → Prop
  | [], [] => True
  | x :: l, v :: g => grp x = some v ∧ AllGrp l g
  | _, _ => False
theorem AllGrp.len : ∀ {l : List Str} {g : List Nat}, AllGrp l g → l.length = g.length
  | [], [], _ => rfl
  | x :: l, v :: g, h => by simp [AllGrp.len h.2]
  | [], v :: g, h => h.elim
  | x :: l, [], h => h.elim
theorem AllGrp.piece : ∀ {l : List Str} {g : List Nat}, AllGrp l g → ∀ x ∈ l, (58 : UInt8) ∉ x ∧ x ≠ []
  | [], [], _, x, hx => by simp at hx
  | y :: l, v :: g, h, x, hx => by
    rcases List.mem_cons.1 hx with rfl | hx
    · exact ⟨(grp_some h.1).2.1, (grp_some h.1).1⟩
    · exact AllGrp.piece h.2 x hx
  | [], v :: g, h, _, _ => h.elim
  | y :: l, [], h, _, _ => h.elim
theorem AllGrp.small : ∀ {l : List Str} {g : List Nat}, AllGrp l g → ∀ v ∈ g, v < 65536
  | [], [], _, x, hx => by simp at hx
  | y :: l, v :: g, h, x, hx => by
    rcases List.mem_cons.1 hx with rfl | hx
    · exact (grp_some h.1).2.2
    · exact AllGrp.small h.2 x hx
  | [], v :: g, h, _, _ => h.elim
  | y :: l, [], h, _, _ => h.elim
theorem grps_iff : ∀ {l : List Str} {g : List Nat}, grps l = some g ↔ AllGrp l g
  | [], [] => by simp [grps, AllGrp]
  | [], v :: g => by simp [grps, AllGrp]
  | x :: l, [] => by
    unfold grps
    cases grp x with
    | none => simp [AllGrp]
    | some v => cases grps l <;> simp [AllGrp]
  | x :: l, v :: g => by
    unfold grps
    cases hx : grp x with
    | none => simp [AllGrp, hx]
    | some u =>
      cases hl : grps l with
      | none =>
        have : ¬ AllGrp l g := fun e => by
          have := grps_iff.2 e
          rw [hl] at this
          cases this
        simp [AllGrp, this]
      | some t =>
        have := grps_iff (l := l) (g := g)
        rw [hl] at this
        simp only [AllGrp, hx, Option.some.injEq, List.cons.injEq] at this ⊢
        rw [this]
theorem AllGrp.nm : ∀ {g : List Nat}, (∀ v ∈ g, v < 65536) → AllGrp (g.map (nm 16)) g
  | [], _ => trivial
  | v :: g, h => ⟨grp_nm (h v (by simp)), AllGrp.nm (fun u hu => h u (by simp [hu]))⟩
theorem AllGrp.take : ∀ {l : List Str} {g : List Nat} (k : Nat), AllGrp l g → AllGrp (l.take k) (g.take k)
  | _, _, 0, _ => by simp [AllGrp]
  | [], [], k + 1, _ => by simp [AllGrp]
  | x :: l, v :: g, k + 1, h => ⟨h.1, AllGrp.take k h.2⟩
  | [], v :: g, k + 1, h => h.elim
  | x :: l, [], k + 1, h => h.elim
theorem AllGrp.drop : ∀ {l : List Str} {g : List Nat} (k : Nat), AllGrp l g → AllGrp (l.drop k) (g.drop k)
  | _, _, 0, h => by simpa using h
  | [], [], k + 1, _ => by simp [AllGrp]
  | x :: l, v :: g, k + 1, h => AllGrp.drop k h.2
  | [], v :: g, k + 1, h => h.elim
  | x :: l, [], k + 1, h => h.elim
theorem join_ne {a : UInt8} {l : List Str} (hl : l ≠ []) (h : ∀ x ∈ l, x ≠ []) : join a l ≠ [] := by
  cases l with
  | nil => exact absurd rfl hl
  | cons x l =>
    have := h x (by simp)
    cases l with
    | nil => exact this
    | cons y l => show x ++ _ ≠ []; simp [this]
theorem groups_join {l : List Str} {g : List Nat} (h : AllGrp l g) : groups (join 58 l) = some g := by
  unfold groups
  by_cases hl : l = []
  · subst hl
    have := h.len
    cases g with
    | nil => rfl
    | cons v g => exact h.elim
  · rw [if_neg (join_ne hl fun x hx => (h.piece x hx).2), cut_join hl fun x hx => (h.piece x hx).1]
    exact grps_iff.2 h

/-! ### addresses of eight groups -/
def six (s : Str) : Option (List Nat) := match cutDC s with
  | some (p, r) => match groups p, groups r with
    | some a, some b => if a.length + b.length > 7 then none else some (a ++ (List.replicate (8 - a.length - b.length) 0 ++ b))
    | _, _ => none
  | none => match groups s with
    | some a => if a.length = 8 then some a else none
    | none => none
theorem six_full {l : List Str} {g : List Nat} (h : AllGrp l g) (h8 : g.length = 8) : six (join 58 l) = some g := by
  unfold six
  rw [cutDC_pieces h.piece, groups_join h]
  dsimp only
  rw [if_pos h8]
theorem six_short {l m : List Str} {a b : List Nat} (h : AllGrp l a) (k : AllGrp m b) (h7 : a.length + b.length ≤ 7) : six (join 58 l ++ 58 :: 58 :: join 58 m) = some (a ++ (List.replicate (8 - a.length - b.length) 0 ++ b)) := by
  unfold six
  rw [cutDC_join _ h.piece]
  dsimp only
  rw [groups_join h, groups_join k]
  dsimp only
  rw [if_neg (by omega)]
theorem six_some {s : Str} {g : List Nat} (h : six s = some g) : g.length = 8 ∧ ∀ v ∈ g, v < 65536 := by
  have small : ∀ {t : Str} {a : List Nat}, groups t = some a → ∀ v ∈ a, v < 65536 := fun {t a} ht => by
    unfold groups at ht
    split at ht
    · cases ht; simp
    · exact (grps_iff.1 ht).small
  unfold six at h
  split at h
  · rename_i p r _
    cases hp : groups p with
    | none => rw [hp] at h; simp at h
    | some a =>
      cases hr : groups r with
      | none => rw [hp, hr] at h; simp at h
      | some b =>
        rw [hp, hr] at h
        dsimp only at h
        split at h
        · cases h
        · cases h
          refine ⟨by simp; omega, fun v hv => ?_⟩
          rcases List.mem_append.1 hv with hv | hv
          · exact small hp v hv
          · rcases List.mem_append.1 hv with hv | hv
            · have := List.eq_of_mem_replicate hv; omega
            · exact small hr v hv
  · cases hs : groups s with
    | none => rw [hs] at h; cases h
    | some a =>
      rw [hs] at h
      dsimp only at h
      split at h
      · cases h
        rename_i h8
        exact ⟨h8, small hs⟩
      · cases h

/-- groups, with one row of noughts left out, or none -/
def tx6 (l : List Str) (at_ many : Nat) : Str := if many = 0 then join 58 l else join 58 (l.take at_) ++ 58 :: 58 :: join 58 (l.drop (at_ + many))
theorem fill {g : List Nat} (h8 : g.length = 8) {k m : Nat} (hk : k + m ≤ 8) (hz : ∀ i, k ≤ i → i < k + m → g[i]? = some 0) : g.take k ++ (List.replicate (8 - (g.take k).length - (g.drop (k + m)).length) 0 ++ g.drop (k + m)) = g := by
  have e1 : (g.take k).length = k := by simp; omega
  have e2 : (g.drop (k + m)).length = 8 - (k + m) := by simp; omega
  have e3 : 8 - k - (8 - (k + m)) = m := by omega
  rw [e1, e2, e3]
  apply List.ext_getElem?
  intro i
  by_cases h1 : i < k
  · rw [List.getElem?_append_left (by rw [e1]; exact h1), List.getElem?_take, if_pos h1]
  · rw [List.getElem?_append_right (by rw [e1]; omega), e1]
    by_cases h2 : i < k + m
    · rw [List.getElem?_append_left (by simp; omega), List.getElem?_replicate, if_pos (by omega), hz i (by omega) h2]
    · rw [List.getElem?_append_right (by simp; omega), List.length_replicate, List.getElem?_drop]
      congr 1
      omega
/-- an address that is written with any groups' digits, and with any row of its noughts left out, is read as it -/
theorem six_tx6 {l : List Str} {g : List Nat} (h : AllGrp l g) (h8 : g.length = 8) {k m : Nat} (hz : m = 0 ∨ k + m ≤ 8 ∧ ∀ i, k ≤ i → i < k + m → g[i]? = some 0) : six (tx6 l k m) = some g := by
  unfold tx6
  by_cases hm : m = 0
  · rw [if_pos hm]
    exact six_full h h8
  · obtain ⟨hk, hz⟩ := hz.resolve_left hm
    rw [if_neg hm, six_short (h.take k) (h.drop (k + m)) (by simp; omega), fill h8 hk hz]

/-! ### decimals, and addresses of four bytes -/
def dec (s : Str) (most : Nat) : Option Nat := if s ≠ [] ∧ s.length ≤ 6 then match vl 10 s 0 with
  | some n => if n ≤ most ∧ nm 10 n = s then some n else none
  | none => none
  else none
theorem dec_iff {s : Str} {most n : Nat} (hm : most ≤ 999999) : dec s most = some n ↔ n ≤ most ∧ s = nm 10 n := by
  constructor
  · intro h
    unfold dec at h
    split at h
    · split at h
      · split at h
        · rename_i hc
          cases h
          exact ⟨hc.1, hc.2.symm⟩
        · cases h
      · cases h
    · cases h
  · rintro ⟨h, rfl⟩
    unfold dec
    rw [if_pos ⟨nm_ne (by omega) n, nm_len (by omega) 5 n (by omega)⟩, vl_nm (by omega) (by omega)]
    dsimp only
    rw [if_pos ⟨h, rfl⟩]
def decs : List Str → Option (List Nat)
  | [] => some []
  | x :: r => match dec x 255 with
    | none => none
    | some v => match decs r with
      | none => none
      | some t => some (v :: t)
theorem decs_iff : ∀ {l : List Str} {b : List Nat}, decs l = some b ↔ (∀ n ∈ b, n ≤ 255) ∧ l = b.map (nm 10)
  | [], [] => by simp [decs]
  | [], v :: g => by simp [decs]
  | x :: l, [] => by
    unfold decs
    cases dec x 255 with
    | none => simp
    | some v => cases decs l <;> simp
  | x :: l, v :: b => by
    have ih := decs_iff (l := l) (b := b)
    have hd := dec_iff (s := x) (most := 255) (n := v) (by omega)
    constructor
    · intro h
      unfold decs at h
      split at h
      · cases h
      · split at h
        · cases h
        · rename_i u hu _ t ht
          cases h
          obtain ⟨h1, h2⟩ := hd.1 hu
          obtain ⟨h3, h4⟩ := ih.1 ht
          refine ⟨fun n hn => ?_, by rw [h4, h2]; rfl⟩
          rcases List.mem_cons.1 hn with rfl | hn
          · exact h1
          · exact h3 n hn
    · rintro ⟨h1, h2⟩
      simp only [List.map_cons, List.cons.injEq] at h2
      unfold decs
      rw [hd.2 ⟨h1 v (by simp), h2.1⟩, ih.2 ⟨fun n hn => h1 n (by simp [hn]), h2.2⟩]
def four (s : Str) : Option (List Nat) := if (cut 46 s).length = 4 then decs (cut 46 s) else none
theorem nm10_free (n : Nat) : ∀ c ∈ nm 10 n, 48 ≤ c.toNat ∧ c.toNat ≤ 57 := fun c hc => by
  obtain ⟨d, hd, rfl⟩ := nm_mem (by omega) n c hc
  rw [dg_low hd]
  omega
theorem not_mem_nm10 (n : Nat) {c : UInt8} (h : c.toNat < 48 ∨ 57 < c.toNat) : c ∉ nm 10 n := fun hc => by
  have := nm10_free n c hc
  omega
theorem four_iff {s : Str} {b : List Nat} : four s = some b ↔ b.length = 4 ∧ (∀ n ∈ b, n ≤ 255) ∧ s = join 46 (b.map (nm 10)) := by
  constructor
  · intro h
    unfold four at h
    split at h
    · rename_i h4
      obtain ⟨h1, h2⟩ := decs_iff.1 h
      refine ⟨by rw [h2] at h4; simpa using h4, h1, ?_⟩
      rw [← h2, join_cut]
    · cases h
  · rintro ⟨h4, h1, rfl⟩
    have hc : cut 46 (join 46 (b.map (nm 10))) = b.map (nm 10) := cut_join (by intro e; have := congrArg List.length e; simp at this; simp [this] at h4) (fun x hx => by
      obtain ⟨n, _, rfl⟩ := List.mem_map.1 hx
      exact not_mem_nm10 n (by decide))
    unfold four
    rw [hc, if_pos (by simpa using h4)]
    exact decs_iff.2 ⟨h1, rfl⟩

end Go.Proofs.YtghdaengkgiekaaGreatDoor.hostp

/-
  Given for the seat's laws: hosts as plain lists of bytes: what may be, its text, and what a text is of. What is written is read as it was; what is read may be. No program, no memory.
-/
namespace Go.Proofs.YtghdaengkgiekaaGreatDoor.hostp
set_option linter.unusedVariables false

/-! ### small letters -/
def lc (c : UInt8) : UInt8 := if 65 ≤ c.toNat ∧ c.toNat ≤ 90 then c + 32 else c
def low (s : Str) : Str := s.map lc
theorem lc_great {c : UInt8} (h : 65 ≤ c.toNat ∧ c.toNat ≤ 90) : (lc c).toNat = c.toNat + 32 := by
  unfold lc
  rw [if_pos h, UInt8.toNat_add]
  have : (32 : UInt8).toNat = 32 := rfl
  omega
theorem lc_else {c : UInt8} (h : ¬ (65 ≤ c.toNat ∧ c.toNat ≤ 90)) : lc c = c := by unfold lc; rw [if_neg h]
theorem lc_lc (c : UInt8) : lc (lc c) = lc c := lc_else (by
  by_cases h : 65 ≤ c.toNat ∧ c.toNat ≤ 90
  · rw [lc_great h]; omega
  · rw [lc_else h]; exact h)
theorem low_low (s : Str) : low (low s) = low s := by simp [low, lc_lc, Function.comp_def]
theorem low_id {s : Str} (h : ∀ c ∈ s, ¬ (65 ≤ c.toNat ∧ c.toNat ≤ 90)) : low s = s := by
  unfold low
  conv => rhs; rw [← List.map_id s]
  exact List.map_congr_left fun c hc => lc_else (h c hc)
/-- a byte that is no letter is that of its small form -/
theorem lc_eq {c d : UInt8} (hd : d.toNat < 97) (hd2 : ¬ (65 ≤ d.toNat ∧ d.toNat ≤ 90)) : lc c = d ↔ c = d := by
  constructor
  · intro e
    by_cases h : 65 ≤ c.toNat ∧ c.toNat ≤ 90
    · have := lc_great h
      rw [e] at this
      omega
    · rw [lc_else h] at e; exact e
  · rintro rfl
    exact lc_else hd2

theorem join_mem {a : UInt8} : ∀ {l : List Str} {c : UInt8}, c ∈ join a l → c = a ∨ ∃ x ∈ l, c ∈ x
  | [], c, h => by simp [join] at h
  | [x], c, h => .inr ⟨x, by simp, h⟩
  | x :: y :: l, c, h => by
    rcases List.mem_append.1 (show c ∈ x ++ a :: join a (y :: l) from h) with h | h
    · exact .inr ⟨x, by simp, h⟩
    · rcases List.mem_cons.1 h with rfl | h
      · exact .inl rfl
      · rcases join_mem h with e | ⟨z, hz, hc⟩
        · exact .inl e
        · exact .inr ⟨z, by simp at hz ⊢; exact .inr hz, hc⟩
theorem mem_join {a : UInt8} {x y : Str} {l : List Str} : a ∈ join a (x :: y :: l) := by
  show a ∈ x ++ a :: join a (y :: l)
  simp

/-! ### names -/
def dig (c : UInt8) : Bool := decide (48 ≤ c.toNat) && decide (c.toNat ≤ 57)
def okc (c : UInt8) : Bool := dig c || decide (c = 45) || (decide (97 ≤ c.toNat) && decide (c.toNat ≤ 122))
def lab (x : Str) : Bool := decide (x ≠ []) && x.all okc && decide (x.head? ≠ some 45) && decide (x.getLast? ≠ some 45)
def nameB (s : Str) : Bool := decide (s.length ≤ 40) && (cut 46 s).all lab && !((cut 46 s).getLast?.getD []).all dig
theorem okc_nat {c : UInt8} (h : okc c = true) : 48 ≤ c.toNat ∧ c.toNat ≤ 57 ∨ c.toNat = 45 ∨ 97 ≤ c.toNat ∧ c.toNat ≤ 122 := by
  unfold okc dig at h
  simp only [Bool.or_eq_true, Bool.and_eq_true, decide_eq_true_eq] at h
  rcases h with (h | rfl) | h
  · exact .inl h
  · exact .inr (.inl (by decide))
  · exact .inr (.inr h)
theorem name_mem {s : Str} (h : nameB s = true) {c : UInt8} (hc : c ∈ s) : c = 46 ∨ okc c = true := by
  unfold nameB at h
  simp only [Bool.and_eq_true, List.all_eq_true] at h
  rw [← join_cut 46 s] at hc
  rcases join_mem hc with e | ⟨x, hx, hc⟩
  · exact .inl e
  · have := h.1.2 x hx
    unfold lab at this
    simp only [Bool.and_eq_true, List.all_eq_true] at this
    exact .inr (this.1.1.2 c hc)
theorem name_low {s : Str} (h : nameB s = true) : low s = s := low_id fun c hc => by
  rcases name_mem h hc with rfl | hh
  · decide
  · have := okc_nat hh; omega
theorem name_colon {s : Str} (h : nameB s = true) : (58 : UInt8) ∉ s := fun hc => by
  rcases name_mem h hc with e | hh
  · exact absurd e (by decide)
  · have := okc_nat hh
    have e : (58 : UInt8).toNat = 58 := rfl
    omega
def dd (c : UInt8) : Bool := dig c || decide (c = 46)
theorem name_plain {s : Str} (h : nameB s = true) : s.all dd = false := by
  rcases hd : s.all dd with _ | _
  · rfl
  · exfalso
    unfold nameB at h
    simp only [Bool.and_eq_true, Bool.not_eq_true'] at h
    have h2 := h.2
    rw [List.all_eq_true] at hd
    cases hl : (cut 46 s).getLast? with
    | none => exact cut_ne 46 s (List.getLast?_eq_none_iff.1 hl)
    | some x =>
      rw [hl] at h2
      have hx : x ∈ cut 46 s := List.mem_of_getLast? hl
      have : x.all dig = true := by
        rw [List.all_eq_true]
        intro c hc
        have h1 := hd c (cut_sub 46 s x hx c hc)
        unfold dd at h1
        simp only [Bool.or_eq_true, decide_eq_true_eq] at h1
        rcases h1 with h1 | rfl
        · exact h1
        · exact absurd hc (cut_mem 46 s x hx)
      rw [Option.getD_some, this] at h2
      cases h2

/-! ### bytes and groups -/
def by2 : List Nat → Str
  | [] => []
  | v :: g => UInt8.ofNat (v / 256) :: UInt8.ofNat (v % 256) :: by2 g
def un2 : Str → List Nat
  | a :: b :: r => (256 * a.toNat + b.toNat) :: un2 r
  | _ => []
theorem by2_len : ∀ g : List Nat, (by2 g).length = 2 * g.length
  | [] => rfl
  | v :: g => by simp [by2, by2_len g]; omega
theorem un2_by2 : ∀ {g : List Nat}, (∀ v ∈ g, v < 65536) → un2 (by2 g) = g
  | [], _ => rfl
  | v :: g, h => by
    have hv := h v (by simp)
    have e1 : (UInt8.ofNat (v / 256)).toNat = v / 256 := by rw [UInt8.toNat_ofNat']; omega
    have e2 : (UInt8.ofNat (v % 256)).toNat = v % 256 := by rw [UInt8.toNat_ofNat']; omega
    show (256 * _ + _) :: un2 (by2 g) = _
    rw [e1, e2, un2_by2 fun u hu => h u (by simp [hu])]
    congr 1
    omega
theorem by2_un2 : ∀ (n : Nat) {t : Str}, t.length = 2 * n → by2 (un2 t) = t
  | 0, t, h => by
    obtain rfl : t = [] := List.length_eq_zero_iff.1 (by omega)
    rfl
  | n + 1, [], h => by simp at h
  | n + 1, [a], h => by simp at h; omega
  | n + 1, a :: b :: r, h => by
    have hr : r.length = 2 * n := by simp at h; omega
    show UInt8.ofNat ((256 * a.toNat + b.toNat) / 256) :: UInt8.ofNat ((256 * a.toNat + b.toNat) % 256) :: by2 (un2 r) = _
    have ha := a.toNat_lt
    have hb := b.toNat_lt
    rw [by2_un2 n hr, show (256 * a.toNat + b.toNat) / 256 = a.toNat by omega, show (256 * a.toNat + b.toNat) % 256 = b.toNat by omega, UInt8.ofNat_toNat, UInt8.ofNat_toNat]
theorem un2_len : ∀ (n : Nat) {t : Str}, t.length = 2 * n → (un2 t).length = n
  | 0, t, h => by
    obtain rfl : t = [] := List.length_eq_zero_iff.1 (by omega)
    rfl
  | n + 1, [], h => by simp at h
  | n + 1, [a], h => by simp at h; omega
  | n + 1, a :: b :: r, h => by
    have hr : r.length = 2 * n := by simp at h; omega
    show (_ :: un2 r).length = _
    rw [List.length_cons, un2_len n hr]
theorem un2_lt : ∀ (n : Nat) {t : Str}, t.length = 2 * n → ∀ v ∈ un2 t, v < 65536
  | 0, t, h, v, hv => by
    obtain rfl : t = [] := List.length_eq_zero_iff.1 (by omega)
    simp [un2] at hv
  | n + 1, [], h, _, _ => by simp at h
  | n + 1, [a], h, _, _ => by simp at h; omega
  | n + 1, a :: b :: r, h, v, hv => by
    have hr : r.length = 2 * n := by simp at h; omega
    have ha := a.toNat_lt
    have hb := b.toNat_lt
    rcases List.mem_cons.1 (show v ∈ _ :: un2 r from hv) with rfl | hv
    · omega
    · exact un2_lt n hr v hv

/-! ### the longest row of noughts -/
def zr : List Nat → Nat
  | [] => 0
  | v :: g => if v = 0 then zr g + 1 else 0
theorem zr_get : ∀ {g : List Nat} {i : Nat}, i < zr g → g[i]? = some 0
  | [], i, h => by simp [zr] at h
  | v :: g, i, h => by
    unfold zr at h
    split at h
    · rename_i hv
      subst hv
      cases i with
      | zero => rfl
      | succ i => simpa using zr_get (g := g) (i := i) (by omega)
    · omega
theorem zr_le : ∀ g : List Nat, zr g ≤ g.length
  | [] => by simp [zr]
  | v :: g => by
    unfold zr
    have := zr_le g
    split <;> simp <;> omega
/-- of the first k places the one with the longest row, the first one of several -/
def bst (g : List Nat) : Nat → Nat × Nat
  | 0 => (0, 0)
  | k + 1 => if zr (g.drop k) > (bst g k).2 ∧ 2 ≤ zr (g.drop k) then (k, zr (g.drop k)) else bst g k
theorem bst_ok {g : List Nat} (h8 : g.length = 8) : ∀ k, k ≤ 8 → (bst g k).2 = 0 ∨ (bst g k).1 + (bst g k).2 ≤ 8 ∧ ∀ i, (bst g k).1 ≤ i → i < (bst g k).1 + (bst g k).2 → g[i]? = some 0
  | 0, _ => .inl rfl
  | k + 1, hk => by
    unfold bst
    split
    · refine .inr ⟨?_, fun i h1 h2 => ?_⟩
      · have := zr_le (g.drop k)
        simp at this
        show k + zr (g.drop k) ≤ 8
        omega
      · have := zr_get (g := g.drop k) (i := i - k) (by dsimp only at h1 h2; omega)
        rw [List.getElem?_drop] at this
        rwa [show k + (i - k) = i by dsimp only at h1; omega] at this
    · exact bst_ok h8 k (by omega)

/-! ### hosts -/
structure H where
  kind : Nat
  text : Str
deriving DecidableEq
def may (h : H) : Bool := (decide (h.kind = 1) && decide (h.text.length = 4)) || (decide (h.kind = 2) && decide (h.text.length = 16)) || (decide (h.kind = 3) && nameB h.text)
def text6 (t : Str) : Str := tx6 ((un2 t).map (nm 16)) (bst (un2 t) 8).1 (bst (un2 t) 8).2
def text4 (t : Str) : Str := join 46 (t.map fun c => nm 10 c.toNat)
def text (h : H) : Str := if may h then (if h.kind = 3 then h.text else if h.kind = 1 then text4 h.text else text6 h.text) else []
def parse (s0 : Str) : Option H :=
  if 58 ∈ low s0 then (six (low s0)).map fun g => ⟨2, by2 g⟩
  else if low s0 ≠ [] ∧ (low s0).all dd = true then (four (low s0)).map fun b => ⟨1, b.map UInt8.ofNat⟩
  else if nameB (low s0) then some ⟨3, low s0⟩ else none
theorem parse_low {s s' : Str} (h : low s = low s') : parse s = parse s' := by unfold parse; rw [h]

theorem may_iff {h : H} : may h = true ↔ (h.kind = 1 ∧ h.text.length = 4) ∨ (h.kind = 2 ∧ h.text.length = 16) ∨ (h.kind = 3 ∧ nameB h.text = true) := by
  unfold may
  simp only [Bool.or_eq_true, Bool.and_eq_true, decide_eq_true_eq, or_assoc]

theorem tx6_mem {g : List Nat} {k m : Nat} {c : UInt8} (h : c ∈ tx6 (g.map (nm 16)) k m) : c = 58 ∨ ∃ d, d < 16 ∧ c = dg d := by
  have key : ∀ {l : List Str}, (∀ x ∈ l, x ∈ g.map (nm 16)) → c ∈ join 58 l → c = 58 ∨ ∃ d, d < 16 ∧ c = dg d := fun {l} hl hc => by
    rcases join_mem hc with e | ⟨x, hx, hc⟩
    · exact .inl e
    · obtain ⟨v, _, rfl⟩ := List.mem_map.1 (hl x hx)
      exact .inr (nm_mem (by omega) v c hc)
  unfold tx6 at h
  split at h
  · exact key (fun x hx => hx) h
  · rcases List.mem_append.1 h with h | h
    · exact key (fun x hx => List.mem_of_mem_take hx) h
    · rcases List.mem_cons.1 h with h | h
      · exact .inl h
      · rcases List.mem_cons.1 h with h | h
        · exact .inl h
        · exact key (fun x hx => List.mem_of_mem_drop hx) h
theorem tx6_colon {l : List Str} (h8 : l.length = 8) (k m : Nat) : (58 : UInt8) ∈ tx6 l k m := by
  unfold tx6
  split
  · match l, h8 with
    | x :: y :: l, _ => exact mem_join
  · simp
theorem text6_low (t : Str) : low (text6 t) = text6 t := low_id fun c hc => by
  rcases tx6_mem hc with rfl | ⟨d, hd, rfl⟩
  · decide
  · exact (dg_small hd).1
theorem text6_six {t : Str} (h : t.length = 16) : six (text6 t) = some (un2 t) := by
  have h8 : (un2 t).length = 8 := un2_len 8 (by omega)
  exact six_tx6 (AllGrp.nm (un2_lt 8 (by omega))) h8 (bst_ok h8 8 (Nat.le_refl _))
theorem text4_eq (t : Str) : text4 t = join 46 ((t.map UInt8.toNat).map (nm 10)) := by simp [text4, Function.comp_def]
theorem text4_mem {t : Str} {c : UInt8} (h : c ∈ text4 t) : dd c = true := by
  rcases join_mem h with rfl | ⟨x, hx, hc⟩
  · decide
  · obtain ⟨v, _, rfl⟩ := List.mem_map.1 hx
    have := nm10_free v.toNat c hc
    unfold dd dig
    simp only [Bool.or_eq_true, Bool.and_eq_true, decide_eq_true_eq]
    exact .inl this
theorem dd_nat {c : UInt8} (h : dd c = true) : 48 ≤ c.toNat ∧ c.toNat ≤ 57 ∨ c.toNat = 46 := by
  unfold dd dig at h
  simp only [Bool.or_eq_true, Bool.and_eq_true, decide_eq_true_eq] at h
  rcases h with h | rfl
  · exact .inl h
  · exact .inr (by decide)
theorem text4_low (t : Str) : low (text4 t) = text4 t := low_id fun c hc => by
  have := dd_nat (text4_mem hc)
  omega
theorem text4_four {t : Str} (h : t.length = 4) : four (text4 t) = some (t.map UInt8.toNat) := four_iff.2 ⟨by simpa using h, fun n hn => by
  obtain ⟨c, _, rfl⟩ := List.mem_map.1 hn
  have := c.toNat_lt
  omega, text4_eq t⟩

/-- what is written is read as it was -/
theorem parse_text {h : H} (hm : may h = true) : parse (text h) = some h := by
  unfold text
  rw [if_pos hm]
  obtain ⟨kd, t⟩ := h
  rcases may_iff.1 hm with ⟨rfl, ht⟩ | ⟨rfl, ht⟩ | ⟨rfl, ht⟩
  · rw [if_neg (by simp), if_pos rfl]
    dsimp only at ht ⊢
    have hne : text4 t ≠ [] := join_ne (fun e => by
      have h0 := congrArg List.length e
      rw [List.length_map, ht] at h0
      cases h0) fun x hx => by
        obtain ⟨c, _, rfl⟩ := List.mem_map.1 hx
        exact nm_ne (by omega) _
    have hall : (text4 t).all dd = true := List.all_eq_true.2 fun c hc => text4_mem hc
    have hno : (58 : UInt8) ∉ text4 t := fun e => by
      have := dd_nat (text4_mem e)
      have e2 : (58 : UInt8).toNat = 58 := rfl
      omega
    unfold parse
    rw [text4_low, if_neg hno, if_pos ⟨hne, hall⟩, text4_four ht]
    show some (H.mk 1 ((t.map UInt8.toNat).map UInt8.ofNat)) = _
    rw [List.map_map]
    have : (t.map (UInt8.ofNat ∘ UInt8.toNat)) = t := by
      conv => rhs; rw [← List.map_id t]
      exact List.map_congr_left fun c _ => UInt8.ofNat_toNat
    rw [this]
  · rw [if_neg (by simp), if_neg (by simp)]
    dsimp only at ht ⊢
    unfold parse
    have hcol : (58 : UInt8) ∈ text6 t := tx6_colon (by rw [List.length_map]; exact un2_len 8 (by omega)) _ _
    rw [text6_low, if_pos hcol, text6_six ht]
    show some (H.mk 2 (by2 (un2 t))) = _
    rw [by2_un2 8 (by omega)]
  · rw [if_pos rfl]
    dsimp only at ht ⊢
    unfold parse
    rw [name_low ht, if_neg (name_colon ht), if_neg (by rw [name_plain ht]; simp), if_pos ht]
/-- what is read may be, and, but for addresses of 16 bytes, its text is what was read, with small letters -/
theorem parse_may {s : Str} {h : H} (hp : parse s = some h) : may h = true ∧ (h.kind ≠ 2 → text h = low s) := by
  unfold parse at hp
  split at hp
  · obtain ⟨g, hg, rfl⟩ := Option.map_eq_some_iff.1 hp
    have h8 := (six_some hg).1
    exact ⟨may_iff.2 (.inr (.inl ⟨rfl, by show (by2 g).length = 16; rw [by2_len]; omega⟩)), fun e => absurd rfl e⟩
  · split at hp
    · obtain ⟨b, hb, rfl⟩ := Option.map_eq_some_iff.1 hp
      obtain ⟨h4, hle, hs⟩ := four_iff.1 hb
      have hm : may ⟨1, b.map UInt8.ofNat⟩ = true := may_iff.2 (.inl ⟨rfl, by simpa using h4⟩)
      refine ⟨hm, fun _ => ?_⟩
      unfold text
      rw [if_pos hm, if_neg (by simp), if_pos rfl]
      show text4 _ = _
      rw [text4_eq, hs]
      congr 1
      rw [List.map_map, List.map_map]
      refine List.map_congr_left fun n hn => ?_
      have := hle n hn
      show nm 10 (UInt8.ofNat n).toNat = nm 10 n
      rw [UInt8.toNat_ofNat', Nat.mod_eq_of_lt (by omega)]
    · split at hp
      · rename_i hn
        cases hp
        have hm : may ⟨3, low s⟩ = true := may_iff.2 (.inr (.inr ⟨rfl, hn⟩))
        refine ⟨hm, fun _ => ?_⟩
        unfold text
        rw [if_pos hm, if_pos rfl]
      · cases hp
theorem text_inj {a b : H} (ha : may a = true) (hb : may b = true) (h : text a = text b) : a = b := by
  have h1 := parse_text ha
  rw [h, parse_text hb] at h1
  cases h1
  rfl

end Go.Proofs.YtghdaengkgiekaaGreatDoor.hostp

/-
  Given for the seat's laws: targets as plain lists of bytes; great letters; digits with noughts ahead. No program, no memory.
-/
namespace Go.Proofs.YtghdaengkgiekaaGreatDoor.hostp
set_option linter.unusedVariables false

/-! ### the last colon -/
def lastC : Str → Option (Str × Str)
  | [] => none
  | c :: r => match lastC r with
    | some (p, q) => some (c :: p, q)
    | none => if c = 58 then some ([], r) else none
theorem lastC_free : ∀ {y : Str}, (58 : UInt8) ∉ y → lastC y = none
  | [], _ => rfl
  | c :: r, h => by
    have h1 : c ≠ 58 := fun e => h (by simp [e])
    unfold lastC
    rw [lastC_free fun e => h (List.mem_cons_of_mem _ e)]
    dsimp only
    rw [if_neg h1]
theorem lastC_put : ∀ (x : Str) {y : Str}, (58 : UInt8) ∉ y → lastC (x ++ 58 :: y) = some (x, y)
  | [], y, h => by
    show lastC (58 :: y) = _
    unfold lastC
    rw [lastC_free h]
    rfl
  | c :: x, y, h => by
    show lastC (c :: (x ++ 58 :: y)) = _
    unfold lastC
    rw [lastC_put x h]
theorem lastC_some : ∀ {s : Str} {p q : Str}, lastC s = some (p, q) → s = p ++ 58 :: q ∧ (58 : UInt8) ∉ q
  | [], p, q, h => by cases h
  | c :: r, p, q, h => by
    unfold lastC at h
    cases hr : lastC r with
    | some x =>
      obtain ⟨p', q'⟩ := x
      rw [hr] at h
      dsimp only at h
      cases h
      obtain ⟨h1, h2⟩ := lastC_some hr
      exact ⟨by rw [h1]; rfl, h2⟩
    | none =>
      rw [hr] at h
      dsimp only at h
      split at h
      · rename_i hc
        subst hc
        cases h
        refine ⟨rfl, fun hm => ?_⟩
        obtain ⟨a, b, he, hb⟩ : ∃ a b, r = a ++ 58 :: b ∧ (58 : UInt8) ∉ b := by
          clear hr
          induction r with
          | nil => simp at hm
          | cons d r ih =>
            by_cases hd : (58 : UInt8) ∈ r
            · obtain ⟨a, b, h1, h2⟩ := ih hd
              exact ⟨d :: a, b, by rw [h1]; rfl, h2⟩
            · rcases List.mem_cons.1 hm with e | e
              · exact ⟨[], r, by rw [← e]; rfl, hd⟩
              · exact absurd e hd
        rw [he, lastC_put a hb] at hr
        cases hr
      · cases h
theorem lastC_none {s : Str} : lastC s = none ↔ (58 : UInt8) ∉ s := by
  constructor
  · intro h hm
    obtain ⟨a, b, he, hb⟩ : ∃ a b, s = a ++ 58 :: b ∧ (58 : UInt8) ∉ b := by
      clear h
      induction s with
      | nil => simp at hm
      | cons d r ih =>
        by_cases hd : (58 : UInt8) ∈ r
        · obtain ⟨a, b, h1, h2⟩ := ih hd
          exact ⟨d :: a, b, by rw [h1]; rfl, h2⟩
        · rcases List.mem_cons.1 hm with e | e
          · exact ⟨[], r, by rw [← e]; rfl, hd⟩
          · exact absurd e hd
    rw [he, lastC_put a hb] at h
    cases h
  · exact lastC_free
theorem lc_colon {c : UInt8} : lc c = 58 ↔ c = 58 := lc_eq (by decide) (by decide)
theorem low_colon {s : Str} : (58 : UInt8) ∈ low s ↔ (58 : UInt8) ∈ s := by
  unfold low
  rw [List.mem_map]
  constructor
  · rintro ⟨c, hc, e⟩
    rw [← lc_colon.1 e]
    exact hc
  · exact fun h => ⟨58, h, by decide⟩
theorem low_append (x y : Str) : low (x ++ y) = low x ++ low y := by simp [low]
theorem lastC_low (s : Str) : lastC (low s) = (lastC s).map fun p => (low p.1, low p.2) := by
  cases h : lastC s with
  | none =>
    rw [lastC_none] at h
    exact lastC_none.2 fun e => h (low_colon.1 e)
  | some x =>
    obtain ⟨p, q⟩ := x
    obtain ⟨rfl, hq⟩ := lastC_some h
    rw [low_append]
    show lastC (low p ++ lc 58 :: low q) = _
    rw [show lc 58 = 58 by decide, lastC_put _ fun e => hq (low_colon.1 e)]
    rfl

theorem dec_low (s : Str) (most : Nat) (hm : most ≤ 999999) : dec (low s) most = dec s most := by
  have key : ∀ {t : Str} {n : Nat}, low t = nm 10 n → t = nm 10 n := fun {t n} h => by
    rw [← h]
    refine (low_id fun c hc hh => ?_).symm
    have h1 : lc c ∈ nm 10 n := by rw [← h]; exact List.mem_map.2 ⟨c, hc, rfl⟩
    have h2 := nm10_free n _ h1
    have h3 := lc_great hh
    omega
  cases h : dec s most with
  | some n =>
    obtain ⟨h1, h2⟩ := (dec_iff hm).1 h
    rw [(dec_iff hm).2 ⟨h1, ?_⟩]
    rw [h2]
    exact low_id fun c hc => by have := nm10_free n c hc; omega
  | none =>
    cases h' : dec (low s) most with
    | none => rfl
    | some n =>
      obtain ⟨h1, h2⟩ := (dec_iff hm).1 h'
      rw [(dec_iff hm).2 ⟨h1, key h2⟩] at h
      cases h

/-! ### targets -/
structure T where
  host : H
  port : Int
deriving DecidableEq
def mayT (t : T) : Bool := may t.host && decide (1 ≤ t.port) && decide (t.port ≤ 65535)
def print (t : T) : Str := if mayT t then (if t.host.kind = 2 then 91 :: (text t.host ++ 93 :: 58 :: nm 10 t.port.toNat) else text t.host ++ 58 :: nm 10 t.port.toNat) else []
def withPort (h : H) (p : Str) : Option T := match dec p 65535 with
  | some n => if 1 ≤ n then some ⟨h, n⟩ else none
  | none => none
def hostOf (t : Str) : Option H := match t with
  | [] => none
  | c :: r => if c = 91 then (if r.getLast? = some 93 then (parse r.dropLast).bind fun h => if h.kind = 2 then some h else none else none)
    else (parse (c :: r)).bind fun h => if h.kind = 2 then none else some h
def parseT (s : Str) : Option T := match lastC s with
  | none => none
  | some (t, p) => (hostOf t).bind fun h => withPort h p
theorem withPort_nm {h : H} {p : Int} (h1 : 1 ≤ p) (h2 : p ≤ 65535) : withPort h (nm 10 p.toNat) = some ⟨h, p⟩ := by
  unfold withPort
  rw [(dec_iff (by omega)).2 ⟨show p.toNat ≤ 65535 by omega, rfl⟩]
  dsimp only
  rw [if_pos (by omega)]
  congr 2
  omega
theorem withPort_some {h : H} {p : Str} {t : T} (hw : withPort h p = some t) : t.host = h ∧ 1 ≤ t.port ∧ t.port ≤ 65535 ∧ p = nm 10 t.port.toNat := by
  unfold withPort at hw
  split at hw
  · rename_i n hn
    obtain ⟨h1, h2⟩ := (dec_iff (by omega)).1 hn
    split at hw
    · cases hw
      exact ⟨rfl, by dsimp only; omega, by dsimp only; omega, by simpa using h2⟩
    · cases hw
  · cases hw
theorem withPort_low (h : H) (p : Str) : withPort h (low p) = withPort h p := by unfold withPort; rw [dec_low _ _ (by omega)]

theorem text_ne {h : H} (hm : may h = true) : text h ≠ [] := fun e => by
  have := parse_text hm
  rw [e] at this
  have h0 : parse [] = none := by decide
  rw [h0] at this
  cases this
/-- the text of a host begins with no '[' -/
theorem text_head {h : H} (hm : may h = true) : ∀ c ∈ text h, c ≠ 91 := by
  intro c hc
  rintro rfl
  have e91 : (91 : UInt8).toNat = 91 := rfl
  unfold text at hc
  rw [if_pos hm] at hc
  split at hc
  · have : nameB h.text = true := by
      rcases may_iff.1 hm with ⟨e, _⟩ | ⟨e, _⟩ | ⟨_, e⟩
      · omega
      · omega
      · exact e
    rcases name_mem this hc with e | hh
    · exact absurd e (by decide)
    · have := okc_nat hh; omega
  · split at hc
    · have := dd_nat (text4_mem hc); omega
    · rcases tx6_mem hc with e | ⟨d, hd, e⟩
      · exact absurd e (by decide)
      · exact (dg_small hd).2.2.2.1 e.symm
theorem hostOf_text {h : H} (hm : may h = true) : hostOf (if h.kind = 2 then 91 :: (text h ++ [93]) else text h) = some h := by
  split
  · rename_i hk
    unfold hostOf
    dsimp only
    rw [if_pos rfl, if_pos (by simp), List.dropLast_concat, parse_text hm]
    show (if h.kind = 2 then some h else none) = _
    rw [if_pos hk]
  · rename_i hk
    cases ht : text h with
    | nil => exact absurd ht (text_ne hm)
    | cons c r =>
      unfold hostOf
      dsimp only
      rw [if_neg (text_head hm c (by rw [ht]; simp)), ← ht, parse_text hm]
      show (if h.kind = 2 then none else some h) = _
      rw [if_neg hk]
theorem hostOf_may {t : Str} {h : H} (hh : hostOf t = some h) : may h = true := by
  unfold hostOf at hh
  split at hh
  · cases hh
  · split at hh
    · split at hh
      · obtain ⟨h', hp, hk⟩ := Option.bind_eq_some_iff.1 hh
        split at hk
        · cases hk
          exact (parse_may hp).1
        · cases hk
      · cases hh
    · obtain ⟨h', hp, hk⟩ := Option.bind_eq_some_iff.1 hh
      split at hk
      · cases hk
      · cases hk
        exact (parse_may hp).1
theorem mayT_iff {t : T} : mayT t = true ↔ may t.host = true ∧ 1 ≤ t.port ∧ t.port ≤ 65535 := by
  unfold mayT
  simp only [Bool.and_eq_true, decide_eq_true_eq, and_assoc]
/-- what is written is read as it was -/
theorem parseT_print {t : T} (hm : mayT t = true) : parseT (print t) = some t := by
  obtain ⟨h1, h2, h3⟩ := mayT_iff.1 hm
  have e : print t = (if t.host.kind = 2 then 91 :: (text t.host ++ [93]) else text t.host) ++ 58 :: nm 10 t.port.toNat := by
    unfold print
    rw [if_pos hm]
    split <;> simp
  unfold parseT
  rw [e, lastC_put _ (not_mem_nm10 _ (by decide))]
  dsimp only
  rw [hostOf_text h1]
  exact withPort_nm h2 h3
theorem parseT_may {s : Str} {t : T} (hp : parseT s = some t) : mayT t = true := by
  unfold parseT at hp
  split at hp
  · cases hp
  · obtain ⟨h, hh, hw⟩ := Option.bind_eq_some_iff.1 hp
    obtain ⟨h1, h2, h3, _⟩ := withPort_some hw
    exact mayT_iff.2 ⟨by rw [h1]; exact hostOf_may hh, h2, h3⟩
theorem print_inj {a b : T} (ha : mayT a = true) (hb : mayT b = true) (h : print a = print b) : a = b := by
  have h1 := parseT_print ha
  rw [h, parseT_print hb] at h1
  cases h1
  rfl

theorem hostOf_low (t : Str) : hostOf (low t) = hostOf t := by
  cases t with
  | nil => rfl
  | cons c r =>
    show hostOf (lc c :: low r) = _
    have e91 : lc c = 91 ↔ c = 91 := lc_eq (by decide) (by decide)
    unfold hostOf
    dsimp only
    by_cases hc : c = 91
    · rw [if_pos hc, if_pos (e91.2 hc)]
      have e1 : (low r).getLast? = some 93 ↔ r.getLast? = some 93 := by
        unfold low
        rw [List.getLast?_map]
        cases r.getLast? with
        | none => simp
        | some d =>
          simp only [Option.map_some, Option.some.injEq]
          exact lc_eq (by decide) (by decide)
      have e2 : parse (low r).dropLast = parse r.dropLast := by
        apply parse_low
        have : (low r).dropLast = low r.dropLast := by simp [low, List.map_dropLast]
        rw [this, low_low]
      by_cases hl : r.getLast? = some 93
      · rw [if_pos hl, if_pos (e1.2 hl), e2]
      · rw [if_neg hl, if_neg (fun e => hl (e1.1 e))]
    · rw [if_neg hc, if_neg (fun e => hc (e91.1 e))]
      have e2 : parse (lc c :: low r) = parse (c :: r) := parse_low (low_low (c :: r))
      rw [e2]
theorem parseT_low' (s : Str) : parseT (low s) = parseT s := by
  unfold parseT
  rw [lastC_low]
  cases lastC s with
  | none => rfl
  | some x =>
    obtain ⟨p, q⟩ := x
    show (hostOf (low p)).bind (fun h => withPort h (low q)) = (hostOf p).bind fun h => withPort h q
    rw [hostOf_low]
    congr 1
    funext h
    exact withPort_low h q
/-- great letters for small ones: the same -/
theorem parseT_low {s s' : Str} (h : low s = low s') : parseT s = parseT s' := by rw [← parseT_low' s, h, parseT_low']

/-! ### great letters -/
def upc (c : UInt8) : UInt8 := if 97 ≤ c.toNat ∧ c.toNat ≤ 122 then c - 32 else c
theorem upc_small {c : UInt8} (h : 97 ≤ c.toNat ∧ c.toNat ≤ 122) : (upc c).toNat = c.toNat - 32 := by
  unfold upc
  rw [if_pos h, UInt8.toNat_sub_of_le _ _ (by rw [UInt8.le_iff_toNat_le]; have : (32 : UInt8).toNat = 32 := rfl; omega)]
  rfl
theorem lc_upc (c : UInt8) : lc (upc c) = lc c := by
  by_cases h : 97 ≤ c.toNat ∧ c.toNat ≤ 122
  · apply UInt8.toNat_inj.1
    have h1 := upc_small h
    rw [lc_great (by omega), lc_else (by omega)]
    omega
  · unfold upc
    rw [if_neg h]
theorem upc_lc (c : UInt8) : upc (lc c) = upc c := by
  by_cases h : 65 ≤ c.toNat ∧ c.toNat ≤ 90
  · apply UInt8.toNat_inj.1
    have h1 := lc_great h
    rw [upc_small (by omega)]
    unfold upc
    rw [if_neg (by omega)]
    omega
  · rw [lc_else h]
/-- great letters at some places -/
def up : Str → List Bool → Str
  | [], _ => []
  | c :: r, [] => c :: r
  | c :: r, b :: w => (if b then upc c else c) :: up r w
theorem low_up : ∀ (s : Str) (w : List Bool), low (up s w) = low s
  | [], _ => rfl
  | c :: r, [] => rfl
  | c :: r, b :: w => by
    show lc (if b then upc c else c) :: low (up r w) = lc c :: low r
    rw [low_up r w]
    cases b
    · rfl
    · show lc (upc c) :: _ = _
      rw [lc_upc]
theorem up_all : ∀ (s : Str) (n : Nat), s.length ≤ n → up s (List.replicate n true) = s.map upc
  | [], _, _ => rfl
  | c :: r, 0, h => by simp at h
  | c :: r, n + 1, h => by
    show (if true then upc c else c) :: up r (List.replicate n true) = _
    rw [up_all r n (by simpa using h)]
    rfl
theorem up_low (s : Str) : (low s).map upc = s.map upc := by simp [low, Function.comp_def, upc_lc]

/-! ### noughts ahead -/
theorem vl_noughts (b k : Nat) (hb : 2 ≤ b) (x : Str) : vl b (List.replicate k 48 ++ x) 0 = vl b x 0 := by
  induction k with
  | zero => rfl
  | succ k ih =>
    rw [List.replicate_succ, List.cons_append, vl_cons]
    have : dv 48 = some 0 := by decide
    rw [this]
    dsimp only
    rw [if_pos (by omega)]
    simpa using ih
/-- a group's digits with noughts ahead, up to four -/
theorem grp_noughts {k v : Nat} (hv : v < 65536) (h : (List.replicate k 48 ++ nm 16 v).length ≤ 4) : grp (List.replicate k 48 ++ nm 16 v) = some v := by
  unfold grp
  rw [if_pos ⟨by simp [nm_ne], h⟩, vl_noughts 16 k (by omega), vl_nm (by omega) (by omega)]
theorem grp_zero {k : Nat} (h1 : 1 ≤ k) (h : k ≤ 4) : grp (List.replicate k 48) = some 0 := by
  unfold grp
  rw [if_pos ⟨by intro e; have := congrArg List.length e; simp at this; omega, by simpa using h⟩]
  have := vl_noughts 16 k (by omega) []
  rw [List.append_nil] at this
  rw [this]
  rfl
/-- an address whose groups are written with any such digits, any row of noughts left out -/
theorem parse_tx6 {l : List Str} {g : List Nat} (h : AllGrp l g) (h8 : g.length = 8) {k m : Nat} (hz : m = 0 ∨ k + m ≤ 8 ∧ ∀ i, k ≤ i → i < k + m → g[i]? = some 0) (hlow : low (tx6 l k m) = tx6 l k m) : parse (tx6 l k m) = some ⟨2, by2 g⟩ := by
  unfold parse
  rw [hlow, if_pos (tx6_colon (by rw [h.len, h8]) k m), six_tx6 h h8 hz]
  rfl

end Go.Proofs.YtghdaengkgiekaaGreatDoor.hostp

/-
  Given for the seat's laws: what loops over a text come to, step by step: the first '::', the last ':', a name, the text of groups, the longest row of noughts, the value of digits. No program, no memory.
-/
namespace Go.Proofs.YtghdaengkgiekaaGreatDoor.hostp
set_option linter.unusedVariables false

/-! ### the first '::', by its place -/
theorem cutDC_at : ∀ {s : Str} {i : Nat}, (∀ j, j < i → ¬ (s[j]? = some 58 ∧ s[j + 1]? = some 58)) → s[i]? = some 58 → s[i + 1]? = some 58 → cutDC s = some (s.take i, s.drop (i + 2))
  | [], i, _, h, _ => by simp at h
  | [a], i, _, _, h => by simp at h
  | a :: b :: r, 0, _, h1, h2 => by
    simp at h1 h2
    subst h1 h2
    rfl
  | a :: b :: r, i + 1, hn, h1, h2 => by
    have h0 := hn 0 (by omega)
    simp at h0
    rw [cutDC, if_neg (fun e => h0 e.1 e.2), cutDC_at (s := b :: r) (i := i) (fun j hj => by simpa using hn (j + 1) (by omega)) (by simpa using h1) (by simpa using h2)]
    rfl
theorem cutDC_no : ∀ {s : Str}, (∀ j : Nat, ¬ (s[j]? = some 58 ∧ s[j + 1]? = some 58)) → cutDC s = none
  | [], _ => rfl
  | [a], _ => rfl
  | a :: b :: r, hn => by
    have h0 := hn 0
    simp at h0
    rw [cutDC, if_neg (fun e => h0 e.1 e.2), cutDC_no (s := b :: r) (fun j => by simpa using hn (j + 1))]
    rfl

/-! ### the last ':', by its place -/
theorem lastC_at {s : Str} {i : Nat} (h : s[i]? = some 58) (hn : ∀ j, i < j → s[j]? ≠ some 58) : lastC s = some (s.take i, s.drop (i + 1)) := by
  obtain ⟨hl, he⟩ := List.getElem?_eq_some_iff.1 h
  have e1 : s = s.take i ++ 58 :: s.drop (i + 1) := by rw [← he, ← List.drop_eq_getElem_cons hl, List.take_append_drop]
  have hno : (58 : UInt8) ∉ s.drop (i + 1) := fun hm => by
    obtain ⟨j, hj⟩ := List.getElem?_of_mem hm
    rw [List.getElem?_drop] at hj
    exact hn (i + 1 + j) (by omega) hj
  conv => lhs; rw [e1]
  exact lastC_put _ hno

/-! ### a name, byte by byte -/
def nmGo : Str → Nat → Bool → UInt8 → Bool
  | [], long, nums, last => decide (0 < long) && decide (last ≠ 45) && !nums
  | c :: r, long, nums, last =>
    if c = 46 then (if long = 0 ∨ last = 45 then false else nmGo r 0 true c)
    else if okc c = false ∨ (c = 45 ∧ long = 0) then false
    else nmGo r (long + 1) (nums && dig c) c
/-- what the rest of a label, and what follows, must be, behind a label's beginning -/
def labRest (cur : Str) (s : Str) : Bool := match cut 46 s with
  | [] => false
  | x :: t => ((cur ++ x) :: t).all lab && !(((cur ++ x) :: t).getLast?.getD []).all dig
theorem lab_iff {x : Str} : lab x = true ↔ x ≠ [] ∧ (∀ c ∈ x, okc c = true) ∧ x.head? ≠ some 45 ∧ x.getLast? ≠ some 45 := by
  unfold lab
  simp only [Bool.and_eq_true, decide_eq_true_eq, List.all_eq_true, and_assoc]
theorem nmGo_lab : ∀ (s cur : Str) (last : UInt8), (∀ c ∈ cur, okc c = true) → cur.head? ≠ some 45 → (cur ≠ [] → cur.getLast? = some last) → nmGo s cur.length (cur.all dig) last = labRest cur s
  | [], cur, last, h1, h2, h3 => by
    unfold nmGo labRest cut
    dsimp only
    rw [List.append_nil]
    by_cases hc : cur = []
    · subst hc
      simp [lab]
    · have hl := h3 hc
      have hlen : 0 < cur.length := List.length_pos_iff.2 hc
      have e1 : lab cur = decide (last ≠ 45) := by
        by_cases hd : last = 45
        · rcases hh : lab cur with _ | _
          · simp [hd]
          · have := (lab_iff.1 hh).2.2.2
            rw [hl, hd] at this
            exact absurd rfl this
        · rw [lab_iff.2 ⟨hc, h1, h2, by rw [hl]; simpa using hd⟩]
          simp [hd]
      simp [e1, hlen]
  | c :: r, cur, last, h1, h2, h3 => by
    obtain ⟨x, t, he⟩ : ∃ x t, cut 46 r = x :: t := by
      cases h : cut 46 r with
      | nil => exact absurd h (cut_ne 46 r)
      | cons x t => exact ⟨x, t, rfl⟩
    unfold nmGo
    by_cases hc : c = 46
    · subst hc
      rw [if_pos rfl]
      have e0 : labRest cur (46 :: r) = (lab cur && labRest [] r) := by
        unfold labRest
        rw [cut_at, he]
        dsimp only
        rw [List.append_nil, List.nil_append, List.all_cons, List.getLast?_cons_cons, Bool.and_assoc]
      rw [e0]
      by_cases hb : cur.length = 0 ∨ last = 45
      · rw [if_pos hb]
        have : lab cur = false := by
          rcases hh : lab cur with _ | _
          · rfl
          · obtain ⟨q1, q2, q3, q4⟩ := lab_iff.1 hh
            rcases hb with hb | hb
            · exact absurd (List.length_eq_zero_iff.1 hb) q1
            · rw [h3 q1, hb] at q4
              exact absurd rfl q4
        rw [this]
        rfl
      · rw [if_neg hb]
        have hne : cur ≠ [] := fun e => hb (.inl (by rw [e]; rfl))
        have : lab cur = true := lab_iff.2 ⟨hne, h1, h2, by rw [h3 hne]; intro e; cases e; exact hb (.inr rfl)⟩
        rw [this, Bool.true_and]
        exact nmGo_lab r [] 46 (by simp) (by simp) (fun e => absurd rfl e)
    · rw [if_neg hc]
      have e0 : labRest cur (c :: r) = labRest (cur ++ [c]) r := by
        unfold labRest
        rw [cut_other hc r he, he]
        dsimp only
        rw [List.append_assoc]
        rfl
      rw [e0]
      by_cases hb : okc c = false ∨ (c = 45 ∧ cur.length = 0)
      · rw [if_pos hb]
        unfold labRest
        rw [he]
        dsimp only
        have : lab (cur ++ [c] ++ x) = false := by
          rcases hh : lab (cur ++ [c] ++ x) with _ | _
          · rfl
          · obtain ⟨q1, q2, q3, q4⟩ := lab_iff.1 hh
            rcases hb with hb | ⟨hb, hb2⟩
            · have := q2 c (by simp)
              rw [hb] at this
              cases this
            · obtain rfl : cur = [] := List.length_eq_zero_iff.1 hb2
              subst hb
              exact absurd rfl q3
        rw [List.all_cons, this]
        rfl
      · rw [if_neg hb]
        have hok : okc c = true := by
          rcases h : okc c with _ | _
          · exact absurd (.inl h) hb
          · rfl
        have := nmGo_lab r (cur ++ [c]) c (fun d hd => by
          rcases List.mem_append.1 hd with hd | hd
          · exact h1 d hd
          · obtain rfl : d = c := by simpa using hd
            exact hok) (by
          cases cur with
          | nil => simp; intro e; exact hb (.inr ⟨e, rfl⟩)
          | cons d cur => simpa using h2) (fun _ => by simp)
        rw [← this]
        simp
/-- the loop over a text, from its start -/
theorem nmGo_name {s : Str} (h : s.length ≤ 40) (c : UInt8) : nmGo s 0 true c = nameB s := by
  have := nmGo_lab s [] c (by simp) (by simp) (fun e => absurd rfl e)
  rw [show nmGo s 0 true c = nmGo s ([] : Str).length (([] : Str).all dig) c from rfl, this]
  unfold labRest nameB
  cases he : cut 46 s with
  | nil => exact absurd he (cut_ne 46 s)
  | cons x t =>
    dsimp only
    rw [List.nil_append, decide_eq_true h, Bool.true_and]
theorem nameB_long {s : Str} (h : ¬ s.length ≤ 40) : nameB s = false := by
  unfold nameB
  rw [decide_eq_false h]
  rfl
theorem nameB_nil : nameB [] = false := by decide

/-! ### texts with a byte between, one more -/
theorem join_snoc {a : UInt8} : ∀ {l : List Str} (x : Str), l ≠ [] → join a (l ++ [x]) = join a l ++ a :: x
  | [], x, h => absurd rfl h
  | [y], x, _ => rfl
  | y :: z :: l, x, _ => by
    show y ++ a :: join a ((z :: l) ++ [x]) = (y ++ a :: join a (z :: l)) ++ a :: x
    rw [join_snoc x (by simp)]
    simp
theorem take_snoc' {l : List Str} {i : Nat} {x : Str} (h : l[i]? = some x) : l.take (i + 1) = l.take i ++ [x] := by rw [List.take_add_one, h]; rfl
/-- the first i texts, with a byte between -/
theorem join_take {a : UInt8} {l : List Str} {i : Nat} {x : Str} (h : l[i]? = some x) : join a (l.take (i + 1)) = join a (l.take i) ++ ((if i = 0 then [] else [a]) ++ x) := by
  rw [take_snoc' h]
  by_cases hi : i = 0
  · subst hi
    simp [join]
  · have hl := (List.getElem?_eq_some_iff.1 h).1
    rw [if_neg hi, join_snoc x (fun e => by have := congrArg List.length e; rw [List.length_take, List.length_nil] at this; omega)]
    rfl

/-! ### the text of groups, group by group -/
def out6 (l : List Str) (k m i : Nat) : Str := if m = 0 ∨ i ≤ k then join 58 (l.take i) else join 58 (l.take k) ++ 58 :: 58 :: join 58 ((l.drop (k + m)).take (i - (k + m)))
theorem out6_start (l : List Str) (k m : Nat) : out6 l k m 0 = [] := by
  unfold out6
  rw [if_pos (.inr (Nat.zero_le _))]
  rfl
theorem out6_before {l : List Str} {k m i : Nat} {x : Str} (h : l[i]? = some x) (hi : m = 0 ∨ i < k) : out6 l k m (i + 1) = out6 l k m i ++ ((if i = 0 then [] else [58]) ++ x) := by
  unfold out6
  rw [if_pos (hi.imp id (by omega)), if_pos (hi.imp id (by omega)), join_take h]
theorem out6_row {l : List Str} {k m : Nat} (hm : 0 < m) : out6 l k m (k + m) = out6 l k m k ++ [58, 58] := by
  unfold out6
  rw [if_neg (by omega), if_pos (.inr (Nat.le_refl _)), Nat.sub_self]
  rfl
theorem out6_behind {l : List Str} {k m i : Nat} {x : Str} (h : l[i]? = some x) (hm : 0 < m) (hi : k + m ≤ i) : out6 l k m (i + 1) = out6 l k m i ++ ((if i = k + m then [] else [58]) ++ x) := by
  unfold out6
  have e : (l.drop (k + m))[i - (k + m)]? = some x := by rw [List.getElem?_drop, ← h]; congr 1; omega
  rw [if_neg (by omega), if_neg (by omega), show i + 1 - (k + m) = i - (k + m) + 1 by omega, join_take e]
  by_cases hik : i = k + m
  · rw [if_pos (by omega), if_pos hik]
    simp
  · rw [if_neg (by omega), if_neg hik]
    simp
theorem out6_end {l : List Str} {k m : Nat} (h8 : l.length = 8) (hk : m = 0 ∨ k + m ≤ 8) : out6 l k m 8 = tx6 l k m := by
  unfold out6 tx6
  by_cases hm : m = 0
  · rw [if_pos (.inl hm), if_pos hm, List.take_of_length_le (by omega)]
  · rw [if_neg (by omega), if_neg hm, List.take_of_length_le (l := l.drop (k + m)) (by simp; omega)]

/-! ### the longest row of noughts, place by place -/
theorem zr_at : ∀ {g : List Nat} {k : Nat}, (∀ j, j < k → g[j]? = some 0) → g[k]? ≠ some 0 → zr g = k
  | [], 0, _, _ => rfl
  | [], k + 1, h, _ => by have := h 0 (by omega); simp at this
  | v :: g, 0, _, h => by
    unfold zr
    rw [if_neg (by simpa using h)]
  | v :: g, k + 1, h, h2 => by
    have h0 : v = 0 := by simpa using h 0 (by omega)
    unfold zr
    rw [if_pos h0, zr_at (g := g) (k := k) (fun j hj => by simpa using h (j + 1) (by omega)) (by simpa using h2)]
theorem zr_drop {g : List Nat} {i k : Nat} (hik : i ≤ k) (h : ∀ j, i ≤ j → j < k → g[j]? = some 0) (h2 : g[k]? ≠ some 0) : zr (g.drop i) = k - i :=
  zr_at (fun j hj => by rw [List.getElem?_drop]; exact h (i + j) (by omega) (by omega)) (by rw [List.getElem?_drop, show i + (k - i) = k by omega]; exact h2)
theorem bst_step {g : List Nat} {i r : Nat} (h : zr (g.drop i) = r) : bst g (i + 1) = if r > (bst g i).2 ∧ 2 ≤ r then (i, r) else bst g i := by
  show (if zr (g.drop i) > (bst g i).2 ∧ 2 ≤ zr (g.drop i) then (i, zr (g.drop i)) else bst g i) = _
  rw [h]

/-! ### digits, one by one -/
theorem dv_iff {c : UInt8} {d : Nat} : dv c = some d ↔ d < 16 ∧ dg d = c := ⟨fun h => ⟨dv_lt h, dg_dv h⟩, fun ⟨h, e⟩ => by rw [← e]; exact dv_dg h⟩
theorem dv_none {c : UInt8} (h : ∀ d, d < 16 → dg d ≠ c) : dv c = none := by
  cases hd : dv c with
  | none => rfl
  | some d => exact absurd (dv_iff.1 hd).2 (h d (dv_iff.1 hd).1)
theorem dv_dig {c : UInt8} (h : 48 ≤ c.toNat ∧ c.toNat ≤ 57) : dv c = some (c.toNat - 48) := by unfold dv; rw [if_pos h]
theorem dv_dig_lt {c : UInt8} {d : Nat} (h : dv c = some d) (hd : d < 10) : 48 ≤ c.toNat ∧ c.toNat ≤ 57 := by
  unfold dv at h
  split at h
  · rename_i hc
    exact hc
  · split at h
    · cases h; omega
    · cases h
theorem vl_step {b : Nat} {s : Str} {i : Nat} {c : UInt8} {a : Nat} (hs : s[i]? = some c) (h : vl b (s.take i) 0 = some a) : vl b (s.take (i + 1)) 0 = match dv c with
    | none => none
    | some d => if d < b then some (a * b + d) else none := by
  rw [List.take_add_one, hs, vl_append, h]
  show vl b [c] a = _
  rw [vl_cons]
  rfl
/-- where a digit is none, there is no value -/
theorem vl_bad {b : Nat} {s : Str} {i : Nat} (h : vl b (s.take i) 0 = none) : vl b s 0 = none := by
  rw [← List.take_append_drop i s, vl_append, h]
  rfl
theorem vl_take_lt {b : Nat} {s : Str} {i a : Nat} (h : vl b (s.take i) 0 = some a) (hi : i ≤ s.length) : a < b ^ i := by
  have := vl_lt h
  rw [List.length_take, Nat.min_eq_left hi] at this
  omega

/-! ### pieces, one by one -/
theorem grps_cons (x : Str) (r : List Str) : grps (x :: r) = match grp x with
    | none => none
    | some v => match grps r with
      | none => none
      | some t => some (v :: t) := rfl
theorem grps_append : ∀ (l m : List Str), grps (l ++ m) = match grps l with
    | none => none
    | some a => match grps m with
      | none => none
      | some b => some (a ++ b)
  | [], m => by
    show grps m = match grps m with
      | none => none
      | some b => some ([] ++ b)
    cases grps m <;> rfl
  | x :: l, m => by
    show grps (x :: (l ++ m)) = _
    rw [grps_cons, grps_cons, grps_append l m]
    cases grp x with
    | none => rfl
    | some v =>
      dsimp only
      cases grps l with
      | none => rfl
      | some a =>
        dsimp only
        cases grps m with
        | none => rfl
        | some b => rfl
theorem decs_cons (x : Str) (r : List Str) : decs (x :: r) = match dec x 255 with
    | none => none
    | some v => match decs r with
      | none => none
      | some t => some (v :: t) := rfl
theorem decs_append : ∀ (l m : List Str), decs (l ++ m) = match decs l with
    | none => none
    | some a => match decs m with
      | none => none
      | some b => some (a ++ b)
  | [], m => by
    show decs m = match decs m with
      | none => none
      | some b => some ([] ++ b)
    cases decs m <;> rfl
  | x :: l, m => by
    show decs (x :: (l ++ m)) = _
    rw [decs_cons, decs_cons, decs_append l m]
    cases dec x 255 with
    | none => rfl
    | some v =>
      dsimp only
      cases decs l with
      | none => rfl
      | some a =>
        dsimp only
        cases decs m with
        | none => rfl
        | some b => rfl
theorem by2_append : ∀ (a b : List Nat), by2 (a ++ b) = by2 a ++ by2 b
  | [], b => rfl
  | v :: a, b => by
    show _ :: _ :: by2 (a ++ b) = _
    rw [by2_append a b]
    rfl
theorem by2_noughts : ∀ k : Nat, by2 (List.replicate k 0) = List.replicate (2 * k) 0
  | 0 => rfl
  | k + 1 => by
    rw [List.replicate_succ, show 2 * (k + 1) = 2 * k + 1 + 1 by omega, List.replicate_succ, List.replicate_succ]
    show _ :: _ :: by2 (List.replicate k 0) = _
    rw [by2_noughts k]
    rfl

end Go.Proofs.YtghdaengkgiekaaGreatDoor.hostp

/-
  Given for the seat's laws: addresses whose groups are written with noughts ahead, and with a row of noughts left out. No program, no memory.
-/
namespace Go.Proofs.YtghdaengkgiekaaGreatDoor.hostp
set_option linter.unusedVariables false

def smallC (c : UInt8) : Prop := ¬ (65 ≤ c.toNat ∧ c.toNat ≤ 90)
theorem tx6_small {l : List Str} (h : ∀ x ∈ l, ∀ c ∈ x, smallC c) (k m : Nat) : low (tx6 l k m) = tx6 l k m := by
  have hc : smallC 58 := by unfold smallC; decide
  have key : ∀ {l' : List Str}, (∀ x ∈ l', x ∈ l) → ∀ c ∈ join 58 l', smallC c := fun {l'} hl c hm => by
    rcases join_mem hm with rfl | ⟨x, hx, hcx⟩
    · exact hc
    · exact h x (hl x hx) c hcx
  refine low_id fun c hm => ?_
  unfold tx6 at hm
  split at hm
  · exact key (fun x hx => hx) c hm
  · rcases List.mem_append.1 hm with hm | hm
    · exact key (fun x hx => List.mem_of_mem_take hx) c hm
    · rcases List.mem_cons.1 hm with rfl | hm
      · exact hc
      · rcases List.mem_cons.1 hm with rfl | hm
        · exact hc
        · exact key (fun x hx => List.mem_of_mem_drop hx) c hm

/-- a number's digits; none for 0 -/
def nz (n : Nat) : Str := if n = 0 then [] else nm 16 n
theorem nz_zero : nz 0 = [] := rfl
theorem nz_step {n : Nat} (h : 0 < n) : nz n = nz (n / 16) ++ [dg (n % 16)] := by
  unfold nz
  rw [if_neg (by omega)]
  by_cases h1 : n < 16
  · rw [if_pos (by omega), nm_small h1, Nat.mod_eq_of_lt h1]
    rfl
  · rw [if_neg (by omega), nm_step (by omega) h1]
/-- a group as the law writes it: at least so many digits -/
def word (v wide : Nat) : Str := List.replicate (wide - (nz v).length) 48 ++ nz v
theorem nz_len {v : Nat} (hv : v < 65536) : (nz v).length ≤ 4 := by
  unfold nz
  split
  · simp
  · exact nm_len (by omega) 3 v (by omega)
theorem word_grp {v wide : Nat} (hv : v < 65536) (h1 : 1 ≤ wide) (h4 : wide ≤ 4) : grp (word v wide) = some v := by
  unfold word
  by_cases h0 : v = 0
  · subst h0
    rw [nz_zero, List.append_nil, List.length_nil]
    exact grp_zero h1 h4
  · have e : nz v = nm 16 v := by unfold nz; rw [if_neg h0]
    have hl := nz_len hv
    rw [e] at hl ⊢
    exact grp_noughts hv (by simp; omega)
theorem word_small {v wide : Nat} : ∀ c ∈ word v wide, smallC c := fun c hc => by
  unfold word at hc
  rcases List.mem_append.1 hc with hc | hc
  · obtain rfl := List.eq_of_mem_replicate hc
    unfold smallC
    decide
  · unfold nz at hc
    split at hc
    · simp at hc
    · obtain ⟨d, hd, rfl⟩ := nm_mem (by omega) v c hc
      exact (dg_small hd).1
/-- one nought more ahead -/
theorem word_pad {v wide : Nat} {k : Nat} : (48 : UInt8) :: (List.replicate k 48 ++ nz v) = List.replicate (k + 1) 48 ++ nz v := rfl

def words : List Nat → List Nat → List Str
  | v :: g, n :: w => word v n :: words g w
  | _, _ => []
theorem words_all : ∀ {g w : List Nat}, g.length = w.length → (∀ v ∈ g, v < 65536) → (∀ n ∈ w, 1 ≤ n ∧ n ≤ 4) → AllGrp (words g w) g
  | [], [], _, _, _ => trivial
  | v :: g, n :: w, hl, hg, hw => ⟨word_grp (hg v (by simp)) (hw n (by simp)).1 (hw n (by simp)).2, words_all (by simpa using hl) (fun u hu => hg u (by simp [hu])) (fun u hu => hw u (by simp [hu]))⟩
  | [], n :: w, hl, _, _ => by simp at hl
  | v :: g, [], hl, _, _ => by simp at hl
theorem words_small : ∀ {g w : List Nat}, ∀ x ∈ words g w, ∀ c ∈ x, smallC c
  | [], [], x, hx => by simp [words] at hx
  | [], n :: w, x, hx => by simp [words] at hx
  | v :: g, [], x, hx => by simp [words] at hx
  | v :: g, n :: w, x, hx => by
    rcases List.mem_cons.1 (show x ∈ word v n :: words g w from hx) with rfl | hx
    · exact word_small
    · exact words_small x hx
theorem words_get : ∀ {g w : List Nat} {i v n : Nat}, g[i]? = some v → w[i]? = some n → (words g w)[i]? = some (word v n)
  | [], w, i, v, n, h, _ => by simp at h
  | v :: g, [], i, _, _, _, h => by simp at h
  | v :: g, n :: w, 0, u, m, h1, h2 => by
    simp at h1 h2
    subst h1 h2
    rfl
  | v :: g, n :: w, i + 1, u, m, h1, h2 => by
    show (words g w)[i]? = _
    exact words_get (by simpa using h1) (by simpa using h2)
/-- written out, each group with noughts ahead, or with one row of its noughts left out: the same address -/
theorem parse_words {g w : List Nat} (h8 : g.length = 8) (hw8 : w.length = 8) (hg : ∀ v ∈ g, v < 65536) (hw : ∀ n ∈ w, 1 ≤ n ∧ n ≤ 4) {k m : Nat} (hz : m = 0 ∨ k + m ≤ 8 ∧ ∀ i, k ≤ i → i < k + m → g[i]? = some 0) :
    parse (tx6 (words g w) k m) = some ⟨2, by2 g⟩ :=
  parse_tx6 (words_all (by omega) hg hw) h8 hz (tx6_small (fun x hx => words_small x hx) k m)

/-! ### the chapter's examples -/
def bs (l : List Nat) : Str := l.map UInt8.ofNat
/-- 'A.Example' is 'a.example' -/
theorem ex_name : parse (bs [65, 46, 69, 120, 97, 109, 112, 108, 101]) = some ⟨3, bs [97, 46, 101, 120, 97, 109, 112, 108, 101]⟩ := by decide
/-- '0:0::0' -/
theorem ex_six : parse (bs [48, 58, 48, 58, 58, 48]) = some ⟨2, by2 [0, 0, 0, 0, 0, 0, 0, 0]⟩ := by decide
/-- '10.0.0.255' -/
theorem ex_v4 : text ⟨1, bs [10, 0, 0, 255]⟩ = bs [49, 48, 46, 48, 46, 48, 46, 50, 53, 53] := by decide +kernel
/-- '::1' -/
theorem ex_one : text ⟨2, by2 [0, 0, 0, 0, 0, 0, 0, 1]⟩ = bs [58, 58, 49] := by decide +kernel
/-- '::' -/
theorem ex_all : text ⟨2, by2 [0, 0, 0, 0, 0, 0, 0, 0]⟩ = bs [58, 58] := by decide +kernel
/-- '2001:db8::1:0' -/
theorem ex_db8 : text ⟨2, by2 [8193, 3512, 0, 0, 0, 0, 1, 0]⟩ = bs [50, 48, 48, 49, 58, 100, 98, 56, 58, 58, 49, 58, 48] := by decide +kernel
/-- '1:0:0:2::3' -/
theorem ex_two : text ⟨2, by2 [1, 0, 0, 2, 0, 0, 0, 3]⟩ = bs [49, 58, 48, 58, 48, 58, 50, 58, 58, 51] := by decide +kernel
/-- '1:0:2:3:4:5:6:7' -/
theorem ex_single : text ⟨2, by2 [1, 0, 2, 3, 4, 5, 6, 7]⟩ = bs [49, 58, 48, 58, 50, 58, 51, 58, 52, 58, 53, 58, 54, 58, 55] := by decide +kernel
/-- '[::1]:80' -/
theorem ex_target : parseT (bs [91, 58, 58, 49, 93, 58, 56, 48]) = some ⟨⟨2, by2 [0, 0, 0, 0, 0, 0, 0, 1]⟩, 80⟩ := by decide +kernel
/-- '[::1]:80' -/
theorem ex_print : print ⟨⟨2, by2 [0, 0, 0, 0, 0, 0, 0, 1]⟩, 80⟩ = bs [91, 58, 58, 49, 93, 58, 56, 48] := by decide +kernel
/-- 'a:080' -/
theorem ex_noT0 : parseT (bs [97, 58, 48, 56, 48]) = none := by decide +kernel
/-- 'a:0' -/
theorem ex_noT1 : parseT (bs [97, 58, 48]) = none := by decide +kernel
/-- '::1:80' -/
theorem ex_noT2 : parseT (bs [58, 58, 49, 58, 56, 48]) = none := by decide +kernel
/-- 'a..b' -/
theorem ex_no0 : parse (bs [97, 46, 46, 98]) = none := by decide +kernel
/-- 'a.1' -/
theorem ex_no1 : parse (bs [97, 46, 49]) = none := by decide +kernel
/-- '-a' -/
theorem ex_no2 : parse (bs [45, 97]) = none := by decide +kernel
/-- '1.2.3.04' -/
theorem ex_no3 : parse (bs [49, 46, 50, 46, 51, 46, 48, 52]) = none := by decide +kernel
/-- '1.2.3' -/
theorem ex_no4 : parse (bs [49, 46, 50, 46, 51]) = none := by decide +kernel
/-- '1.2.3.256' -/
theorem ex_no5 : parse (bs [49, 46, 50, 46, 51, 46, 50, 53, 54]) = none := by decide +kernel
/-- '1::2::3' -/
theorem ex_no6 : parse (bs [49, 58, 58, 50, 58, 58, 51]) = none := by decide +kernel
/-- '1:2:3:4:5:6:7::8' -/
theorem ex_no7 : parse (bs [49, 58, 50, 58, 51, 58, 52, 58, 53, 58, 54, 58, 55, 58, 58, 56]) = none := by decide +kernel

end Go.Proofs.YtghdaengkgiekaaGreatDoor.hostp
