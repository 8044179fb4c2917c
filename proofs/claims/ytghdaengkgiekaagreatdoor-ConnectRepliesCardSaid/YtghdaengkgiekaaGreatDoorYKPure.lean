/-
  Given for the seat's laws: heads as lists of bytes. Plain: nothing of the program. No condition.
-/
import Derived.Lib.Hide
namespace Go.Proofs.YtghdaengkgiekaaGreatDoor.hd
set_option linter.unusedVariables false

abbrev Str := List UInt8
abbrev Flds := List (Str × Str)

def vis (c : UInt8) : Bool := decide (32 ≤ c.toNat) && decide (c.toNat ≤ 126)
def up (c : UInt8) : Bool := decide (65 ≤ c.toNat) && decide (c.toNat ≤ 90)
def lw (c : UInt8) : UInt8 := if up c then c + 32 else c
def marks : Str := [33, 35, 36, 37, 38, 39, 42, 43, 45, 46, 94, 95, 96, 124, 126]
def sgn (c : UInt8) : Bool := (decide (97 ≤ c.toNat) && decide (c.toNat ≤ 122)) || up c || (decide (48 ≤ c.toNat) && decide (c.toNat ≤ 57)) || marks.contains c
def blank (c : UInt8) : Bool := c == 32 || c == 9
def vtab (c : UInt8) : Bool := vis c || c == 9
def trim (s : Str) : Str := ((s.dropWhile blank).reverse.dropWhile blank).reverse
def low (s : Str) : Str := s.map lw
def lowF (f : Flds) : Flds := f.map fun p => (low p.1, p.2)

/-- a byte said of all bytes -/
theorem byte_all (P : UInt8 → Bool) (h : ∀ n, n < 256 → P (UInt8.ofNat n) = true) (c : UInt8) : P c = true := by
  have := h c.toNat c.toNat_lt
  rwa [UInt8.ofNat_toNat] at this
theorem lw_sgn (c : UInt8) : sgn (lw c) = sgn c := by
  have := byte_all (fun c => sgn (lw c) == sgn c) (by decide +kernel) c
  simpa using this
theorem lw_lw (c : UInt8) : lw (lw c) = lw c := by
  have := byte_all (fun c => lw (lw c) == lw c) (by decide +kernel) c
  simpa using this
theorem sgn_facts (c : UInt8) (h : sgn c = true) : c ≠ 13 ∧ c ≠ 58 ∧ c ≠ 10 := by
  have := byte_all (fun c => !sgn c || (c != 13 && c != 58 && c != 10)) (by decide +kernel) c
  simp only [h, Bool.not_true, Bool.false_or, Bool.and_eq_true, bne_iff_ne] at this
  exact ⟨this.1.1, this.1.2, this.2⟩
theorem vtab_facts (c : UInt8) (h : vtab c = true) : c ≠ 13 ∧ c ≠ 10 := by
  have := byte_all (fun c => !vtab c || (c != 13 && c != 10)) (by decide +kernel) c
  simp only [h, Bool.not_true, Bool.false_or, Bool.and_eq_true, bne_iff_ne] at this
  exact this
theorem vis_facts (c : UInt8) (h : vis c = true) : c ≠ 13 ∧ c ≠ 10 ∧ c ≠ 9 := by
  have := byte_all (fun c => !vis c || (c != 13 && c != 10 && c != 9)) (by decide +kernel) c
  simp only [h, Bool.not_true, Bool.false_or, Bool.and_eq_true, bne_iff_ne] at this
  exact ⟨this.1.1, this.1.2, this.2⟩
theorem vis_vtab {c : UInt8} (h : vis c = true) : vtab c = true := by simp [vtab, h]

inductive St
  | first | within | half | begin | named | valued | last | over
  deriving DecidableEq
structure T where
  st : St
  line : Str
  fs : Flds
  name : Str
  part : Str
  deriving DecidableEq

/-- one byte: an error, or what stands then -/
def step (t : T) (c : UInt8) : Except Nat T :=
  match t.st with
  | .first => if vis c then .ok { t with st := .within, part := t.part ++ [c] } else .error 6
  | .within => if vis c then .ok { t with st := .within, part := t.part ++ [c] } else if c = 13 then .ok { t with st := .half, line := t.part, part := [] } else .error 6
  | .half => if c = 10 then .ok { t with st := .begin } else .error 6
  | .begin => if c = 13 then .ok { t with st := .last } else if sgn c then (if t.fs.length = 16 then .error 3 else .ok { t with st := .named, part := t.part ++ [lw c] }) else .error 6
  | .named => if sgn c then .ok { t with st := .named, part := t.part ++ [lw c] } else if c = 58 then .ok { t with st := .valued, name := t.part, part := [] } else .error 6
  | .valued => if vtab c then .ok { t with st := .valued, part := t.part ++ [c] } else if c = 13 then .ok { t with st := .half, fs := t.fs ++ [(t.name, trim t.part)], part := [] } else .error 6
  | .last => if c = 10 then .ok { t with st := .over } else .error 6
  | .over => .error 6

abbrev R := Str × Flds × Nat × Nat
def go (t : T) (i : Nat) : Str → R
  | [] => ([], [], 0, 5)
  | c :: r => match step t c with
    | .error e => ([], [], 0, e)
    | .ok t' => if t'.st = .over then (t'.line, t'.fs, i + 1, 0) else if i + 1 = 512 then ([], [], 0, 3) else go t' (i + 1) r
def start : T := ⟨.first, [], [], [], []⟩
/-- what Take gives: the line, the fields, the length, the number of the error -/
def take (b : Str) : R := go start 0 b

/-! ### more bytes -/
theorem go_app {t : T} {i : Nat} {b : Str} (m : Str) (h : (go t i b).2.2.2 ≠ 5) : go t i (b ++ m) = go t i b := by
  induction b generalizing t i with
  | nil => exact absurd rfl h
  | cons c r ih =>
    simp only [go, List.cons_append] at h ⊢
    cases hs : step t c with
    | error e => rfl
    | ok t' =>
      simp only [hs] at h ⊢
      split
      · rfl
      · rename_i h1
        rw [if_neg h1] at h
        split
        · rfl
        · rename_i h2
          rw [if_neg h2] at h
          exact ih h
theorem step_err {t : T} {c : UInt8} {e : Nat} (h : step t c = .error e) : e = 6 ∨ e = 3 := by
  unfold step at h
  split at h <;> (repeat' split at h) <;> simp at h <;> omega
theorem go_kinds (t : T) (i : Nat) (b : Str) : ((go t i b).2.2.2 = 0 ∧ i < (go t i b).2.2.1 ∧ (go t i b).2.2.1 ≤ i + b.length ∧ (i < 512 → (go t i b).2.2.1 ≤ 512)) ∨ (go t i b = ([], [], 0, 5) ∧ (i < 512 → i + b.length < 512)) ∨ go t i b = ([], [], 0, 6) ∨ go t i b = ([], [], 0, 3) := by
  induction b generalizing t i with
  | nil => exact .inr (.inl ⟨rfl, fun h => by simpa using h⟩)
  | cons c r ih =>
    simp only [go]
    cases hs : step t c with
    | error e =>
      rcases step_err hs with rfl | rfl
      · exact .inr (.inr (.inl rfl))
      · exact .inr (.inr (.inr rfl))
    | ok t' =>
      simp only
      split
      · refine .inl ⟨rfl, by simp, by simp, fun h => by simp; omega⟩
      · split
        · exact .inr (.inr (.inr rfl))
        · rename_i h1 h2
          rcases ih t' (i + 1) with ⟨a1, a2, a3, a4⟩ | ⟨a, a2⟩ | a | a
          · exact .inl ⟨a1, by omega, by simp; omega, fun h => a4 (by omega)⟩
          · exact .inr (.inl ⟨a, fun h => by have := a2 (by omega); simp; omega⟩)
          · exact .inr (.inr (.inl a))
          · exact .inr (.inr (.inr a))
theorem go_part {t : T} {i : Nat} {b : Str} (h : (go t i b).2.2.2 = 0) {j : Nat} (hj : i + j < (go t i b).2.2.1) : go t i (b.take j) = ([], [], 0, 5) := by
  rcases go_kinds t i (b.take j) with ⟨a1, a2, a3, _⟩ | ⟨a, _⟩ | a | a
  · have h1 := go_app (b.drop j) (t := t) (i := i) (b := b.take j) (by rw [a1]; simp)
    rw [List.take_append_drop] at h1
    rw [h1] at hj
    have : (b.take j).length ≤ j := by simp; omega
    omega
  · exact a
  all_goals
    have h1 := go_app (b.drop j) (t := t) (i := i) (b := b.take j) (by rw [a]; simp)
    rw [List.take_append_drop] at h1
    rw [h1, a] at h
    cases h
theorem take_app {b : Str} (m : Str) (h : (take b).2.2.2 ≠ 5) : take (b ++ m) = take b := go_app m h
theorem take_part {b : Str} (h : (take b).2.2.2 = 0) {j : Nat} (hj : j < (take b).2.2.1) : take (b.take j) = ([], [], 0, 5) := go_part h (by rw [Nat.zero_add]; exact hj)

/-! ### a run of bytes -/
/-- through these bytes, never over, to that state -/
inductive Path : T → Str → T → Prop
  | nil (t : T) : Path t [] t
  | cons {t t1 t2 : T} {c : UInt8} {s : Str} (h : step t c = .ok t1) (ho : t1.st ≠ .over) (hp : Path t1 s t2) : Path t (c :: s) t2
theorem Path.app {t t1 t2 : T} {a b : Str} (h : Path t a t1) (k : Path t1 b t2) : Path t (a ++ b) t2 := by
  induction h with
  | nil => exact k
  | cons h ho _ ih => exact .cons h ho (ih k)
theorem Path.one {t t1 : T} {c : UInt8} (h : step t c = .ok t1) (ho : t1.st ≠ .over) : Path t [c] t1 := .cons h ho (.nil _)
theorem Path.go {t t1 : T} {a : Str} (h : Path t a t1) {i : Nat} (hi : i + a.length < 512) (r : Str) : go t i (a ++ r) = go t1 (i + a.length) r := by
  induction h generalizing i with
  | nil => rfl
  | cons h ho _ ih =>
    simp only [List.length_cons] at hi
    simp only [List.cons_append, hd.go, h]
    rw [if_neg ho, if_neg (by omega), ih (by omega), List.length_cons]
    congr 1
    omega
theorem within_path {t : T} (ht : t.st = .within) {s : Str} (hs : ∀ c ∈ s, vis c = true) : Path t s { t with part := t.part ++ s } := by
  induction s generalizing t with
  | nil => obtain ⟨a, b, c, d, e⟩ := t; simp; exact .nil _
  | cons c r ih =>
    have h1 : step t c = .ok { t with st := .within, part := t.part ++ [c] } := by simp [step, ht, hs c (by simp)]
    have := ih (t := { t with st := .within, part := t.part ++ [c] }) rfl (fun x hx => hs x (by simp [hx]))
    have h2 : ({ t with st := .within, part := t.part ++ [c] ++ r } : T) = { t with part := t.part ++ c :: r } := by simp [← ht]
    rw [← h2]
    exact .cons h1 (by simp) this
theorem named_path {t : T} (ht : t.st = .named) {s : Str} (hs : ∀ c ∈ s, sgn c = true) : Path t s { t with part := t.part ++ low s } := by
  induction s generalizing t with
  | nil => obtain ⟨a, b, c, d, e⟩ := t; simp [low]; exact .nil _
  | cons c r ih =>
    have h1 : step t c = .ok { t with st := .named, part := t.part ++ [lw c] } := by simp [step, ht, hs c (by simp)]
    have := ih (t := { t with st := .named, part := t.part ++ [lw c] }) rfl (fun x hx => hs x (by simp [hx]))
    have h2 : ({ t with st := .named, part := t.part ++ [lw c] ++ low r } : T) = { t with part := t.part ++ low (c :: r) } := by simp [← ht, low]
    rw [← h2]
    exact .cons h1 (by simp) this
theorem valued_path {t : T} (ht : t.st = .valued) {s : Str} (hs : ∀ c ∈ s, vtab c = true) : Path t s { t with part := t.part ++ s } := by
  induction s generalizing t with
  | nil => obtain ⟨a, b, c, d, e⟩ := t; simp; exact .nil _
  | cons c r ih =>
    have h1 : step t c = .ok { t with st := .valued, part := t.part ++ [c] } := by simp [step, ht, hs c (by simp)]
    have := ih (t := { t with st := .valued, part := t.part ++ [c] }) rfl (fun x hx => hs x (by simp [hx]))
    have h2 : ({ t with st := .valued, part := t.part ++ [c] ++ r } : T) = { t with part := t.part ++ c :: r } := by simp [← ht]
    rw [← h2]
    exact .cons h1 (by simp) this

/-! ### what is printed -/
def prF (p : Str × Str) : Str := p.1 ++ [58] ++ (if p.2 = [] then [] else 32 :: p.2) ++ [13, 10]
def pr (l : Str) (fs : Flds) : Str := l ++ [13, 10] ++ fs.flatMap prF ++ [13, 10]
/-- a name, a value, that may be -/
def okN (s : Str) : Prop := s ≠ [] ∧ ∀ c ∈ s, sgn c = true
def okV (s : Str) : Prop := trim s = s ∧ ∀ c ∈ s, vtab c = true
def okL (s : Str) : Prop := s ≠ [] ∧ ∀ c ∈ s, vis c = true
structure Ok (l : Str) (fs : Flds) : Prop where
  line : okL l
  most : fs.length ≤ 16
  flds : ∀ p ∈ fs, okN p.1 ∧ okV p.2

theorem line_path {l : Str} (h : okL l) : Path start (l ++ [13, 10]) ⟨.begin, l, [], [], []⟩ := by
  match l, h with
  | c :: r, h =>
    have h1 : step start c = .ok ⟨.within, [], [], [], [c]⟩ := by simp [step, start, h.2 c (by simp)]
    have h2 := within_path (t := ⟨.within, [], [], [], [c]⟩) rfl (s := r) (fun x hx => h.2 x (by simp [hx]))
    have h3 : step ⟨.within, [], [], [], [c] ++ r⟩ 13 = .ok ⟨.half, [c] ++ r, [], [], []⟩ := by simp [step, show vis 13 = false by decide]
    have h4 : step ⟨.half, [c] ++ r, [], [], []⟩ 10 = .ok ⟨.begin, [c] ++ r, [], [], []⟩ := by simp [step]
    exact (Path.cons h1 (by simp) h2).app ((Path.one h3 (by simp)).app (Path.one h4 (by simp)))
  | [], h => exact absurd rfl h.1
theorem trim_blank {v : Str} (h : trim v = v) : trim (if v = [] then [] else 32 :: v) = v := by
  split
  · rename_i h0; rw [h0]; rfl
  · have : trim (32 :: v) = trim v := by simp [trim, blank]
    rw [this, h]
theorem field_path {l : Str} {fs : Flds} {nm : Str} {p : Str × Str} (hp : okN p.1 ∧ okV p.2) (hl : fs.length < 16) : Path ⟨.begin, l, fs, nm, []⟩ (prF p) ⟨.begin, l, fs ++ [(low p.1, p.2)], low p.1, []⟩ := by
  obtain ⟨n, v⟩ := p
  match n, hp with
  | c :: r, hp =>
    obtain ⟨h1, h2⟩ := hp
    have hc := h1.2 c (by simp)
    have g1 : step ⟨.begin, l, fs, nm, []⟩ c = .ok ⟨.named, l, fs, nm, [lw c]⟩ := by
      have := (sgn_facts c hc).1
      simp [step, hc, this]
      omega
    have g2 := named_path (t := ⟨.named, l, fs, nm, [lw c]⟩) rfl (s := r) (fun x hx => h1.2 x (by simp [hx]))
    have e2 : [lw c] ++ low r = low (c :: r) := by simp [low]
    simp only [e2] at g2
    have g3 : step ⟨.named, l, fs, nm, low (c :: r)⟩ 58 = .ok ⟨.valued, l, fs, low (c :: r), []⟩ := by simp [step, show sgn 58 = false by decide]
    have hv : ∀ x ∈ (if v = [] then [] else 32 :: v), vtab x = true := by
      intro x hx
      split at hx
      · simp at hx
      · rcases List.mem_cons.1 hx with rfl | hx
        · decide
        · exact h2.2 x hx
    have g4 := valued_path (t := ⟨.valued, l, fs, low (c :: r), []⟩) rfl hv
    have g5 : step ⟨.valued, l, fs, low (c :: r), [] ++ (if v = [] then [] else 32 :: v)⟩ 13 = .ok ⟨.half, l, fs ++ [(low (c :: r), v)], low (c :: r), []⟩ := by
      simp only [step, List.nil_append, show vtab 13 = false by decide]
      rw [trim_blank h2.1]
      rfl
    have g6 : step ⟨.half, l, fs ++ [(low (c :: r), v)], low (c :: r), []⟩ 10 = .ok ⟨.begin, l, fs ++ [(low (c :: r), v)], low (c :: r), []⟩ := by simp [step]
    have := ((((Path.cons g1 (by simp) g2).app (Path.one g3 (by simp))).app g4).app (Path.one g5 (by simp))).app (Path.one g6 (by simp))
    have e : prF (c :: r, v) = ((((c :: r) ++ [58]) ++ (if v = [] then [] else 32 :: v)) ++ [13]) ++ [10] := by simp [prF]
    rw [e]
    exact this
  | [], hp => exact absurd rfl hp.1.1
theorem fields_path {l : Str} {fs gs : Flds} {nm : Str} (h : ∀ p ∈ gs, okN p.1 ∧ okV p.2) (hl : fs.length + gs.length ≤ 16) : ∃ nm', Path ⟨.begin, l, fs, nm, []⟩ (gs.flatMap prF) ⟨.begin, l, fs ++ lowF gs, nm', []⟩ := by
  induction gs generalizing fs nm with
  | nil => exact ⟨nm, by simp [lowF]; exact .nil _⟩
  | cons p r ih =>
    simp only [List.length_cons] at hl
    have h1 := field_path (l := l) (fs := fs) (nm := nm) (p := p) (h p (by simp)) (by omega)
    obtain ⟨nm', h2⟩ := ih (fs := fs ++ [(low p.1, p.2)]) (nm := low p.1) (fun q hq => h q (by simp [hq])) (by simp; omega)
    refine ⟨nm', ?_⟩
    have e : fs ++ [(low p.1, p.2)] ++ lowF r = fs ++ lowF (p :: r) := by simp [lowF]
    rw [e] at h2
    rw [List.flatMap_cons]
    exact h1.app h2
/-- WHAT MAY BE IS TAKEN AS IT -/
theorem take_pr {l : Str} {fs : Flds} (h : Ok l fs) (hn : (pr l fs).length ≤ 512) (m : Str) : take (pr l fs ++ m) = (l, lowF fs, (pr l fs).length, 0) := by
  obtain ⟨nm, h2⟩ := fields_path (l := l) (fs := []) (nm := []) h.flds (by simpa using h.most)
  have h1 := (line_path h.line).app h2
  have h3 : step ⟨.begin, l, [] ++ lowF fs, nm, []⟩ 13 = .ok ⟨.last, l, [] ++ lowF fs, nm, []⟩ := by simp [step]
  have h4 := h1.app (Path.one h3 (by simp))
  have hl : (pr l fs).length = 0 + ((l ++ [13, 10]) ++ fs.flatMap prF ++ [13]).length + 1 := by simp [pr]; omega
  have e : pr l fs ++ m = ((l ++ [13, 10]) ++ fs.flatMap prF ++ [13]) ++ (10 :: m) := by simp [pr]
  rw [take, e, h4.go (by omega), hl]
  simp [go, step]

/-! ### what is taken -/
def sizeF (fs : Flds) : Nat := (fs.map fun p => p.1.length + p.2.length + 3).sum
def size (l : Str) (fs : Flds) : Nat := l.length + 2 + sizeF fs
theorem sizeF_add (fs : Flds) (p : Str × Str) : sizeF (fs ++ [p]) = sizeF fs + (p.1.length + p.2.length + 3) := by simp [sizeF]
theorem dropWhile_len {p : UInt8 → Bool} (s : Str) : (s.dropWhile p).length ≤ s.length := by
  induction s with
  | nil => simp
  | cons a r ih => rw [List.dropWhile_cons]; split <;> simp <;> omega
theorem trim_len (s : Str) : (trim s).length ≤ s.length := by
  unfold trim
  have h1 := dropWhile_len (p := blank) (s.dropWhile blank).reverse
  have h2 := dropWhile_len (p := blank) s
  simp at h1 ⊢
  omega
theorem dropWhile_mem {p : UInt8 → Bool} {s : Str} {x : UInt8} (h : x ∈ s.dropWhile p) : x ∈ s := (List.dropWhile_sublist p).mem h
theorem trim_mem {s : Str} {x : UInt8} (h : x ∈ trim s) : x ∈ s := by
  unfold trim at h
  have := dropWhile_mem (List.mem_reverse.1 h)
  exact dropWhile_mem (List.mem_reverse.1 this)
theorem dropWhile_head {p : UInt8 → Bool} {s : Str} {x : UInt8} {r : Str} (h : s.dropWhile p = x :: r) : p x = false := by
  have := List.head_dropWhile_not p (l := s) (by rw [h]; simp)
  simpa [h] using this
theorem dropWhile_id {p : UInt8 → Bool} {x : UInt8} {r : Str} (h : p x = false) : (x :: r).dropWhile p = x :: r := by rw [List.dropWhile_cons, h]; simp
/-- trimmed: neither end is a blank -/
theorem trim_iff (s : Str) : trim s = s ↔ (∀ x r, s = x :: r → blank x = false) ∧ ∀ x r, s.reverse = x :: r → blank x = false := by
  constructor
  · intro h
    constructor
    · intro x r hs
      cases hb : blank x with
      | false => rfl
      | true =>
        have h1 := trim_len r
        have h2 : trim s = trim r := by subst hs; simp [trim, hb]
        rw [h, hs] at h2
        have := congrArg List.length h2
        simp at this
        omega
    · intro x r hs
      unfold trim at h
      have h2 := congrArg List.reverse h
      rw [List.reverse_reverse, hs] at h2
      exact dropWhile_head h2
  · rintro ⟨h1, h2⟩
    have e1 : s.dropWhile blank = s := by
      cases s with
      | nil => rfl
      | cons x r => exact dropWhile_id (h1 x r rfl)
    unfold trim
    rw [e1]
    cases hr : s.reverse with
    | nil => simp at hr; simp [hr]
    | cons x r =>
      rw [dropWhile_id (h2 x r hr), ← hr, List.reverse_reverse]
theorem trim_trim (s : Str) : trim (trim s) = trim s := by
  rw [trim_iff]
  constructor
  · intro x r h
    unfold trim at h
    have h1 : (s.dropWhile blank) ≠ [] := by
      intro e
      rw [e] at h
      simp at h
    obtain ⟨y, q, hy⟩ := List.exists_cons_of_ne_nil h1
    have hb := dropWhile_head hy
    rw [hy] at h
    have h4 : ∀ (a : Str) (y : UInt8), blank y = false → ∃ b, (a ++ [y]).dropWhile blank = b ++ [y] := by
      intro a y hy
      induction a with
      | nil => exact ⟨[], by simp [hy]⟩
      | cons z a ih =>
        obtain ⟨b, hb⟩ := ih
        rw [List.cons_append, List.dropWhile_cons]
        split
        · exact ⟨b, hb⟩
        · exact ⟨z :: a, rfl⟩
    obtain ⟨b, hb2⟩ := h4 q.reverse y hb
    rw [List.reverse_cons, hb2, List.reverse_append] at h
    simp at h
    rw [← h.1]
    exact hb
  · intro x r h
    unfold trim at h
    rw [List.reverse_reverse] at h
    exact dropWhile_head h
/-- what stands when so many bytes have come -/
structure Inv (t : T) (i : Nat) : Prop where
  most : t.fs.length ≤ 16
  flds : ∀ p ∈ t.fs, okN p.1 ∧ low p.1 = p.1 ∧ okV p.2
  line : t.st = .first ∨ t.st = .within ∨ okL t.line
  nofs : t.st = .first ∨ t.st = .within → t.fs = []
  part : match t.st with
    | .first => t.part = []
    | .within => okL t.part
    | .half | .begin | .last | .over => t.part = []
    | .named => okN t.part ∧ low t.part = t.part ∧ t.fs.length < 16
    | .valued => okN t.name ∧ low t.name = t.name ∧ t.fs.length < 16 ∧ ∀ c ∈ t.part, vtab c = true
  size : match t.st with
    | .first => True
    | .within => t.part.length ≤ i
    | .half => size t.line t.fs ≤ i + 1
    | .begin => size t.line t.fs ≤ i
    | .named => size t.line t.fs + t.part.length ≤ i
    | .valued => size t.line t.fs + t.name.length + 1 + t.part.length ≤ i
    | .last => size t.line t.fs + 1 ≤ i
    | .over => size t.line t.fs + 2 ≤ i
theorem low_app (a b : Str) : low (a ++ b) = low a ++ low b := by simp [low]
theorem okN_push {s : Str} {c : UInt8} (h : s = [] ∨ okN s) (hc : sgn c = true) : okN (s ++ [lw c]) := by
  refine ⟨by simp, fun x hx => ?_⟩
  rcases List.mem_append.1 hx with h1 | h1
  · rcases h with rfl | h
    · simp at h1
    · exact h.2 x h1
  · rw [List.mem_singleton.1 h1, lw_sgn, hc]
theorem low_push {s : Str} {c : UInt8} (h : low s = s) : low (s ++ [lw c]) = s ++ [lw c] := by
  rw [low_app, h]; simp [low, lw_lw]
theorem inv_step {t t' : T} {i : Nat} {c : UInt8} (h : Inv t i) (hs : step t c = .ok t') : Inv t' (i + 1) := by
  obtain ⟨st, line, fs, name, part⟩ := t
  obtain ⟨h1, h2, h3, h4, h5, h6⟩ := h
  cases st <;> simp only [step] at hs <;> simp at h3 h4 h5 h6 <;> simp only at h1 h2
  · split at hs
    · rename_i hc
      cases hs
      subst h5
      have := h4
      subst this
      exact ⟨by simp, by simp, .inr (.inl rfl), fun _ => rfl, ⟨by simp, by simpa using hc⟩, by simp⟩
    · cases hs
  · split at hs
    · rename_i hc
      cases hs
      have := h4
      subst this
      refine ⟨by simp, by simp, .inr (.inl rfl), fun _ => rfl, ⟨by simp, fun x hx => ?_⟩, by simp; omega⟩
      rcases List.mem_append.1 hx with h | h
      · exact h5.2 x h
      · rw [List.mem_singleton.1 h]; exact hc
    · split at hs
      · cases hs
        have := h4
        subst this
        exact ⟨by simp, by simp, .inr (.inr h5), by simp, rfl, by simp [size, sizeF]; omega⟩
      · cases hs
  · split at hs
    · cases hs
      exact ⟨h1, h2, .inr (.inr h3), by simp, h5, h6⟩
    · cases hs
  · split at hs
    · cases hs
      exact ⟨h1, h2, .inr (.inr h3), by simp, h5, by simp; omega⟩
    · split at hs
      · rename_i hc
        split at hs
        · cases hs
        · cases hs
          subst h5
          exact ⟨h1, h2, .inr (.inr h3), by simp, ⟨okN_push (.inl rfl) hc, low_push rfl, by simp; omega⟩, by simp; omega⟩
      · cases hs
  · split at hs
    · rename_i hc
      cases hs
      exact ⟨h1, h2, .inr (.inr h3), by simp, ⟨okN_push (.inr h5.1) hc, low_push h5.2.1, h5.2.2⟩, by simp; omega⟩
    · split at hs
      · cases hs
        exact ⟨h1, h2, .inr (.inr h3), by simp, ⟨h5.1, h5.2.1, h5.2.2, by simp⟩, by simp; omega⟩
      · cases hs
  · split at hs
    · rename_i hc
      cases hs
      refine ⟨h1, h2, .inr (.inr h3), by simp, ⟨h5.1, h5.2.1, h5.2.2.1, fun x hx => ?_⟩, by simp; omega⟩
      rcases List.mem_append.1 hx with h | h
      · exact h5.2.2.2 x h
      · rw [List.mem_singleton.1 h]; exact hc
    · split at hs
      · cases hs
        have hl := trim_len part
        refine ⟨by simp; omega, fun p hp => ?_, .inr (.inr h3), by simp, rfl, ?_⟩
        · rcases List.mem_append.1 hp with h | h
          · exact h2 p h
          · rw [List.mem_singleton.1 h]
            exact ⟨h5.1, h5.2.1, trim_trim _, fun x hx => h5.2.2.2 x (trim_mem hx)⟩
        · simp only [size, sizeF_add] at h6 ⊢
          omega
      · cases hs
  · split at hs
    · cases hs
      exact ⟨h1, h2, .inr (.inr h3), by simp, h5, by simp; omega⟩
    · cases hs
  · cases hs
theorem go_inv {t : T} {i : Nat} {b : Str} (h : Inv t i) {l : Str} {fs : Flds} {n : Nat} (hg : go t i b = (l, fs, n, 0)) : Ok l fs ∧ lowF fs = fs ∧ size l fs + 2 ≤ n := by
  induction b generalizing t i with
  | nil => simp [go] at hg
  | cons c r ih =>
    simp only [go] at hg
    cases hs : step t c with
    | error e =>
      rw [hs] at hg
      rcases step_err hs with rfl | rfl <;> simp at hg
    | ok t' =>
      rw [hs] at hg
      have h' := inv_step h hs
      simp only at hg
      split at hg
      · rename_i ho
        simp only [Prod.mk.injEq] at hg
        obtain ⟨rfl, rfl, rfl, _⟩ := hg
        have h3 := h'.line
        have h6 := h'.size
        rw [ho] at h3 h6
        refine ⟨⟨by simpa using h3, h'.most, fun p hp => ⟨(h'.flds p hp).1, (h'.flds p hp).2.2⟩⟩, ?_, h6⟩
        unfold lowF
        conv => rhs; rw [← List.map_id t'.fs]
        refine List.map_congr_left fun p hp => ?_
        rw [(h'.flds p hp).2.1]
        rfl
      · split at hg
        · simp at hg
        · exact ih h' hg
theorem inv_start : Inv start 0 := ⟨by simp [start], by simp [start], .inl rfl, fun _ => rfl, rfl, trivial⟩
theorem take_inv {b l : Str} {fs : Flds} {n : Nat} (h : take b = (l, fs, n, 0)) : Ok l fs ∧ lowF fs = fs ∧ size l fs + 2 ≤ n := go_inv inv_start h
theorem prF_len (p : Str × Str) : (prF p).length ≤ p.1.length + p.2.length + 4 := by
  unfold prF
  split <;> simp <;> omega
theorem pr_len (l : Str) (fs : Flds) : (pr l fs).length ≤ size l fs + 2 + fs.length := by
  have : (fs.flatMap prF).length ≤ sizeF fs + fs.length := by
    induction fs with
    | nil => simp
    | cons p r ih =>
      have := prF_len p
      rw [List.flatMap_cons, List.length_append, List.length_cons]
      have : sizeF (p :: r) = (p.1.length + p.2.length + 3) + sizeF r := by simp [sizeF]
      omega
  simp only [pr, size, List.length_append, List.length_cons, List.length_nil]
  omega

/-! ### Print -/
def prints (l : Str) (fs : Flds) : Prop := take (pr l fs) = (l, lowF fs, (pr l fs).length, 0)
theorem prints_iff (l : Str) (fs : Flds) : prints l fs ↔ Ok l fs ∧ (pr l fs).length ≤ 512 := by
  constructor
  · intro h
    have h1 := take_inv h
    have hm : (pr l fs).length ≤ 512 := by
      rcases go_kinds start 0 (pr l fs) with ⟨_, _, _, a⟩ | ⟨a, _⟩ | a | a
      · have := a (by omega)
        rw [show go start 0 (pr l fs) = _ from h] at this
        exact this
      all_goals
        rw [show go start 0 (pr l fs) = _ from h] at a
        simp at a
    refine ⟨⟨h1.1.line, by simpa [lowF] using h1.1.most, fun p hp => ?_⟩, hm⟩
    have h2 := h1.1.flds (low p.1, p.2) (List.mem_map.2 ⟨p, hp, rfl⟩)
    refine ⟨⟨fun e => h2.1.1 (by simp [e, low]), fun c hc => ?_⟩, h2.2⟩
    rw [← lw_sgn]
    exact h2.1.2 (lw c) (by simp [low]; exact ⟨c, hc, rfl⟩)
  · rintro ⟨h, hn⟩
    have := take_pr h hn []
    rwa [List.append_nil] at this
end Go.Proofs.YtghdaengkgiekaaGreatDoor.hd

/-
  Given for the seat's laws: what is told ErrMore goes on to a head. Plain: nothing of the program. No condition.
-/
namespace Go.Proofs.YtghdaengkgiekaaGreatDoor.hd
set_option linter.unusedVariables false

theorem go_cut {t : T} {i : Nat} {s : Str} {j : Nat} (h : (go t i s).2.2.2 = 0) (hj : (go t i s).2.2.1 ≤ i + j) : go t i (s.take j) = go t i s := by
  induction s generalizing t i j with
  | nil => simp
  | cons c r ih =>
    have hk : i < (go t i (c :: r)).2.2.1 := by
      rcases go_kinds t i (c :: r) with ⟨_, a, _⟩ | ⟨a, _⟩ | a | a
      · exact a
      all_goals
        rw [a] at h
        simp at h
    cases j with
    | zero => omega
    | succ j =>
      rw [List.take_succ_cons]
      simp only [go] at h hj ⊢
      cases hs : step t c with
      | error e => rfl
      | ok t' =>
        simp only [hs] at h hj ⊢
        split
        · rfl
        · rename_i h1
          rw [if_neg h1] at h hj
          split
          · rfl
          · rename_i h2
            rw [if_neg h2] at h hj
            exact ih h (by omega)
/-- a head that begins with what isn't one yet is longer -/
theorem take_longer {b m : Str} (hb : take b = ([], [], 0, 5)) (h : (take (b ++ m)).2.2.2 = 0) : b.length < (take (b ++ m)).2.2.1 := by
  rcases Nat.lt_or_ge b.length (take (b ++ m)).2.2.1 with h1 | h1
  · exact h1
  · have := go_cut (t := start) (i := 0) (s := b ++ m) (j := b.length) h (by rw [Nat.zero_add]; exact h1)
    rw [List.take_left'] at this
    · rw [show go start 0 b = _ from hb] at this
      rw [show take (b ++ m) = go start 0 (b ++ m) from rfl, ← this] at h
      simp at h
    · rfl
theorem take_n_le (b : Str) : (take b).2.2.1 ≤ b.length := by
  rcases go_kinds start 0 b with ⟨_, _, a, _⟩ | ⟨a, _⟩ | a | a
  · have : (go start 0 b).2.2.1 ≤ b.length := by omega
    exact this
  all_goals
    rw [show take b = _ from a]
    exact Nat.zero_le _
theorem more_path {t : T} {i : Nat} {b : Str} (h : go t i b = ([], [], 0, 5)) : ∃ t', Path t b t' := by
  induction b generalizing t i with
  | nil => exact ⟨t, .nil t⟩
  | cons c r ih =>
    simp only [go] at h
    cases hs : step t c with
    | error e =>
      rw [hs] at h
      rcases step_err hs with rfl | rfl <;> simp at h
    | ok t' =>
      rw [hs] at h
      simp only at h
      split at h
      · simp at h
      · rename_i h1
        split at h
        · simp at h
        · obtain ⟨t2, hp⟩ := ih h
          exact ⟨t2, .cons hs h1 hp⟩
theorem path_st {t t' : T} {b : Str} (h : Path t b t') (ho : t.st ≠ .over) : t'.st ≠ .over := by
  induction h with
  | nil => exact ho
  | cons _ h1 _ ih => exact ih h1
def ends : List Str := [[13, 10, 13, 10], [10, 13, 10], [10], [13, 10], [65, 13, 10, 13, 10], [58, 13, 10, 13, 10], [65, 58, 13, 10, 13, 10]]
theorem more_ends {b : Str} (h : take b = ([], [], 0, 5)) (hb : b.length ≤ 500) : ∃ (j : Nat) (s : Str), ends[j]? = some s ∧ (take (b ++ s)).2.2.2 = 0 := by
  obtain ⟨t, hp⟩ := more_path h
  have ho := path_st hp (by decide)
  have hgo : ∀ s, take (b ++ s) = go t b.length s := fun s => by
    rw [show take (b ++ s) = go start 0 (b ++ s) from rfl, hp.go (by omega)]
    rw [Nat.zero_add]
  obtain ⟨n, hn⟩ : ∃ n, b.length = n := ⟨_, rfl⟩
  rw [hn] at hgo hb
  have v13 : vis 13 = false := by decide
  have v10 : vis 10 = false := by decide
  have v65 : vis 65 = true := by decide
  have s58 : sgn 58 = false := by decide
  have t13 : vtab 13 = false := by decide
  have q : ∀ k, k < 12 → n + k ≠ 512 := fun k hk => by omega
  obtain ⟨st, line, fs, name, part⟩ := t
  cases st with
  | first => exact ⟨4, _, rfl, by rw [hgo]; simp [go, step, v13, v65, Nat.add_assoc, q]⟩
  | within => exact ⟨0, _, rfl, by rw [hgo]; simp [go, step, v13, Nat.add_assoc, q]⟩
  | half => exact ⟨1, _, rfl, by rw [hgo]; simp [go, step, Nat.add_assoc, q]⟩
  | begin => exact ⟨3, _, rfl, by rw [hgo]; simp [go, step, Nat.add_assoc, q]⟩
  | named => exact ⟨5, _, rfl, by rw [hgo]; simp [go, step, s58, t13, Nat.add_assoc, q]⟩
  | valued => exact ⟨0, _, rfl, by rw [hgo]; simp [go, step, t13, Nat.add_assoc, q]⟩
  | last => exact ⟨2, _, rfl, by rw [hgo]; simp [go, step]⟩
  | over => exact absurd rfl ho
end Go.Proofs.YtghdaengkgiekaaGreatDoor.hd
