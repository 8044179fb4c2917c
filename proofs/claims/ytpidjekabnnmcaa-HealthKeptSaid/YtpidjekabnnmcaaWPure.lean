/-
  Given for the seat's laws: a window as a plain number, the outcomes that it keeps, and one outcome more. No program, no memory.
-/
import Derived.Test.YtpidjekabnnmcaaMem
namespace Go.Proofs.Ytpidjekabnnmcaa.wn
open Go
set_option linter.unusedVariables false
set_option linter.unusedSimpArgs false

abbrev Out := List Bool
def bad1 (g : Bool) : Nat := if g then 0 else 1
def may (x : Nat) : Bool := Nat.ble (x / 256) 8 && Nat.ble (x % 256 + 1) (2 ^ (x / 256))
def hk (x : Nat) : Nat := if may x then x / 256 else 0
def hb (x : Nat) : Nat := if may x then x % 256 else 0
/-- is the j-th of k outcomes good, the oldest first? -/
def bitg (k b j : Nat) : Bool := Nat.beq (b / 2 ^ (k - 1 - j) % 2) 0
def L (k b : Nat) : Out := (List.range k).map (bitg k b)
def lst (x : Nat) : Out := L (hk x) (hb x)
def val (l : Out) : Nat := l.foldl (fun n g => 2 * n + bad1 g) 0
def last8 (l : Out) : Out := l.drop (l.length - 8)
def num (l : Out) : Nat := val (last8 l) + 256 * (last8 l).length
def addw (x : Nat) (g : Bool) : Nat := 256 * min (hk x + 1) 8 + (2 * hb x + bad1 g) % 256
def adds (x : Nat) (l : Out) : Nat := l.foldl addw x
def bads : Out → Nat
  | [] => 0
  | g :: l => bad1 g + bads l

theorem may_iff {x : Nat} : may x = true ↔ x / 256 ≤ 8 ∧ x % 256 < 2 ^ (x / 256) := by
  unfold may
  rw [Bool.and_eq_true, Nat.ble_eq, Nat.ble_eq]
  exact ⟨fun h => ⟨h.1, h.2⟩, fun h => ⟨h.1, h.2⟩⟩
theorem L_len (k b : Nat) : (L k b).length = k := by simp [L]
theorem lst_len (x : Nat) : (lst x).length = hk x := L_len _ _
theorem L_get {k b j : Nat} (h : j < k) : (L k b)[j]? = some (bitg k b j) := by simp [L, List.getElem?_range h]
theorem hk_le (x : Nat) : hk x ≤ 8 := by
  unfold hk
  split
  · next h => exact (may_iff.1 h).1
  · omega
theorem hb_lt (x : Nat) : hb x < 2 ^ hk x := by
  unfold hb hk
  split
  · next h => exact (may_iff.1 h).2
  · exact Nat.two_pow_pos 0
theorem pow_le (k : Nat) (h : k ≤ 8) : 2 ^ k ≤ 256 := Nat.pow_le_pow_right (by omega) h
theorem hb_256 (x : Nat) : hb x < 256 := Nat.lt_of_lt_of_le (hb_lt x) (pow_le _ (hk_le x))
theorem hk_yes {x : Nat} (h : may x = true) : hk x = x / 256 := by unfold hk; rw [h]; rfl
theorem hb_yes {x : Nat} (h : may x = true) : hb x = x % 256 := by unfold hb; rw [h]; rfl
theorem hk_no {x : Nat} (h : may x = false) : hk x = 0 := by unfold hk; rw [h]; rfl
theorem hb_no {x : Nat} (h : may x = false) : hb x = 0 := by unfold hb; rw [h]; rfl

/-- all that is kept, one by one -/
def same : Out → Out → Bool
  | [], [] => true
  | a :: l, b :: m => (a == b) && same l m
  | _, _ => false
theorem same_eq : ∀ {a b : Out}, same a b = true → a = b
  | [], [], _ => rfl
  | a :: l, b :: m, h => by
    simp only [same, Bool.and_eq_true, beq_iff_eq] at h
    rw [h.1, same_eq h.2]
  | [], _ :: _, h => by cases h
  | _ :: _, [], h => by cases h
def chk (k b : Nat) : Bool := Nat.beq (val (L k b)) b && (same (lst (256 * k + b)) (L k b)) && may (256 * k + b) &&
  [true, false].all fun g => may (256 * min (k + 1) 8 + (2 * b + bad1 g) % 256) && same (lst (256 * min (k + 1) 8 + (2 * b + bad1 g) % 256)) (last8 (L k b ++ [g])) && Nat.beq (num (L k b ++ [g])) (256 * min (k + 1) 8 + (2 * b + bad1 g) % 256)
set_option maxRecDepth 100000 in
theorem chk_all : ((List.range 9).all fun k => (List.range (2 ^ k)).all fun b => chk k b) = true := by decide +kernel
theorem chk_at {k b : Nat} (hk : k ≤ 8) (hb : b < 2 ^ k) : chk k b = true := by
  have h := chk_all
  rw [List.all_eq_true] at h
  have h2 := h k (List.mem_range.2 (by omega))
  rw [List.all_eq_true] at h2
  exact h2 b (List.mem_range.2 hb)
theorem val_L {k b : Nat} (hk : k ≤ 8) (hb : b < 2 ^ k) : val (L k b) = b := by
  have h := chk_at hk hb
  simp only [chk, Bool.and_eq_true, Nat.beq_eq] at h
  exact h.1.1.1
theorem step_at {k b : Nat} (hk : k ≤ 8) (hb : b < 2 ^ k) (g : Bool) : may (256 * min (k + 1) 8 + (2 * b + bad1 g) % 256) = true ∧ lst (256 * min (k + 1) 8 + (2 * b + bad1 g) % 256) = last8 (L k b ++ [g]) ∧ num (L k b ++ [g]) = 256 * min (k + 1) 8 + (2 * b + bad1 g) % 256 := by
  have h := chk_at hk hb
  simp only [chk, Bool.and_eq_true, List.all_eq_true, Nat.beq_eq] at h
  obtain ⟨⟨h1, h2⟩, h3⟩ := h.2 g (by cases g <;> simp)
  exact ⟨h1, same_eq h2, h3⟩
theorem may_add (x : Nat) (g : Bool) : may (addw x g) = true := (step_at (hk_le x) (hb_lt x) g).1
theorem lst_add (x : Nat) (g : Bool) : lst (addw x g) = last8 (lst x ++ [g]) := (step_at (hk_le x) (hb_lt x) g).2.1
theorem num_add (x : Nat) (g : Bool) : num (lst x ++ [g]) = addw x g := (step_at (hk_le x) (hb_lt x) g).2.2
theorem addw_lt (x : Nat) (g : Bool) : addw x g < 65536 := by unfold addw; omega
theorem may_zero : may 0 = true := rfl
theorem lst_zero : lst 0 = [] := rfl

theorem last8_short {l : Out} (h : l.length ≤ 8) : last8 l = l := by unfold last8; rw [show l.length - 8 = 0 by omega]; rfl
theorem last8_len (l : Out) : (last8 l).length = min l.length 8 := by unfold last8; rw [List.length_drop]; omega
theorem last8_app (a b : Out) : last8 (last8 a ++ b) = last8 (a ++ b) := by
  unfold last8
  have e : (a.drop (a.length - 8) ++ b) = (a ++ b).drop (a.length - 8) := by rw [List.drop_append_of_le_length (by omega)]
  rw [e, List.drop_drop]
  congr 1
  simp only [List.length_drop, List.length_append]
  omega
theorem last8_long {a b : Out} (h : 8 ≤ b.length) : last8 (a ++ b) = last8 b := by
  unfold last8
  rw [List.length_append, show a.length + b.length - 8 = a.length + (b.length - 8) by omega, ← List.drop_drop, List.drop_left]
theorem last8_last8 (l : Out) : last8 (last8 l) = last8 l := last8_short (by rw [last8_len]; omega)
theorem lst_short (x : Nat) : last8 (lst x) = lst x := last8_short (by rw [lst_len]; exact hk_le x)
theorem lst_adds : ∀ (l : Out) (x : Nat), lst (adds x l) = last8 (lst x ++ l)
  | [], x => by rw [List.append_nil, lst_short]; rfl
  | g :: l, x => by
    show lst (adds (addw x g) l) = _
    rw [lst_adds l, lst_add, last8_app, List.append_assoc]
    rfl
theorem may_adds : ∀ (l : Out) (x : Nat), may x = true → may (adds x l) = true
  | [], x, h => h
  | g :: l, x, _ => may_adds l (addw x g) (may_add x g)
theorem may_adds' {l : Out} (x : Nat) (h : 0 < l.length) : may (adds x l) = true := by
  cases l with
  | nil => simp at h
  | cons g l => exact may_adds l (addw x g) (may_add x g)
theorem adds_lt : ∀ (l : Out) (x : Nat), x < 65536 → adds x l < 65536
  | [], x, h => h
  | g :: l, x, _ => adds_lt l (addw x g) (addw_lt x g)
theorem adds_snoc (x : Nat) (l : Out) (g : Bool) : adds x (l ++ [g]) = addw (adds x l) g := by simp [adds]
theorem of_lst {x : Nat} (h : may x = true) : 256 * (lst x).length + val (lst x) = x := by
  rw [lst_len]
  show 256 * hk x + val (L (hk x) (hb x)) = x
  rw [val_L (hk_le x) (hb_lt x), hk_yes h, hb_yes h]
  omega
theorem lst_inj {x y : Nat} (hx : may x = true) (hy : may y = true) (h : lst x = lst y) : x = y := by
  rw [← of_lst hx, ← of_lst hy, h]
theorem adds_own {x : Nat} (h : may x = true) : adds 0 (lst x) = x := by
  refine lst_inj (may_adds _ _ may_zero) h ?_
  rw [lst_adds, lst_zero, List.nil_append, lst_short]
theorem adds_long (x y : Nat) {l : Out} (h : 8 ≤ l.length) : adds x l = adds y l := by
  refine lst_inj (may_adds' _ (by omega)) (may_adds' _ (by omega)) ?_
  rw [lst_adds, lst_adds, last8_long h, last8_long h]
theorem lst_last (l : Out) : lst (adds 0 l) = last8 l := by rw [lst_adds, lst_zero, List.nil_append]
theorem bads_app (a b : Out) : bads (a ++ b) = bads a + bads b := by
  induction a with
  | nil => simp [bads]
  | cons x a ih => simp only [List.cons_append, bads, ih]; omega
theorem bads_le (l : Out) : bads l ≤ l.length := by
  induction l with
  | nil => simp [bads]
  | cons x l ih => simp only [bads, bad1, List.length_cons]; split <;> omega
theorem bads_take {l : Out} {i : Nat} {g : Bool} (h : l[i]? = some g) : bads (l.take (i + 1)) = bads (l.take i) + bad1 g := by
  rw [List.take_add_one, h, bads_app]
  rfl
theorem val_snoc (l : Out) (g : Bool) : val (l ++ [g]) = 2 * val l + bad1 g := by simp [val]
theorem val_take {l : Out} {i : Nat} {g : Bool} (h : l[i]? = some g) : val (l.take (i + 1)) = 2 * val (l.take i) + bad1 g := by
  rw [List.take_add_one, h]
  exact val_snoc _ _
theorem val_lt : ∀ (n : Nat) (l : Out), l.length = n → val l < 2 ^ n
  | 0, l, h => by rw [List.eq_nil_of_length_eq_zero h]; exact Nat.two_pow_pos 0
  | n + 1, l, h => by
    have hne : l ≠ [] := by intro e; rw [e] at h; cases h
    rw [← List.dropLast_concat_getLast hne, val_snoc]
    have := val_lt n l.dropLast (by simp [h])
    rw [Nat.pow_succ]
    unfold bad1
    split <;> omega
theorem take_get {l : Out} {i : Nat} {g : Bool} (h : l[i]? = some g) : l.take (i + 1) = l.take i ++ [g] := by rw [List.take_add_one, h]; rfl
end Go.Proofs.Ytpidjekabnnmcaa.wn
