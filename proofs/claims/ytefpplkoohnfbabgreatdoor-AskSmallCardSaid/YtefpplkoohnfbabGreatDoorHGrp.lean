/-
  Given for the seat's laws: arrays of eight groups; the contract of groupsOf. No condition but those of the theorems.
-/
import Derived.Test.YtefpplkoohnfbabGreatDoorHV4
import Derived.StillTail
import Derived.StillTactics
import Derived.StillTailTactics
import Derived.BigQuiet
namespace Go.Proofs.YtefpplkoohnfbabGreatDoor.hw
open Go.RowKit mem hostp
set_option linter.unusedVariables false

/-- eight groups, as a row of cells -/
def gc (g : List Nat) : Array Value := (g.map fun v : Nat => Value.int .u16 ((v : Nat) : Int)).toArray
def gv (g : List Nat) : Value := .agg (gc g)
theorem eight {α : Type} {g : List α} (h : g.length = 8) : ∃ a b c d e f i j, g = [a, b, c, d, e, f, i, j] := by
  match g, h with
  | [a, b, c, d, e, f, i, j], _ => exact ⟨a, b, c, d, e, f, i, j, rfl⟩
theorem gc_get {g : List Nat} {k : Nat} (h : k < g.length) : (gc g)[k]? = some (.int .u16 ((g.getD k 0 : Nat) : Int)) := by
  unfold gc
  rw [List.getElem?_toArray, List.getElem?_map, List.getD_eq_getElem?_getD, List.getElem?_eq_getElem h]
  rfl
theorem gc_size (g : List Nat) : (gc g).size = g.length := by unfold gc; simp
theorem gc_set {g : List Nat} {k v : Nat} : (gc g).setIfInBounds k (.int .u16 (v : Int)) = gc (g.set k v) := by
  unfold gc
  apply Array.toList_inj.1
  simp [List.map_set]
/-- the eight cells of such a row -/
theorem gc_cells {w : World} {b : Nat} {t : TypeId} {g : List Nat} (h : Lies w b t (gc g)) (h8 : g.length = 8) :
    ∃ a b' c d e f i j : Int, (gc g = #[.int .u16 a, .int .u16 b', .int .u16 c, .int .u16 d, .int .u16 e, .int .u16 f, .int .u16 i, .int .u16 j]) ∧
      w.cell? ⟨b, 0, none⟩ = some (.int .u16 a) ∧ w.cell? ⟨b, 1, none⟩ = some (.int .u16 b') ∧ w.cell? ⟨b, 2, none⟩ = some (.int .u16 c) ∧ w.cell? ⟨b, 3, none⟩ = some (.int .u16 d) ∧
      w.cell? ⟨b, 4, none⟩ = some (.int .u16 e) ∧ w.cell? ⟨b, 5, none⟩ = some (.int .u16 f) ∧ w.cell? ⟨b, 6, none⟩ = some (.int .u16 i) ∧ w.cell? ⟨b, 7, none⟩ = some (.int .u16 j) := by
  obtain ⟨a, b', c, d, e, f, i, j, rfl⟩ := eight h8
  exact ⟨a, b', c, d, e, f, i, j, rfl, h.cell 0, h.cell 1, h.cell 2, h.cell 3, h.cell 4, h.cell 5, h.cell 6, h.cell 7⟩

theorem un2_get : ∀ {t : Str} {k : Nat} {a b : UInt8}, t[2 * k]? = some a → t[2 * k + 1]? = some b → (un2 t)[k]? = some (256 * a.toNat + b.toNat)
  | x :: y :: r, 0, a, b, h1, h2 => by
    simp at h1 h2
    subst h1 h2
    rfl
  | x :: y :: r, k + 1, a, b, h1, h2 => by
    show (un2 r)[k]? = _
    exact un2_get (by simpa [Nat.mul_add] using h1) (by simpa [Nat.mul_add] using h2)
  | [], k, a, b, h1, h2 => by simp at h1
  | [x], 0, a, b, h1, h2 => by simp at h2
  | [x], k + 1, a, b, h1, h2 => by simp [Nat.mul_add] at h1

/-- the first k groups have been written, the others are 0 -/
def part8 (g : List Nat) (k : Nat) : List Nat := g.take k ++ List.replicate (8 - k) 0
theorem part8_len {g : List Nat} (h8 : g.length = 8) {k : Nat} (hk : k ≤ 8) : (part8 g k).length = 8 := by unfold part8; simp; omega
theorem part8_zero (g : List Nat) : gc (part8 g 0) = #[.int .u16 0, .int .u16 0, .int .u16 0, .int .u16 0, .int .u16 0, .int .u16 0, .int .u16 0, .int .u16 0] := by
  unfold part8
  simp [gc, List.replicate]
theorem part8_step {g : List Nat} (h8 : g.length = 8) {k : Nat} (hk : k < 8) : (part8 g k).set k (g.getD k 0) = part8 g (k + 1) := by
  unfold part8
  have h1 : (g.take k).length = k := by simp; omega
  have h2 : g.take (k + 1) = g.take k ++ [g[k]] := by rw [List.take_add_one, List.getElem?_eq_getElem (show k < g.length by omega)]; rfl
  rw [List.set_append_right _ _ (by omega), h1, Nat.sub_self, show 8 - k = (8 - (k + 1)) + 1 by omega, List.replicate_succ, List.set_cons_zero, h2, List.getD_eq_getElem?_getD, List.getElem?_eq_getElem (show k < g.length by omega), Option.getD_some, List.append_assoc]
  rfl
theorem part8_end {g : List Nat} (h8 : g.length = 8) : part8 g 8 = g := by
  unfold part8
  simp [List.take_of_length_le (show g.length ≤ 8 by omega)]

theorem or_bytes (a b : Nat) (ha : a < 256) (hb : b < 256) : Nat.lor (a * 256) b = 256 * a + b := by
  have h := Nat.two_pow_add_eq_or_of_lt (i := 8) (b := b) (by omega) a
  show a * 256 ||| b = _
  rw [show a * 256 = 2 ^ 8 * a by omega, ← h]

end Go.Proofs.YtefpplkoohnfbabGreatDoor.hw
