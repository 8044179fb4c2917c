/-
  Given for the seat's laws: what the listed tables and variables hold, what a call gives that turns nothing of what was there, and texts as lists of bytes. No condition.
-/
import Derived.Test.YtefpplkoohnfbaaDoorMem
import Derived.Test.YtefpplkoohnfbaaDoorShelf
import Derived.Test.YtefpplkoohnfbaaDoorHostPure6
import Derived.WalkKit
import Derived.WalkSpells
import Derived.WalkLawsBesides
import Derived.IntWalk
import Derived.Outline
import Derived.WalkMore
import Derived.Below
import Derived.Sort.Grow
import Derived.Lib.LaidTab
import Derived.Laws.IdiomStrings
import Derived.Deep.CutBlock
import Derived.Deep.DeepCutAuto
import Derived.Deep.LoopGhost
import Derived.Deep.RegionHeld3
import Derived.Lib.Hide
namespace Go.Proofs.YtefpplkoohnfbaaDoor.hw
open Go.RowKit mem hostp
set_option linter.unusedVariables false

/-- e gives v, and nothing that was there has turned -/
def Gives (v : Value) (w : World) (e : Ending) (w' : World) : Prop := e = .returned v ∧ Below w.heap.size w w'
theorem gives_refl {v : Value} {w : World} : Gives v w (.returned v) w := ⟨rfl, Below.refl _ _⟩

theorem below_grow (w : World) (os : Array Obj) : Below w.heap.size w (Sort.grow w os) :=
  ⟨rfl, rfl, rfl, by simp [Sort.grow], fun k hk => by simp [Sort.grow, Array.getElem?_append, hk]⟩

theorem cell_lt {w : World} {p : Addr} {v : Value} (h : w.cell? p = some v) : p.block < w.heap.size := World.block_lt_of_cell? _ _ h
theorem cell_kept {w w' : World} {p : Addr} {v : Value} (h : w.cell? p = some v) (hb : Below w.heap.size w w') : w'.cell? p = some v := (hb.cell (cell_lt h)).trans h

/-- bytes as a string -/
def S (l : Str) : ByteArray := ⟨l.toArray⟩
@[simp] theorem S_list (l : Str) : (S l).data.toList = l := by unfold S; simp
theorem S_data (s : ByteArray) : S s.data.toList = s := by unfold S; simp
theorem S_size (l : Str) : (S l).size = l.length := by show (S l).data.size = _; unfold S; simp
theorem S_inj {a b : Str} (h : S a = S b) : a = b := by rw [← S_list a, h, S_list]
theorem S_eq_iff {a b : Str} : S a = S b ↔ a = b := ⟨S_inj, fun h => by rw [h]⟩
theorem S_append (a b : Str) : S a ++ S b = S (a ++ b) := by
  apply ByteArray.ext
  apply Array.toList_inj.1
  simp [S]
theorem list_len (s : ByteArray) : s.data.toList.length = s.size := by simp
theorem byte_at {s : ByteArray} {k : Nat} (h : k < s.size) : s.data.toList[k]? = some s[k] := by
  rw [Array.getElem?_toList, Array.getElem?_eq_getElem (show k < s.data.size from h)]
  rfl
theorem list_nil {s : ByteArray} : s.data.toList = [] ↔ s.size = 0 := by
  rw [← List.length_eq_zero_iff, list_len]
theorem empty_iff (s : ByteArray) : s.toList.isEmpty = decide (s.data.toList = []) := by
  rw [Lib.toList_data]
  cases s.data.toList <;> simp

end Go.Proofs.YtefpplkoohnfbaaDoor.hw
