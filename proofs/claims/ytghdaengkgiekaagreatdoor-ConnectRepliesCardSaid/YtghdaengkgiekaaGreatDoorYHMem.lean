/-
  Given for the seat's laws: what the listed tables and variables hold, what a call gives that turns nothing of what was there, and texts as lists of bytes. No condition.
-/
import Derived.Test.YtghdaengkgiekaaGreatDoorYMem
import Derived.Test.YtghdaengkgiekaaGreatDoorYShelf
import Derived.Test.YtghdaengkgiekaaGreatDoorYHostPure
import Derived.WalkKit
import Derived.WalkSpells
import Derived.WalkLawsBesides
import Derived.IntWalk
import Derived.Outline
import Derived.WalkMore
import Derived.Below
import Derived.Sort.Grow
import Derived.Lib.LaidTab
import Derived.Laws.IdiomStrings
import Derived.Deep.CutBlock
import Derived.Deep.DeepCutAuto
import Derived.Deep.LoopGhost
import Derived.Deep.RegionHeld3
import Derived.Lib.Hide
namespace Go.Proofs.YtghdaengkgiekaaGreatDoor.hw
open Go.RowKit mem hostp
set_option linter.unusedVariables false

/-- e gives v, and nothing that was there has turned -/
def Gives (v : Value) (w : World) (e : Ending) (w' : World) : Prop := e = .returned v ∧ Below w.heap.size w w'
theorem gives_refl {v : Value} {w : World} : Gives v w (.returned v) w := ⟨rfl, Below.refl _ _⟩

theorem below_grow (w : World) (os : Array Obj) : Below w.heap.size w (Sort.grow w os) :=
  ⟨rfl, rfl, rfl, by simp [Sort.grow], fun k hk => by simp [Sort.grow, Array.getElem?_append, hk]⟩

theorem cell_lt {w : World} {p : Addr} {v : Value} (h : w.cell? p = some v) : p.block < w.heap.size := World.block_lt_of_cell? _ _ h
theorem cell_kept {w w' : World} {p : Addr} {v : Value} (h : w.cell? p = some v) (hb : Below w.heap.size w w') : w'.cell? p = some v := (hb.cell (cell_lt h)).trans h

/-- bytes as a string -/
def S (l : Str) : ByteArray := ⟨l.toArray⟩
@[simp] theorem S_list (l : Str) : (S l).data.toList = l := by unfold S; simp
theorem S_data (s : ByteArray) : S s.data.toList = s := by unfold S; simp
theorem S_size (l : Str) : (S l).size = l.length := by show (S l).data.size = _; unfold S; simp
theorem S_inj {a b : Str} (h : S a = S b) : a = b := by rw [← S_list a, h, S_list]
theorem S_eq_iff {a b : Str} : S a = S b ↔ a = b := ⟨S_inj, fun h => by rw [h]⟩
theorem S_append (a b : Str) : S a ++ S b = S (a ++ b) := by
  apply ByteArray.ext
  apply Array.toList_inj.1
  simp [S]
theorem list_len (s : ByteArray) : s.data.toList.length = s.size := by simp
theorem byte_at {s : ByteArray} {k : Nat} (h : k < s.size) : s.data.toList[k]? = some s[k] := by
  rw [Array.getElem?_toList, Array.getElem?_eq_getElem (show k < s.data.size from h)]
  rfl
theorem list_nil {s : ByteArray} : s.data.toList = [] ↔ s.size = 0 := by
  rw [← List.length_eq_zero_iff, list_len]
theorem empty_iff (s : ByteArray) : s.toList.isEmpty = decide (s.data.toList = []) := by
  rw [Lib.toList_data]
  cases s.data.toList <;> simp

/-- the table of powers of ten lies as it is laid -/
abbrev Tab (w : World) : Prop := Lib.TabIs Tryz.prog w "internal/strconv.uint64pow10" .u64 Lib.pow10Tab
theorem tab_g : Tryz.prog.globalNamed "internal/strconv.uint64pow10" = some 2 := by kernel_rfl

theorem tab_lt {w : World} (h : Tab w) : 2 < w.heap.size := by
  unfold Tab Lib.TabIs World.var? at h
  rw [tab_g] at h
  simp only [Option.bind_some] at h
  cases hg : w.heap[2]? with
  | none => rw [hg] at h; cases h
  | some o => exact (Array.getElem?_eq_some_iff.1 hg).1
theorem tab_below {w w' : World} (h : Tab w) (hb : Below w.heap.size w w') : Tab w' := by
  have hlt := tab_lt h
  unfold Tab Lib.TabIs World.var? at h ⊢
  rw [tab_g] at h ⊢
  simp only [Option.bind_some] at h ⊢
  rw [hb.block _ hlt]
  exact h

/-- what an interface's variable holds: nothing, or something -/
def Boxed (ev : Value) : Prop := ev = .nilIface ∨ ∃ te pe, ev = .iface te pe

/-- the library's table of places -/
abbrev D64 (w : World) : Prop := w.cell? ⟨4, 15, none⟩ = some (.int .u8 4)

/-- what the walks ask of memory -/
structure Env (w : World) : Prop where
  tab : Tab w
  d64 : D64 w
  maxlen : ∃ m : Int, w.cell? ⟨1, 0, none⟩ = some (.int .i64 m)
  syn : ∃ ev, w.cell? ⟨7, 0, none⟩ = some ev ∧ Boxed ev
  ran : ∃ ev, w.cell? ⟨8, 0, none⟩ = some ev ∧ Boxed ev

theorem Env.below {w w' : World} (h : Env w) (hb : Below w.heap.size w w') : Env w' where
  tab := tab_below h.tab hb
  d64 := cell_kept h.d64 hb
  maxlen := by obtain ⟨m, h⟩ := h.maxlen; exact ⟨m, cell_kept h hb⟩
  syn := by obtain ⟨m, h, h2⟩ := h.syn; exact ⟨m, cell_kept h hb, h2⟩
  ran := by obtain ⟨m, h, h2⟩ := h.ran; exact ⟨m, cell_kept h hb, h2⟩
theorem Env.alloc {w : World} (h : Env w) (o : Obj) : Env (w.alloc o) := h.below ((Below.refl _ w).alloc (Nat.le_refl _) o)
theorem Env.drew {w : World} (h : Env w) : Env w.drew := h.below (Below.refl _ w).drew
theorem Env.upto {w w' : World} {B : Nat} (h : Env w) (hb : Below B w w') (hB : w.heap.size ≤ B) : Env w' := h.below (hb.mono hB)

end Go.Proofs.YtghdaengkgiekaaGreatDoor.hw
