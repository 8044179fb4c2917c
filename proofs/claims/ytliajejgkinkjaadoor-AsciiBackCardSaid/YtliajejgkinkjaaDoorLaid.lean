/-
  Given for the seat's laws: a world in which the three listed tables lie as the rows list them, and what the rows' condition gives a walk. No condition.
-/
import Derived.Test.YtliajejgkinkjaaDoorRows
import Derived.Test.YtliajejgkinkjaaDoorNumber
import Derived.Deep.DeepHandedRow
import Derived.Lib.LaidTab
import Derived.Stop.LaidErr
import Derived.ProofKit
import Derived.OpenShut
namespace Go.Proofs.YtliajejgkinkjaaDoor.laid
open Go.ChangeShapes Go.WideShapes Go.ChangeAt Go.RowKit number
set_option linter.unusedVariables false

theorem own : ownKnob Tryd.prog.godebug = none := by kernel_rfl
theorem laidOut : laidOutB Tryd.prog = true := by kernel_rfl

/-- the cells of a listed table -/
def cellsOf : DataW Unit → Array Value
  | .agg l => (l.map fun | .lit (.int k z) => Value.int k z | _ => Value.int .u8 0).toArray
  | _ => #[]
def put (d : DataW Unit) : Obj → Obj
  | .cells _ t frozen => .cells (cellsOf d) t frozen
  | o => o

/-- the settled world, the three tables laid -/
noncomputable def laidWorld (os : Os) : World :=
  { World.holding Tryd.prog os ⟨#[], #[], []⟩ with heap := (((World.holding Tryd.prog os ⟨#[], #[], []⟩).heap.modify 1 (put Rows.laid_internal_strconv_uint64pow10)).modify 2 (put Rows.laid_math_bits_deBruijn32tab)).modify 3 (put Rows.laid_math_bits_deBruijn64tab) }

theorem laid_met (os : Os) (args : Array Value) : laidMet Tryd.prog Rows.asciiNumbersRow.laid ((laidWorld os).forCall (fun _ _ => 0) ⟨#[], args, []⟩).memory :=
  laidMet_of_run' 8 (by kernel_rfl) (by kernel_rfl)

theorem g_tab : Tryd.prog.globalNamed "internal/strconv.uint64pow10" = some 1 := by kernel_rfl
theorem g_type : (Tryd.prog.globals[1]?).map (·.type) = some 61 := by kernel_rfl
theorem cells_e : Tryd.prog.cellsOf 51 = 1 := by kernel_rfl
theorem cells_t : Tryd.prog.cellsOf 61 = 20 := by kernel_rfl
theorem datum : (Rows.laid_internal_strconv_uint64pow10 : DataW Unit) = Lib.tabData .u64 Lib.pow10Tab := by kernel_rfl

/-- the table, off the rows' condition -/
theorem tab_of {W : World} (h : laidMet Tryd.prog Rows.asciiNumbersRow.laid W) : Tab W := by
  have h3 : laidMet Tryd.prog [("internal/strconv.uint64pow10", Rows.laid_internal_strconv_uint64pow10)] W := h.tail.tail
  rw [datum] at h3
  exact Lib.tabIs_of_head g_tab g_type Tryd.underlying61 Tryd.underlying51 cells_e cells_t h3

end Go.Proofs.YtliajejgkinkjaaDoor.laid
