/-
  Given for the seat's laws: a world in which the listed variables lie as the rows list them, what the rows' conditions give a walk, . No condition but those of the theorems.
-/
import Derived.Test.YtghdaengkgiekaaGreatDoorRows
import Derived.Test.YtghdaengkgiekaaGreatDoorYCTake
import Derived.Lib.SmallJoins
import Derived.ChangeSame
import Derived.Deep.DeepHandedRow
import Derived.Lib.LaidTab
import Derived.Lay
import Derived.Stop.LaidErr
import Derived.ProofKit
import Derived.OpenShut
import Derived.Shelf.Vars
namespace Go.Proofs.YtghdaengkgiekaaGreatDoor.laid
open Go.ChangeShapes Go.WideShapes Go.ChangeAt Go.RowKit Go.Joins hw
set_option linter.unusedVariables false
set_option maxRecDepth 100000

theorem own : ownKnob Tryz.prog.godebug = none := by kernel_rfl
theorem laidOut : laidOutB Tryz.prog = true := by kernel_rfl

/-- what the rows list -/
abbrev six (rest : List (String × DataW Unit)) : List (String × DataW Unit) :=
  ("math/bits.deBruijn32tab", Rows.laid_math_bits_deBruijn32tab) :: ("math/bits.deBruijn64tab", Rows.laid_math_bits_deBruijn64tab) :: ("internal/strconv.uint64pow10", Rows.laid_internal_strconv_uint64pow10) :: ("unicode/utf8.acceptRanges", Rows.laid_unicode_utf8_acceptRanges) :: ("strconv.ErrRange", Rows.laid_strconv_ErrRange) :: ("strconv.ErrSyntax", Rows.laid_strconv_ErrSyntax) :: rest
noncomputable abbrev listed : List (String × DataW Unit) := six [("postilion/connect.reasons", Rows.laid_postilion_connect_reasons), ("unicode/utf8.first", Rows.laid_unicode_utf8_first)]
noncomputable abbrev listedT : List (String × DataW Unit) := six [("unicode/utf8.first", Rows.laid_unicode_utf8_first)]

/-- the settled world, all of them laid -/
noncomputable def laidWorld (os : Os) : World := World.laidAll Tryz.prog os listed
theorem laid_met (os : Os) (args : Array Value) : laidMet Tryz.prog listed ((laidWorld os).forCall (fun _ _ => 0) ⟨#[], args, []⟩).memory :=
  laidMet_laidAll args (by kernel_rfl) (by kernel_rfl)
noncomputable def laidWorldT (os : Os) : World := World.laidAll Tryz.prog os listedT
theorem laid_metT (os : Os) (args : Array Value) : laidMet Tryz.prog listedT ((laidWorldT os).forCall (fun _ _ => 0) ⟨#[], args, []⟩).memory :=
  laidMet_laidAll args (by kernel_rfl) (by kernel_rfl)

theorem g_tab : Tryz.prog.globalNamed "internal/strconv.uint64pow10" = some 2 := by kernel_rfl
theorem g_type : (Tryz.prog.globals[2]?).map (·.type) = some 155 := by kernel_rfl
theorem cells_e : Tryz.prog.cellsOf 138 = 1 := by kernel_rfl
theorem cells_t : Tryz.prog.cellsOf 155 = 20 := by kernel_rfl
theorem datum : (Rows.laid_internal_strconv_uint64pow10 : DataW Unit) = Lib.tabData .u64 Lib.pow10Tab := by kernel_rfl
def d64Tab : List Int := [0, 1, 56, 2, 57, 49, 28, 3, 61, 58, 42, 50, 38, 29, 17, 4, 62, 47, 59, 36, 45, 43, 51, 22, 53, 39, 33, 30, 24, 18, 12, 5, 63, 55, 48, 27, 60, 41, 37, 16, 46, 35, 44, 21, 52, 32, 23, 11, 54, 26, 40, 15, 34, 20, 31, 10, 25, 14, 19, 9, 13, 8, 7, 6]
theorem g_d64 : Tryz.prog.globalNamed "math/bits.deBruijn64tab" = some 4 := by kernel_rfl
theorem g_type64 : (Tryz.prog.globals[4]?).map (·.type) = some 183 := by kernel_rfl
theorem cells_e8 : Tryz.prog.cellsOf 5 = 1 := by kernel_rfl
theorem cells_t64 : Tryz.prog.cellsOf 183 = 64 := by kernel_rfl
theorem datum64 : (Rows.laid_math_bits_deBruijn64tab : DataW Unit) = Lib.tabData .u8 d64Tab := by kernel_rfl
section
variable {W : World} {rest : List (String × DataW Unit)}
/-- the tables, off the rows' conditions -/
theorem tab_of (h : laidMet Tryz.prog (six rest) W) : Tab W := by
  have h4 : ∃ rest, laidMet Tryz.prog (("internal/strconv.uint64pow10", Rows.laid_internal_strconv_uint64pow10) :: rest) W := ⟨_, h.tail.tail⟩
  obtain ⟨rest, h5⟩ := h4
  rw [datum] at h5
  exact Lib.tabIs_of_head g_tab g_type Tryz.underlying155 Tryz.underlying138 cells_e cells_t h5
theorem d64_of (h : laidMet Tryz.prog (six rest) W) : D64 W := by
  have h4 : ∃ rest, laidMet Tryz.prog (("math/bits.deBruijn64tab", Rows.laid_math_bits_deBruijn64tab) :: rest) W := ⟨_, h.tail⟩
  obtain ⟨rest, h5⟩ := h4
  rw [datum64] at h5
  have := (Lib.tabIs_of_head g_d64 g_type64 Tryz.underlying183 Tryz.underlying5 cells_e8 cells_t64 h5).cell g_d64 15 (by decide)
  exact this
theorem star : "*" ++ "errors.errorString" = "*errors.errorString" := by decide
theorem row_err (u : TypeId) (h : Tryz.prog.typeName? 3 u = some "*errors.errorString") : u = 203 :=
  typeName_ptr_named (nm := "errors.errorString") (by rw [star]; kernel_rfl) (by kernel_rfl) (by decide) u (by rw [star]; exact h)
theorem g_ran : Tryz.prog.globalNamed "strconv.ErrRange" = some 8 := by kernel_rfl
theorem g_ran_t : (Tryz.prog.globals[8]?).map (·.type) = some 100 := by kernel_rfl
theorem g_syn : Tryz.prog.globalNamed "strconv.ErrSyntax" = some 7 := by kernel_rfl
theorem g_syn_t : (Tryz.prog.globals[7]?).map (·.type) = some 100 := by kernel_rfl
theorem cells_es : Tryz.prog.cellsOf 205 = 1 := by kernel_rfl
theorem cells_s : Tryz.prog.cellsOf 9 = 1 := by kernel_rfl
theorem ran_of (h : laidMet Tryz.prog (six rest) W) : ∃ ev, W.cell? ⟨8, 0, none⟩ = some ev ∧ hw.Boxed ev := by
  have h4 : ∃ rest, laidMet Tryz.prog (("strconv.ErrRange", Rows.laid_strconv_ErrRange) :: rest) W := ⟨_, h.tail.tail.tail.tail⟩
  obtain ⟨rest, h5⟩ := h4
  obtain ⟨a0, s0, hv, _⟩ := laid_sentinel h5 g_ran g_ran_t Tryz.underlying100 row_err Tryz.underlying203 Tryz.underlying205 rfl rfl Tryz.underlying9 cells_es cells_s
  exact ⟨_, by simpa using World.var?_cell g_ran hv 0, .inr ⟨_, _, rfl⟩⟩
theorem syn_of (h : laidMet Tryz.prog (six rest) W) : ∃ ev, W.cell? ⟨7, 0, none⟩ = some ev ∧ hw.Boxed ev := by
  have h4 : ∃ rest, laidMet Tryz.prog (("strconv.ErrSyntax", Rows.laid_strconv_ErrSyntax) :: rest) W := ⟨_, h.tail.tail.tail.tail.tail⟩
  obtain ⟨rest, h5⟩ := h4
  obtain ⟨a0, s0, hv, _⟩ := laid_sentinel h5 g_syn g_syn_t Tryz.underlying100 row_err Tryz.underlying203 Tryz.underlying205 rfl rfl Tryz.underlying9 cells_es cells_s
  exact ⟨_, by simpa using World.var?_cell g_syn hv 0, .inr ⟨_, _, rfl⟩⟩
theorem max_of (h : W.ShapedOpen Tryz.prog) : ∃ m, W.cell? ⟨1, 0, none⟩ = some (.int .i64 m) :=
  Go.Proofs.cell_of_shapedOpen_int (zero := #[.int .i64 0]) (t := 3) h (of_decide_eq_true (by kernel_rfl)) (by kernel_rfl) rfl (by kernel_rfl) (by kernel_rfl) Tryz.underlying3
theorem env_of (h : laidMet Tryz.prog (six rest) W) (hs : W.ShapedOpen Tryz.prog) : Env W := ⟨tab_of h, d64_of h, max_of hs, syn_of h, ran_of h⟩
end

end Go.Proofs.YtghdaengkgiekaaGreatDoor.laid
