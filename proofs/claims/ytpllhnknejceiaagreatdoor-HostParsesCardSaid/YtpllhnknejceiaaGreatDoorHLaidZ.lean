/-
  Given for the seat's laws: what the rows' conditions give a walk of the five statements that parse. No condition but those of the theorems.
-/
import Derived.Test.YtpllhnknejceiaaGreatDoorHLaid
import Derived.Shelf.Vars
namespace Go.Proofs.YtpllhnknejceiaaGreatDoor.laid
open Go.ChangeShapes Go.WideShapes Go.ChangeAt Go.RowKit Go.Joins hw
set_option linter.unusedVariables false

theorem star : "*" ++ "errors.errorString" = "*errors.errorString" := by decide
theorem row_err (u : TypeId) (h : Tryz.prog.typeName? 3 u = some "*errors.errorString") : u = 156 :=
  typeName_ptr_named (nm := "errors.errorString") (by rw [star]; kernel_rfl) (by kernel_rfl) (by decide) u (by rw [star]; exact h)
theorem g_ran : Tryz.prog.globalNamed "strconv.ErrRange" = some 5 := by kernel_rfl
theorem g_ran_t : (Tryz.prog.globals[5]?).map (·.type) = some 96 := by kernel_rfl
theorem g_syn : Tryz.prog.globalNamed "strconv.ErrSyntax" = some 4 := by kernel_rfl
theorem g_syn_t : (Tryz.prog.globals[4]?).map (·.type) = some 96 := by kernel_rfl
theorem cells_es : Tryz.prog.cellsOf 158 = 1 := by kernel_rfl
theorem cells_s : Tryz.prog.cellsOf 9 = 1 := by kernel_rfl

theorem ran_of {W : World} (h : laidMet Tryz.prog listed W) : ∃ ev, W.cell? ⟨5, 0, none⟩ = some ev ∧ hw.Boxed ev := by
  have h4 : ∃ rest, laidMet Tryz.prog (("strconv.ErrRange", Rows.laid_strconv_ErrRange) :: rest) W := ⟨_, h.tail.tail.tail.tail⟩
  obtain ⟨rest, h5⟩ := h4
  obtain ⟨a0, s0, hv, _⟩ := laid_sentinel h5 g_ran g_ran_t Tryz.underlying96 row_err Tryz.underlying156 Tryz.underlying158 rfl rfl Tryz.underlying9 cells_es cells_s
  exact ⟨_, by simpa using World.var?_cell g_ran hv 0, .inr ⟨_, _, rfl⟩⟩
theorem syn_of {W : World} (h : laidMet Tryz.prog listed W) : ∃ ev, W.cell? ⟨4, 0, none⟩ = some ev ∧ hw.Boxed ev := by
  have h4 : ∃ rest, laidMet Tryz.prog (("strconv.ErrSyntax", Rows.laid_strconv_ErrSyntax) :: rest) W := ⟨_, h.tail.tail.tail.tail.tail⟩
  obtain ⟨rest, h5⟩ := h4
  obtain ⟨a0, s0, hv, _⟩ := laid_sentinel h5 g_syn g_syn_t Tryz.underlying96 row_err Tryz.underlying156 Tryz.underlying158 rfl rfl Tryz.underlying9 cells_es cells_s
  exact ⟨_, by simpa using World.var?_cell g_syn hv 0, .inr ⟨_, _, rfl⟩⟩
theorem max_of {W : World} (h : W.ShapedOpen Tryz.prog) : ∃ m, W.cell? ⟨0, 0, none⟩ = some (.int .i64 m) :=
  Go.Proofs.cell_of_shapedOpen_int (zero := #[.int .i64 0]) (t := 3) h (of_decide_eq_true (by kernel_rfl)) (by kernel_rfl) rfl (by kernel_rfl) (by kernel_rfl) Tryz.underlying3
theorem env_of {W : World} (h : laidMet Tryz.prog listed W) (hs : W.ShapedOpen Tryz.prog) : Env W := ⟨tab_of h, d64_of h, max_of hs, syn_of h, ran_of h⟩
end Go.Proofs.YtpllhnknejceiaaGreatDoor.laid
