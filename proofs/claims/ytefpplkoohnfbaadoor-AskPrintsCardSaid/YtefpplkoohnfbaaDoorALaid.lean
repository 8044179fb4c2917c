/-
  Given for the seat's laws: a world in which the listed variables lie as the rows list them, what the rows' conditions give a walk, and targets that came in. No condition but those of the theorems.
-/
import Derived.Test.YtefpplkoohnfbaaDoorRows
import Derived.Test.YtefpplkoohnfbaaDoorDMem
import Derived.Lib.SmallJoins
import Derived.ChangeSame
import Derived.Deep.DeepHandedRow
import Derived.Lib.LaidTab
import Derived.Lay
import Derived.Stop.LaidErr
import Derived.ProofKit
import Derived.OpenShut
import Derived.Shelf.Vars
namespace Go.Proofs.YtefpplkoohnfbaaDoor.laid
open Go.ChangeShapes Go.WideShapes Go.ChangeAt Go.RowKit Go.Joins hw ak
set_option linter.unusedVariables false
set_option maxRecDepth 100000

theorem own : ownKnob Tryd.prog.godebug = none := by kernel_rfl
theorem laidOut : laidOutB Tryd.prog = true := by kernel_rfl

/-- what the row lists -/
noncomputable abbrev listed : List (String × DataW Unit) := [("unicode/utf8.acceptRanges", Rows.laid_unicode_utf8_acceptRanges), ("postilion/ask.numbers", Rows.laid_postilion_ask_numbers), ("unicode/utf8.first", Rows.laid_unicode_utf8_first)]
/-- the settled world, all of them laid -/
noncomputable def laidWorld (os : Os) : World := World.laidAll Tryd.prog os listed
theorem laid_met (os : Os) (args : Array Value) : laidMet Tryd.prog listed ((laidWorld os).forCall (fun _ _ => 0) ⟨#[], args, []⟩).memory :=
  laidMet_laidAll args (by kernel_rfl) (by kernel_rfl)
theorem cells_e8 : Tryd.prog.cellsOf 5 = 1 := by kernel_rfl
def numTab : List Int := [0, 1, 2, 7, 8, 1, 1, 1, 2, 2, 2, 3, 4, 6]
theorem g_num : Tryd.prog.globalNamed "postilion/ask.numbers" = some 0 := by kernel_rfl
theorem g_typeN : (Tryd.prog.globals[0]?).map (·.type) = some 37 := by kernel_rfl
theorem cells_tN : Tryd.prog.cellsOf 37 = 14 := by kernel_rfl
theorem datumN : (Rows.laid_postilion_ask_numbers : DataW Unit) = Lib.tabData .u8 numTab := by kernel_rfl
section
variable {W : World} {rest : List (String × DataW Unit)}
theorem nums_of {more : List (String × DataW Unit)} (h : laidMet Tryd.prog (("unicode/utf8.acceptRanges", Rows.laid_unicode_utf8_acceptRanges) :: ("postilion/ask.numbers", Rows.laid_postilion_ask_numbers) :: more) W) : Nums W := by
  have h5 := h.tail
  rw [datumN] at h5
  have ht := Lib.tabIs_of_head g_num g_typeN Tryd.underlying37 Tryd.underlying5 cells_e8 cells_tN h5
  intro k hk
  have : k = 0 ∨ k = 1 ∨ k = 2 ∨ k = 3 ∨ k = 4 ∨ k = 5 ∨ k = 6 ∨ k = 7 ∨ k = 8 ∨ k = 9 ∨ k = 10 ∨ k = 11 ∨ k = 12 ∨ k = 13 := by omega
  rcases this with rfl | rfl | rfl | rfl | rfl | rfl | rfl | rfl | rfl | rfl | rfl | rfl | rfl | rfl
  · exact ht.cell g_num 0 (by decide)
  · exact ht.cell g_num 1 (by decide)
  · exact ht.cell g_num 2 (by decide)
  · exact ht.cell g_num 3 (by decide)
  · exact ht.cell g_num 4 (by decide)
  · exact ht.cell g_num 5 (by decide)
  · exact ht.cell g_num 6 (by decide)
  · exact ht.cell g_num 7 (by decide)
  · exact ht.cell g_num 8 (by decide)
  · exact ht.cell g_num 9 (by decide)
  · exact ht.cell g_num 10 (by decide)
  · exact ht.cell g_num 11 (by decide)
  · exact ht.cell g_num 12 (by decide)
  · exact ht.cell g_num 13 (by decide)
end

/-- a target that came in -/
theorem open_target {H : Type} {enc : TypeId × Value → H} {W : World} {b0 base : Nat} {spare : Nat → Bool} {held : Bool} {v : Value} {d : DataW H} {p : List MemPlace}
    (hv : Value.okWide Tryd.prog W .any b0 25 v) (h : DataW.Trod enc Tryd.prog W base spare held 25 v d p) :
    ∃ (k : Int) (t : ByteArray) (q : Int), v = tv k t q ∧ 0 ≤ k ∧ k < 256 ∧ t.size ≤ maxLen ∧ -9223372036854775808 ≤ q ∧ q ≤ 9223372036854775807 := by
  obtain ⟨cs, rfl, hsz⟩ := okWide_struct Tryd.underlying25 hv
  have hc3 : Tryd.prog.cellsOf 25 = 3 := by kernel_rfl
  obtain ⟨c0, c1, c2, rfl⟩ := array3 (hsz.trans hc3)
  obtain ⟨fuel, hf⟩ := h
  obtain ⟨y0, y1, n, hx, _, h0, h1⟩ := trod_struct2 Tryd.underlying25 hf
  have hh : Tryd.prog.cellsOf 23 = 2 := by kernel_rfl
  have hi : Tryd.prog.cellsOf 3 = 1 := by kernel_rfl
  have h0' : DataW.trod enc Tryd.prog W base spare held n 23 [c0, c1] = some y0 := by simpa [Value.cells, hh] using h0
  have h1' : DataW.trod enc Tryd.prog W base spare held n 3 [c2] = some y1 := by simpa [Value.cells, hi] using h1
  obtain ⟨z0, z1, m, hz, _, g0, g1⟩ := trod_struct2 Tryd.underlying23 h0'
  have hu : Tryd.prog.cellsOf 5 = 1 := by kernel_rfl
  have hs : Tryd.prog.cellsOf 9 = 1 := by kernel_rfl
  have g0' : DataW.trod enc Tryd.prog W base spare held m 5 [c0] = some z0 := by simpa [hu] using g0
  have g1' : DataW.trod enc Tryd.prog W base spare held m 9 [c1] = some z1 := by simpa [hs] using g1
  obtain ⟨k, e0, _, w0⟩ := DataW.trod_int Tryd.underlying5 g0'
  obtain ⟨t, e1, _, w1⟩ := DataW.trod_string Tryd.underlying9 g1'
  obtain ⟨q, e2, _, w2⟩ := DataW.trod_int Tryd.underlying3 h1'
  simp at e0 e1 e2
  subst e0 e1 e2
  have b0 : 0 ≤ k ∧ k ≤ 255 := by simpa [Lit.wf, IntKind.min, IntKind.max, IntKind.signed, IntKind.bits] using w0
  have b2 : -9223372036854775808 ≤ q ∧ q ≤ 9223372036854775807 := by simpa [Lit.wf, IntKind.min, IntKind.max, IntKind.signed, IntKind.bits] using w2
  exact ⟨k, t, q, rfl, b0.1, by omega, w1, b2.1, b2.2⟩

end Go.Proofs.YtefpplkoohnfbaaDoor.laid
