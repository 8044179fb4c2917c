/-
  Given for the seat's laws: a world in which the listed variables lie as the rows list them, what the rows' conditions give a walk, and targets that came in. No condition but those of the theorems.
-/
import Derived.Test.YtefpplkoohnfbabGreatDoorRows
import Derived.Test.YtefpplkoohnfbabGreatDoorARep
import Derived.Lib.SmallJoins
import Derived.ChangeSame
import Derived.Deep.DeepHandedRow
import Derived.Lib.LaidTab
import Derived.Lay
import Derived.Stop.LaidErr
import Derived.ProofKit
import Derived.OpenShut
import Derived.Shelf.Vars
namespace Go.Proofs.YtefpplkoohnfbabGreatDoor.laid
open Go.ChangeShapes Go.WideShapes Go.ChangeAt Go.RowKit Go.Joins hw ak
set_option linter.unusedVariables false
set_option maxRecDepth 100000

theorem own : ownKnob Tryz.prog.godebug = none := by kernel_rfl
theorem laidOut : laidOutB Tryz.prog = true := by kernel_rfl

/-- what the rows list -/
abbrev six (rest : List (String × DataW Unit)) : List (String × DataW Unit) :=
  ("math/bits.deBruijn32tab", Rows.laid_math_bits_deBruijn32tab) :: ("math/bits.deBruijn64tab", Rows.laid_math_bits_deBruijn64tab) :: ("internal/strconv.uint64pow10", Rows.laid_internal_strconv_uint64pow10) :: ("unicode/utf8.acceptRanges", Rows.laid_unicode_utf8_acceptRanges) :: ("strconv.ErrRange", Rows.laid_strconv_ErrRange) :: ("strconv.ErrSyntax", Rows.laid_strconv_ErrSyntax) :: rest
noncomputable abbrev listed : List (String × DataW Unit) := six [("postilion/ask.numbers", Rows.laid_postilion_ask_numbers), ("unicode/utf8.first", Rows.laid_unicode_utf8_first)]
noncomputable abbrev listedT : List (String × DataW Unit) := six [("unicode/utf8.first", Rows.laid_unicode_utf8_first)]

/-- the settled world, all of them laid -/
noncomputable def laidWorld (os : Os) : World := World.laidAll Tryz.prog os listed
theorem laid_met (os : Os) (args : Array Value) : laidMet Tryz.prog listed ((laidWorld os).forCall (fun _ _ => 0) ⟨#[], args, []⟩).memory :=
  laidMet_laidAll args (by kernel_rfl) (by kernel_rfl)
noncomputable def laidWorldT (os : Os) : World := World.laidAll Tryz.prog os listedT
theorem laid_metT (os : Os) (args : Array Value) : laidMet Tryz.prog listedT ((laidWorldT os).forCall (fun _ _ => 0) ⟨#[], args, []⟩).memory :=
  laidMet_laidAll args (by kernel_rfl) (by kernel_rfl)

theorem g_tab : Tryz.prog.globalNamed "internal/strconv.uint64pow10" = some 6 := by kernel_rfl
theorem g_type : (Tryz.prog.globals[6]?).map (·.type) = some 154 := by kernel_rfl
theorem cells_e : Tryz.prog.cellsOf 101 = 1 := by kernel_rfl
theorem cells_t : Tryz.prog.cellsOf 154 = 20 := by kernel_rfl
theorem datum : (Rows.laid_internal_strconv_uint64pow10 : DataW Unit) = Lib.tabData .u64 Lib.pow10Tab := by kernel_rfl
def d64Tab : List Int := [0, 1, 56, 2, 57, 49, 28, 3, 61, 58, 42, 50, 38, 29, 17, 4, 62, 47, 59, 36, 45, 43, 51, 22, 53, 39, 33, 30, 24, 18, 12, 5, 63, 55, 48, 27, 60, 41, 37, 16, 46, 35, 44, 21, 52, 32, 23, 11, 54, 26, 40, 15, 34, 20, 31, 10, 25, 14, 19, 9, 13, 8, 7, 6]
theorem g_d64 : Tryz.prog.globalNamed "math/bits.deBruijn64tab" = some 8 := by kernel_rfl
theorem g_type64 : (Tryz.prog.globals[8]?).map (·.type) = some 160 := by kernel_rfl
theorem cells_e8 : Tryz.prog.cellsOf 5 = 1 := by kernel_rfl
theorem cells_t64 : Tryz.prog.cellsOf 160 = 64 := by kernel_rfl
theorem datum64 : (Rows.laid_math_bits_deBruijn64tab : DataW Unit) = Lib.tabData .u8 d64Tab := by kernel_rfl
def numTab : List Int := [0, 1, 2, 7, 8, 1, 1, 1, 2, 2, 2, 3, 4, 6]
theorem g_num : Tryz.prog.globalNamed "postilion/ask.numbers" = some 0 := by kernel_rfl
theorem g_typeN : (Tryz.prog.globals[0]?).map (·.type) = some 58 := by kernel_rfl
theorem cells_tN : Tryz.prog.cellsOf 58 = 14 := by kernel_rfl
theorem datumN : (Rows.laid_postilion_ask_numbers : DataW Unit) = Lib.tabData .u8 numTab := by kernel_rfl
section
variable {W : World} {rest : List (String × DataW Unit)}
/-- the tables, off the rows' conditions -/
theorem tab_of (h : laidMet Tryz.prog (six rest) W) : Tab W := by
  have h4 : ∃ rest, laidMet Tryz.prog (("internal/strconv.uint64pow10", Rows.laid_internal_strconv_uint64pow10) :: rest) W := ⟨_, h.tail.tail⟩
  obtain ⟨rest, h5⟩ := h4
  rw [datum] at h5
  exact Lib.tabIs_of_head g_tab g_type Tryz.underlying154 Tryz.underlying101 cells_e cells_t h5
theorem d64_of (h : laidMet Tryz.prog (six rest) W) : D64 W := by
  have h4 : ∃ rest, laidMet Tryz.prog (("math/bits.deBruijn64tab", Rows.laid_math_bits_deBruijn64tab) :: rest) W := ⟨_, h.tail⟩
  obtain ⟨rest, h5⟩ := h4
  rw [datum64] at h5
  have := (Lib.tabIs_of_head g_d64 g_type64 Tryz.underlying160 Tryz.underlying5 cells_e8 cells_t64 h5).cell g_d64 15 (by decide)
  exact this
theorem nums_of {more : List (String × DataW Unit)} (h : laidMet Tryz.prog (six (("postilion/ask.numbers", Rows.laid_postilion_ask_numbers) :: more)) W) : Nums W := by
  have h5 := h.tail.tail.tail.tail.tail.tail
  rw [datumN] at h5
  have ht := Lib.tabIs_of_head g_num g_typeN Tryz.underlying58 Tryz.underlying5 cells_e8 cells_tN h5
  intro k hk
  have : k = 0 ∨ k = 1 ∨ k = 2 ∨ k = 3 ∨ k = 4 ∨ k = 5 ∨ k = 6 ∨ k = 7 ∨ k = 8 ∨ k = 9 ∨ k = 10 ∨ k = 11 ∨ k = 12 ∨ k = 13 := by omega
  rcases this with rfl | rfl | rfl | rfl | rfl | rfl | rfl | rfl | rfl | rfl | rfl | rfl | rfl | rfl
  · exact ht.cell g_num 0 (by decide)
  · exact ht.cell g_num 1 (by decide)
  · exact ht.cell g_num 2 (by decide)
  · exact ht.cell g_num 3 (by decide)
  · exact ht.cell g_num 4 (by decide)
  · exact ht.cell g_num 5 (by decide)
  · exact ht.cell g_num 6 (by decide)
  · exact ht.cell g_num 7 (by decide)
  · exact ht.cell g_num 8 (by decide)
  · exact ht.cell g_num 9 (by decide)
  · exact ht.cell g_num 10 (by decide)
  · exact ht.cell g_num 11 (by decide)
  · exact ht.cell g_num 12 (by decide)
  · exact ht.cell g_num 13 (by decide)
theorem star : "*" ++ "errors.errorString" = "*errors.errorString" := by decide
theorem row_err (u : TypeId) (h : Tryz.prog.typeName? 3 u = some "*errors.errorString") : u = 144 :=
  typeName_ptr_named (nm := "errors.errorString") (by rw [star]; kernel_rfl) (by kernel_rfl) (by decide) u (by rw [star]; exact h)
theorem g_ran : Tryz.prog.globalNamed "strconv.ErrRange" = some 5 := by kernel_rfl
theorem g_ran_t : (Tryz.prog.globals[5]?).map (·.type) = some 79 := by kernel_rfl
theorem g_syn : Tryz.prog.globalNamed "strconv.ErrSyntax" = some 4 := by kernel_rfl
theorem g_syn_t : (Tryz.prog.globals[4]?).map (·.type) = some 79 := by kernel_rfl
theorem cells_es : Tryz.prog.cellsOf 146 = 1 := by kernel_rfl
theorem cells_s : Tryz.prog.cellsOf 9 = 1 := by kernel_rfl
theorem ran_of (h : laidMet Tryz.prog (six rest) W) : ∃ ev, W.cell? ⟨5, 0, none⟩ = some ev ∧ hw.Boxed ev := by
  have h4 : ∃ rest, laidMet Tryz.prog (("strconv.ErrRange", Rows.laid_strconv_ErrRange) :: rest) W := ⟨_, h.tail.tail.tail.tail⟩
  obtain ⟨rest, h5⟩ := h4
  obtain ⟨a0, s0, hv, _⟩ := laid_sentinel h5 g_ran g_ran_t Tryz.underlying79 row_err Tryz.underlying144 Tryz.underlying146 rfl rfl Tryz.underlying9 cells_es cells_s
  exact ⟨_, by simpa using World.var?_cell g_ran hv 0, .inr ⟨_, _, rfl⟩⟩
theorem syn_of (h : laidMet Tryz.prog (six rest) W) : ∃ ev, W.cell? ⟨4, 0, none⟩ = some ev ∧ hw.Boxed ev := by
  have h4 : ∃ rest, laidMet Tryz.prog (("strconv.ErrSyntax", Rows.laid_strconv_ErrSyntax) :: rest) W := ⟨_, h.tail.tail.tail.tail.tail⟩
  obtain ⟨rest, h5⟩ := h4
  obtain ⟨a0, s0, hv, _⟩ := laid_sentinel h5 g_syn g_syn_t Tryz.underlying79 row_err Tryz.underlying144 Tryz.underlying146 rfl rfl Tryz.underlying9 cells_es cells_s
  exact ⟨_, by simpa using World.var?_cell g_syn hv 0, .inr ⟨_, _, rfl⟩⟩
theorem max_of (h : W.ShapedOpen Tryz.prog) : ∃ m, W.cell? ⟨1, 0, none⟩ = some (.int .i64 m) :=
  Go.Proofs.cell_of_shapedOpen_int (zero := #[.int .i64 0]) (t := 3) h (of_decide_eq_true (by kernel_rfl)) (by kernel_rfl) rfl (by kernel_rfl) (by kernel_rfl) Tryz.underlying3
theorem env_of (h : laidMet Tryz.prog (six rest) W) (hs : W.ShapedOpen Tryz.prog) : Env W := ⟨tab_of h, d64_of h, max_of hs, syn_of h, ran_of h⟩
end

/-- a target that came in -/
theorem open_target {H : Type} {enc : TypeId × Value → H} {W : World} {b0 base : Nat} {spare : Nat → Bool} {held : Bool} {v : Value} {d : DataW H} {p : List MemPlace}
    (hv : Value.okWide Tryz.prog W .any b0 25 v) (h : DataW.Trod enc Tryz.prog W base spare held 25 v d p) :
    ∃ (k : Int) (t : ByteArray) (q : Int), v = tv k t q ∧ 0 ≤ k ∧ k < 256 ∧ t.size ≤ maxLen ∧ -9223372036854775808 ≤ q ∧ q ≤ 9223372036854775807 := by
  obtain ⟨cs, rfl, hsz⟩ := okWide_struct Tryz.underlying25 hv
  have hc3 : Tryz.prog.cellsOf 25 = 3 := by kernel_rfl
  obtain ⟨c0, c1, c2, rfl⟩ := array3 (hsz.trans hc3)
  obtain ⟨fuel, hf⟩ := h
  obtain ⟨y0, y1, n, hx, _, h0, h1⟩ := trod_struct2 Tryz.underlying25 hf
  have hh : Tryz.prog.cellsOf 23 = 2 := by kernel_rfl
  have hi : Tryz.prog.cellsOf 3 = 1 := by kernel_rfl
  have h0' : DataW.trod enc Tryz.prog W base spare held n 23 [c0, c1] = some y0 := by simpa [Value.cells, hh] using h0
  have h1' : DataW.trod enc Tryz.prog W base spare held n 3 [c2] = some y1 := by simpa [Value.cells, hi] using h1
  obtain ⟨z0, z1, m, hz, _, g0, g1⟩ := trod_struct2 Tryz.underlying23 h0'
  have hu : Tryz.prog.cellsOf 5 = 1 := by kernel_rfl
  have hs : Tryz.prog.cellsOf 9 = 1 := by kernel_rfl
  have g0' : DataW.trod enc Tryz.prog W base spare held m 5 [c0] = some z0 := by simpa [hu] using g0
  have g1' : DataW.trod enc Tryz.prog W base spare held m 9 [c1] = some z1 := by simpa [hs] using g1
  obtain ⟨k, e0, _, w0⟩ := DataW.trod_int Tryz.underlying5 g0'
  obtain ⟨t, e1, _, w1⟩ := DataW.trod_string Tryz.underlying9 g1'
  obtain ⟨q, e2, _, w2⟩ := DataW.trod_int Tryz.underlying3 h1'
  simp at e0 e1 e2
  subst e0 e1 e2
  have b0 : 0 ≤ k ∧ k ≤ 255 := by simpa [Lit.wf, IntKind.min, IntKind.max, IntKind.signed, IntKind.bits] using w0
  have b2 : -9223372036854775808 ≤ q ∧ q ≤ 9223372036854775807 := by simpa [Lit.wf, IntKind.min, IntKind.max, IntKind.signed, IntKind.bits] using w2
  exact ⟨k, t, q, rfl, b0.1, by omega, w1, b2.1, b2.2⟩

end Go.Proofs.YtefpplkoohnfbabGreatDoor.laid
