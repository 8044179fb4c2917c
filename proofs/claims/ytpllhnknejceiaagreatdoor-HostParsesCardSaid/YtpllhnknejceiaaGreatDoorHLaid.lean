/-
  Given for the seat's laws: a world in which the listed variables lie as the rows list them, and what the rows' condition gives a walk. No condition.
-/
import Derived.Test.YtpllhnknejceiaaGreatDoorRows
import Derived.Test.YtpllhnknejceiaaGreatDoorHMay
import Derived.Lib.SmallJoins
import Derived.ChangeSame
import Derived.Deep.DeepHandedRow
import Derived.Lib.LaidTab
import Derived.Lay
import Derived.Stop.LaidErr
import Derived.ProofKit
import Derived.OpenShut
namespace Go.Proofs.YtpllhnknejceiaaGreatDoor.laid
open Go.ChangeShapes Go.WideShapes Go.ChangeAt Go.RowKit Go.Joins hw
set_option linter.unusedVariables false
set_option maxRecDepth 100000

theorem own : ownKnob Tryz.prog.godebug = none := by kernel_rfl
theorem laidOut : laidOutB Tryz.prog = true := by kernel_rfl

/-- what the rows list -/
noncomputable abbrev listed : List (String × DataW Unit) := Rows.hostParsesRow.laid

/-- the settled world, all of them laid -/
noncomputable def laidWorld (os : Os) : World := World.laidAll Tryz.prog os listed
theorem laid_met (os : Os) (args : Array Value) : laidMet Tryz.prog listed ((laidWorld os).forCall (fun _ _ => 0) ⟨#[], args, []⟩).memory :=
  laidMet_laidAll args (by kernel_rfl) (by kernel_rfl)

theorem g_tab : Tryz.prog.globalNamed "internal/strconv.uint64pow10" = some 1 := by kernel_rfl
theorem g_type : (Tryz.prog.globals[1]?).map (·.type) = some 142 := by kernel_rfl
theorem cells_e : Tryz.prog.cellsOf 94 = 1 := by kernel_rfl
theorem cells_t : Tryz.prog.cellsOf 142 = 20 := by kernel_rfl
theorem datum : (Rows.laid_internal_strconv_uint64pow10 : DataW Unit) = Lib.tabData .u64 Lib.pow10Tab := by kernel_rfl

def d64Tab : List Int := [0, 1, 56, 2, 57, 49, 28, 3, 61, 58, 42, 50, 38, 29, 17, 4, 62, 47, 59, 36, 45, 43, 51, 22, 53, 39, 33, 30, 24, 18, 12, 5, 63, 55, 48, 27, 60, 41, 37, 16, 46, 35, 44, 21, 52, 32, 23, 11, 54, 26, 40, 15, 34, 20, 31, 10, 25, 14, 19, 9, 13, 8, 7, 6]
theorem g_d64 : Tryz.prog.globalNamed "math/bits.deBruijn64tab" = some 7 := by kernel_rfl
theorem g_type64 : (Tryz.prog.globals[7]?).map (·.type) = some 160 := by kernel_rfl
theorem cells_e8 : Tryz.prog.cellsOf 5 = 1 := by kernel_rfl
theorem cells_t64 : Tryz.prog.cellsOf 160 = 64 := by kernel_rfl
theorem datum64 : (Rows.laid_math_bits_deBruijn64tab : DataW Unit) = Lib.tabData .u8 d64Tab := by kernel_rfl

/-- the table, off the rows' condition -/
theorem tab_of {W : World} (h : laidMet Tryz.prog listed W) : Tab W := by
  have h3 := h.tail.tail
  have h4 : ∃ rest, laidMet Tryz.prog (("internal/strconv.uint64pow10", Rows.laid_internal_strconv_uint64pow10) :: rest) W := ⟨_, h3⟩
  obtain ⟨rest, h5⟩ := h4
  rw [datum] at h5
  exact Lib.tabIs_of_head g_tab g_type Tryz.underlying142 Tryz.underlying94 cells_e cells_t h5
theorem d64_of {W : World} (h : laidMet Tryz.prog listed W) : D64 W := by
  have h3 := h.tail
  have h4 : ∃ rest, laidMet Tryz.prog (("math/bits.deBruijn64tab", Rows.laid_math_bits_deBruijn64tab) :: rest) W := ⟨_, h3⟩
  obtain ⟨rest, h5⟩ := h4
  rw [datum64] at h5
  have := (Lib.tabIs_of_head g_d64 g_type64 Tryz.underlying160 Tryz.underlying5 cells_e8 cells_t64 h5).cell g_d64 15 (by decide)
  exact this

/-- a target that came in -/
theorem open_target {H : Type} {enc : TypeId × Value → H} {W : World} {b0 base : Nat} {spare : Nat → Bool} {held : Bool} {v : Value} {d : DataW H} {p : List MemPlace}
    (hv : Value.okWide Tryz.prog W .any b0 30 v) (h : DataW.Trod enc Tryz.prog W base spare held 30 v d p) :
    ∃ (k : Int) (t : ByteArray) (q : Int), v = tv k t q ∧ 0 ≤ k ∧ k < 256 ∧ t.size ≤ maxLen ∧ -9223372036854775808 ≤ q ∧ q ≤ 9223372036854775807 := by
  obtain ⟨cs, rfl, hsz⟩ := okWide_struct Tryz.underlying30 hv
  have hc3 : Tryz.prog.cellsOf 30 = 3 := by kernel_rfl
  obtain ⟨c0, c1, c2, rfl⟩ := array3 (hsz.trans hc3)
  obtain ⟨fuel, hf⟩ := h
  obtain ⟨y0, y1, n, hx, _, h0, h1⟩ := trod_struct2 Tryz.underlying30 hf
  have hh : Tryz.prog.cellsOf 23 = 2 := by kernel_rfl
  have hi : Tryz.prog.cellsOf 3 = 1 := by kernel_rfl
  have h0' : DataW.trod enc Tryz.prog W base spare held n 23 [c0, c1] = some y0 := by simpa [Value.cells, hh] using h0
  have h1' : DataW.trod enc Tryz.prog W base spare held n 3 [c2] = some y1 := by simpa [Value.cells, hi] using h1
  obtain ⟨z0, z1, m, hz, _, g0, g1⟩ := trod_struct2 Tryz.underlying23 h0'
  have hu : Tryz.prog.cellsOf 5 = 1 := by kernel_rfl
  have hs : Tryz.prog.cellsOf 9 = 1 := by kernel_rfl
  have g0' : DataW.trod enc Tryz.prog W base spare held m 5 [c0] = some z0 := by simpa [hu] using g0
  have g1' : DataW.trod enc Tryz.prog W base spare held m 9 [c1] = some z1 := by simpa [hs] using g1
  obtain ⟨k, e0, _, w0⟩ := DataW.trod_int Tryz.underlying5 g0'
  obtain ⟨t, e1, _, w1⟩ := DataW.trod_string Tryz.underlying9 g1'
  obtain ⟨q, e2, _, w2⟩ := DataW.trod_int Tryz.underlying3 h1'
  simp at e0 e1 e2
  subst e0 e1 e2
  have b0 : 0 ≤ k ∧ k ≤ 255 := by simpa [Lit.wf, IntKind.min, IntKind.max, IntKind.signed, IntKind.bits] using w0
  have b2 : -9223372036854775808 ≤ q ∧ q ≤ 9223372036854775807 := by simpa [Lit.wf, IntKind.min, IntKind.max, IntKind.signed, IntKind.bits] using w2
  exact ⟨k, t, q, rfl, b0.1, by omega, w1, b2.1, b2.2⟩

end Go.Proofs.YtpllhnknejceiaaGreatDoor.laid
