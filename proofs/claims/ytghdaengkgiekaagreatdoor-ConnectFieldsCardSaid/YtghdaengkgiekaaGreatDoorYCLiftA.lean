/-
  Given for the seat's laws: an ask that came in. No condition but those of the theorem.
-/
import Derived.Test.YtghdaengkgiekaaGreatDoorYCAsk
import Derived.Test.YtghdaengkgiekaaGreatDoorYCLaid
namespace Go.Proofs.YtghdaengkgiekaaGreatDoor.laid
open Go.ChangeShapes Go.WideShapes Go.ChangeAt Go.RowKit Go.Joins hd cn
set_option linter.unusedVariables false
set_option maxRecDepth 100000

theorem open_ask {H : Type} {enc : TypeId × Value → H} {W : World} {b0 base : Nat} {spare : Nat → Bool} {held : Bool} {v : Value} {d : DataW H} {p : List MemPlace}
    (hv : Value.okWide Tryz.prog W .any b0 27 v) (h : DataW.Trod enc Tryz.prog W base spare held 27 v d p) : ∃ a : A, v = av a ∧ True := by
  obtain ⟨cs, rfl, hsz⟩ := okWide_struct Tryz.underlying27 hv
  have hc8 : Tryz.prog.cellsOf 27 = 8 := by kernel_rfl
  obtain ⟨fuel, hf⟩ := h
  obtain ⟨cs⟩ := cs
  have hl8 : cs.length = 8 := by simpa using hsz.trans hc8
  match cs, hl8 with
  | [c0, c1, c2, c3, c4, c5, c6, c7], _ =>
  obtain ⟨xs, n, _, hx, hl, hlen, hg⟩ := DataW.trod_struct Tryz.underlying27 hf
  match xs, hlen with
  | [y0, y1, y2, y3, y4, y5], _ =>
  have hT : Tryz.prog.cellsOf 25 = 3 := by kernel_rfl
  have hB : Tryz.prog.cellsOf 4 = 1 := by kernel_rfl
  have hS : Tryz.prog.cellsOf 9 = 1 := by kernel_rfl
  have hI : Tryz.prog.cellsOf 3 = 1 := by kernel_rfl
  have hU : Tryz.prog.cellsOf 5 = 1 := by kernel_rfl
  have hH : Tryz.prog.cellsOf 23 = 2 := by kernel_rfl
  have g0 : DataW.trod enc Tryz.prog W base spare held n 25 [c0, c1, c2] = some y0 := by simpa [Value.cells, hT] using hg 0 _ rfl
  have g1 : DataW.trod enc Tryz.prog W base spare held n 4 [c3] = some y1 := by simpa [Value.cells, hB] using hg 1 _ rfl
  have g2 : DataW.trod enc Tryz.prog W base spare held n 9 [c4] = some y2 := by simpa [Value.cells, hS] using hg 2 _ rfl
  have g3 : DataW.trod enc Tryz.prog W base spare held n 9 [c5] = some y3 := by simpa [Value.cells, hS] using hg 3 _ rfl
  have g4 : DataW.trod enc Tryz.prog W base spare held n 4 [c6] = some y4 := by simpa [Value.cells, hB] using hg 4 _ rfl
  have g5 : DataW.trod enc Tryz.prog W base spare held n 9 [c7] = some y5 := by simpa [Value.cells, hS] using hg 5 _ rfl
  obtain ⟨z0, z1, m, _, _, h0, h1⟩ := trod_struct2 Tryz.underlying25 g0
  have h0' : DataW.trod enc Tryz.prog W base spare held m 23 [c0, c1] = some z0 := by simpa [hH] using h0
  have h1' : DataW.trod enc Tryz.prog W base spare held m 3 [c2] = some z1 := by simpa [hI] using h1
  obtain ⟨u0, u1, j, _, _, i0, i1⟩ := trod_struct2 Tryz.underlying23 h0'
  have i0' : DataW.trod enc Tryz.prog W base spare held j 5 [c0] = some u0 := by simpa [hU] using i0
  have i1' : DataW.trod enc Tryz.prog W base spare held j 9 [c1] = some u1 := by simpa [hS] using i1
  obtain ⟨k, e0, _, w0⟩ := DataW.trod_int Tryz.underlying5 i0'
  obtain ⟨t, e1, _, _⟩ := DataW.trod_string Tryz.underlying9 i1'
  obtain ⟨q, e2, _, _⟩ := DataW.trod_int Tryz.underlying3 h1'
  obtain ⟨sg, e3, _⟩ := DataW.trod_bool Tryz.underlying4 g1
  obtain ⟨us, e4, _, _⟩ := DataW.trod_string Tryz.underlying9 g2
  obtain ⟨ps, e5, _, _⟩ := DataW.trod_string Tryz.underlying9 g3
  obtain ⟨hp, e6, _⟩ := DataW.trod_bool Tryz.underlying4 g4
  obtain ⟨tk, e7, _, _⟩ := DataW.trod_string Tryz.underlying9 g5
  simp at e0 e1 e2 e3 e4 e5 e6 e7
  subst e0 e1 e2 e3 e4 e5 e6 e7
  have hk : 0 ≤ k ∧ k ≤ 255 := by simpa [Lit.wf, IntKind.min, IntKind.max, IntKind.signed, IntKind.bits] using w0
  refine ⟨⟨k.toNat, t.data.toList, q, sg, us.data.toList, ps.data.toList, hp, tk.data.toList⟩, ?_, trivial⟩
  unfold av
  simp only [S_data]
  rw [Int.toNat_of_nonneg hk.1]
end Go.Proofs.YtghdaengkgiekaaGreatDoor.laid
