/-
  Given for the seat's laws: the table of what a client is told, off the row's condition. No condition but those of the theorems.
-/
import Derived.Test.YtghdaengkgiekaaGreatDoorYCLaid
import Derived.Test.YtghdaengkgiekaaGreatDoorYCRpl
namespace Go.Proofs.YtghdaengkgiekaaGreatDoor.laid
open Go.ChangeShapes Go.WideShapes Go.ChangeAt Go.RowKit Go.Joins hw
set_option linter.unusedVariables false
set_option maxRecDepth 100000

theorem fm2 {α : Type} (f g : α → Value) : ∀ (l : List α) (k : Nat) (x : α), l[k]? = some x → (l.flatMap fun p => [f p, g p])[k * 2]? = some (f x) ∧ (l.flatMap fun p => [f p, g p])[k * 2 + 1]? = some (g x)
  | [], k, x, h => by simp at h
  | y :: r, 0, x, h => by simp at h; subst h; simp
  | y :: r, k + 1, x, h => by
    have := fm2 f g r k x (by simpa using h)
    rw [show (k + 1) * 2 = k * 2 + 1 + 1 by omega]
    simpa using this
theorem g_rs : Tryz.prog.globalNamed "postilion/connect.reasons" = some 0 := by kernel_rfl
theorem g_rs_t : (Tryz.prog.globals[0]?).map (·.type) = some 106 := by kernel_rfl
theorem cells_r : Tryz.prog.cellsOf 65 = 2 := by kernel_rfl
theorem cells_r14 : Tryz.prog.cellsOf 106 = 28 := by kernel_rfl
theorem cells_i : Tryz.prog.cellsOf 3 = 1 := by kernel_rfl
def rdata : List (DataW Unit) := cn.rs.map fun p => .agg [.lit (.int .i64 (p.1 : Int)), .lit (.string p.2)]
theorem datum_rs : (Rows.laid_postilion_connect_reasons : DataW Unit) = .agg rdata := by kernel_rfl
/-- the table of what a client is told, off the row's condition -/
theorem reasons_of {W : World} {rest : List (String × DataW Unit)} (h : laidMet Tryz.prog (six (("postilion/connect.reasons", Rows.laid_postilion_connect_reasons) :: rest)) W) : cn.Rsn W := by
  have h4 : ∃ rest, laidMet Tryz.prog (("postilion/connect.reasons", Rows.laid_postilion_connect_reasons) :: rest) W := ⟨_, h.tail.tail.tail.tail.tail.tail⟩
  obtain ⟨rest, h5⟩ := h4
  rw [datum_rs] at h5
  obtain ⟨ps, ⟨g', t', cs, fuel, p, q, hg', ht', hvar, hdd, _, _⟩, _⟩ := h5
  obtain rfl := Option.some.inj (g_rs.symm.trans hg')
  obtain rfl := Option.some.inj (g_rs_t.symm.trans ht')
  have hcell := fun i => World.var?_cell g_rs hvar i
  cases fuel with
  | zero => simp [DataW.trod] at hdd
  | succ fuel =>
    simp only [DataW.trod, Tryz.underlying106, cells_r, cells_r14] at hdd
    split at hdd
    · rename_i hl
      obtain ⟨xs, hm, hx⟩ := Option.map_eq_some_iff.1 hdd
      have hxs : xs.map (·.1) = rdata := by
        have := congrArg Prod.fst hx
        simpa using this
      have key : ∀ (i st : Nat) (tx : hd.Str), cn.rs[i]? = some (st, tx) → W.cell? ⟨0, i * 2, none⟩ = some (.int .i64 (st : Int)) ∧ W.cell? ⟨0, i * 2 + 1, none⟩ = some (.string (hd.S tx)) := by
        intro i st tx hi
        have hi14 : i < 14 := (List.getElem?_eq_some_iff.1 hi).1
        obtain ⟨b, hb, hf⟩ := Lib.mapM_at hm i i (by simp [hi14])
        have hb1 : b.1 = .agg [.lit (.int .i64 (st : Int)), .lit (.string tx)] := by
          have h2 : (xs.map (·.1))[i]? = some b.1 := by simp [hb]
          rw [hxs] at h2
          unfold rdata at h2
          rw [List.getElem?_map, hi] at h2
          exact (Option.some.inj h2).symm
        obtain ⟨y0, y1, n, rfl, hlen, f0, f1⟩ := trod_struct2 Tryz.underlying65 hf
        simp only [DataW.agg.injEq, List.cons.injEq, and_true] at hb1
        obtain ⟨q0, q1⟩ := hb1
        obtain ⟨z, hz, e0, _⟩ := DataW.trod_int Tryz.underlying3 f0
        obtain ⟨s, hs, e1, _⟩ := DataW.trod_string Tryz.underlying9 f1
        rw [e0] at q0
        rw [e1] at q1
        simp only [DataW.lit.injEq, Lit.int.injEq, Lit.string.injEq, true_and] at q0 q1
        subst q0
        have hs2 : s = hd.S tx := by rw [← q1, hd.S_data]
        subst hs2
        simp only [cells_i, cells_s] at hz hs
        have z0 := congrArg (·[0]?) hz
        have z1 := congrArg (·[0]?) hs
        rw [hcell, hcell]
        refine ⟨?_, ?_⟩
        · simpa [List.getElem?_take, List.getElem?_drop] using z0
        · simpa [List.getElem?_take, List.getElem?_drop] using z1
      refine ⟨fun i v hv => ?_⟩
      have hlt : i < 28 := by have := (List.getElem?_eq_some_iff.1 hv).1; simpa [cn.rcells, cn.rs] using this
      have hl14 : cn.rs.length = 14 := rfl
      obtain ⟨⟨st, tx⟩, hk⟩ : ∃ x, cn.rs[i / 2]? = some x := ⟨_, List.getElem?_eq_getElem (by rw [hl14]; omega)⟩
      obtain ⟨k0, k1⟩ := key _ _ _ hk
      obtain ⟨m0, m1⟩ := fm2 (fun p : Nat × hd.Str => Value.int .i64 (p.1 : Int)) (fun p => Value.string (hd.S p.2)) cn.rs _ _ hk
      change cn.rcells[i / 2 * 2]? = _ at m0
      change cn.rcells[i / 2 * 2 + 1]? = _ at m1
      rcases (show i = i / 2 * 2 ∨ i = i / 2 * 2 + 1 by omega) with e | e
      · rw [e] at hv ⊢
        rw [m0] at hv
        rw [← hv]
        exact k0
      · rw [e] at hv ⊢
        rw [m1] at hv
        rw [← hv]
        exact k1
    · cases hdd
end Go.Proofs.YtghdaengkgiekaaGreatDoor.laid
