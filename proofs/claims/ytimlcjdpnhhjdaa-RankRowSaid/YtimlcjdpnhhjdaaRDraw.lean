/-
  Given for the seat's laws: the contract of a draw. No condition but those of the theorems.
-/
import Derived.Test.YtimlcjdpnhhjdaaPSums
import Derived.Deep.RegionHeld3
import Derived.Deep.RegionLaw
import Derived.Shelf.Abstract
import Derived.BigRegion
namespace Go.Proofs.Ytimlcjdpnhhjdaa.rk
open Go.RowKit mem sp
set_option linter.unusedVariables false

/-- bytes that may be written, but for what lies behind them -/
structure LiesM (w : World) (g : Nat) (cs : Array Value) : Prop where
  ex : ∃ f, cs.size ≤ f ∧ w.heap[g]? = some (.cells cs 5 (f, f + 1))
section
variable {w w' : World} {g : Nat} {cs : Array Value}
theorem LiesM.cell (h : LiesM w g cs) (i : Nat) : w.cell? ⟨g, i, none⟩ = cs[i]? := by
  obtain ⟨f, _, h⟩ := h.ex
  simp [World.cell?, h]
theorem LiesM.frozen (h : LiesM w g cs) {i : Nat} (hi : i < cs.size) : w.frozen? ⟨g, i, none⟩ = false := by
  obtain ⟨f, hf, h⟩ := h.ex
  simp [World.frozen?, h]
  omega
theorem LiesM.lt (h : LiesM w g cs) : g < w.heap.size := by
  obtain ⟨f, hf, h⟩ := h.ex
  exact (Array.getElem?_eq_some_iff.1 h).1
theorem LiesM.below {B : Nat} (h : LiesM w g cs) (hb : Below B w w') (hg : g < B) : LiesM w' g cs := by
  obtain ⟨f, hf, h⟩ := h.ex
  exact ⟨f, hf, (hb.block g hg).trans h⟩
end

/-- a text's bytes in a row of the call's own -/
structure Conv (W : World) (b : Str) (cap : Nat) (w3 : World) : Prop where
  run : (convert 9 22 (.string (S b))).run Try.prog W = .ok (.slice (some ⟨W.heap.size, 0, none⟩) b.length cap) w3
  below : Below W.heap.size W w3
  ex : ∃ C : Array Value, LiesM w3 W.heap.size C ∧ C.size = cap ∧ b.length ≤ cap ∧ cap ≤ maxLen ∧ ∀ (j : Nat) (x : UInt8), b[j]? = some x → C[j]? = some (.int .u8 (x.toNat : Int))
theorem conv_of (W : World) (b : Str) (hb : b.length ≤ 100000) : ∃ cap w3, Conv W b cap w3 := by
  have hconv := run_bytes_of_string (P := Try.prog) W 9 22 5 (S b) Try.underlying9 Try.underlying22 Try.underlying5
  have hge := grownCap_ge W (S b).size 0 5
  have hle := grownCap_le_maxLen W (S b).size 0 5 (by rw [S_size]; unfold maxLen; omega)
  generalize hcap : grownCap W (S b).size 0 5 = cap at hconv hge hle
  rw [S_size] at hconv hge
  have hsz : (bytesRow (S b) cap).size = cap := by
    unfold bytesRow
    have : (S b).data.size = b.length := by simp [S]
    simp [S_size, this]
    omega
  refine ⟨cap, _, hconv, ((Still.drew1 W).below _).alloc (Nat.le_refl _) _, bytesRow (S b) cap, ⟨_, Nat.le_refl _, heap_alloc_new W.drew _⟩, hsz, hge, hle, fun j x hj => ?_⟩
  have hlt : j < b.length := (List.getElem?_eq_some_iff.1 hj).1
  unfold bytesRow
  rw [Array.getElem?_append_left (by simp [S, hlt])]
  simp [S, hj]

/-- one byte more, behind a text's bytes -/
theorem app_byte {W : World} {g n cap : Nat} {b : Str} {C : Array Value} (hm : LiesM W g C) (hC : ∀ (j : Nat) (x : UInt8), b[j]? = some x → C[j]? = some (.int .u8 (x.toNat : Int))) (hn : b.length = n) (hcs : C.size = cap) (hnc : n ≤ cap) (hcm : cap ≤ maxLen) (hl : n ≤ 100000) (x : UInt8)
    {a1 : Addr} {c1 : Nat} (hc : W.cell? a1 = some (.int .u8 (x.toNat : Int))) (hat : a1.add 0 = a1) :
    ∃ A c w2, (Builtin.append_ #[22, 22] 22 #[.slice (some ⟨g, 0, none⟩) n cap, .slice (some a1) 1 c1]).run Try.prog W = .ok (.slice A (n + 1 : Nat) c) w2 ∧
      Spell w2 (fun k => k < w2.heap.size) A (n + 1) c (b ++ [x]) ∧ Keep W.heap.size (fun k => k = g) W w2 := by
  obtain ⟨i0, hinf, hz0, hz1, hz2⟩ := info_parts (show (Try.prog.info? 5).map (fun i => (i.zero, i.size, i.bytes)) = some (some (.int .u8 0), 1, 1) by kernel_rfl)
  have hl1 : (b ++ [x]).length = n + 1 := by simp [hn]
  have hnews : ∀ (j : Nat) (v : Value), [Value.int .u8 (x.toNat : Int)][j]? = some v → W.cell? (a1.add j) = some v := by
    intro j v hv
    cases j with
    | zero => rw [hat, hc]; simpa using hv
    | succ j => simp at hv
  by_cases hroom : n + 1 ≤ cap
  · have hcell : ∃ v, W.cell? ⟨g, n, none⟩ = some v := ⟨C[n]'(by omega), by rw [hm.cell, Array.getElem?_eq_getElem]⟩
    obtain ⟨v0, hv0⟩ := hcell
    have hfz := hm.frozen (i := n) (by omega)
    have hf := run_firstCells_some (P := Try.prog) W 1 1 a1 1 c1 [Value.int .u8 (x.toNat : Int)] rfl hnews
    have hadd : (⟨g, 0, none⟩ : Addr).add n = ⟨g, n, none⟩ := by unfold Addr.add; split <;> simp_all
    refine ⟨some ⟨g, 0, none⟩, cap, W.setCell ⟨g, n, none⟩ (.int .u8 (x.toNat : Int)), ?_, ⟨by rw [ints_len, hl1], hroom, fun e => (by cases e), hcm, ints_rng _, fun _ => ⟨g, 0, rfl, by simpa [World.setCell] using hm.lt, fun j z hz => ?_⟩⟩, (Keep.refl W.heap.size (fun k => k = g) W).setCell (p := ⟨g, n, none⟩) (.inr rfl) _⟩
    · have h00 : (⟨g, n, none⟩ : Addr).add 0 = ⟨g, n, none⟩ := by simp [Addr.add]
      simp [Builtin.append_, run_underlying Try.underlying22, sizeOf, typeInfo, hinf, hz1, Builtin.lenOf, hroom, hf, hadd, storeCells, h00, run_store_int, stored, hv0, hfz]
    · rw [Nat.zero_add]
      by_cases hj : j = n
      · subst hj
        have : (ints (b ++ [x]))[j]? = some (x.toNat : Int) := by
          rw [ints_app, List.getElem?_append_right (by rw [ints_len]; omega), ints_len, hn]
          simp [ints]
        rw [this] at hz
        cases hz
        rw [World.cell?_setCell_same _ _ _ hv0]
      · rw [World.cell?_setCell_other _ _ _ _ (by simp only [ne_eq, Addr.mk.injEq]; omega), hm.cell]
        have hlt := (List.getElem?_eq_some_iff.1 hz).1
        rw [ints_len, hl1] at hlt
        rw [ints_app, List.getElem?_append_left (by rw [ints_len]; omega)] at hz
        have hbj : j < b.length := by omega
        rw [hC j b[j] (List.getElem?_eq_getElem hbj)]
        simp [ints, hbj] at hz
        simp [hz]
  · have hcn : cap = n := by omega
    subst hcn
    have holds : ∀ (j : Nat) (v : Value), (b.map fun y : UInt8 => Value.int .u8 (y.toNat : Int))[j]? = some v → W.cell? ((⟨g, 0, none⟩ : Addr).add j) = some v := by
      intro j v hv
      have hadd : (⟨g, 0, none⟩ : Addr).add j = ⟨g, j, none⟩ := by unfold Addr.add; split <;> simp_all
      rw [List.getElem?_map] at hv
      cases hb : b[j]? with
      | none => rw [hb] at hv; cases hv
      | some y =>
        rw [hb] at hv
        rw [hadd, hm.cell, hC j y hb]
        simpa using hv
    have hr := run_append_grow (P := Try.prog) W 22 22 5 i0 (.int .u8 0) Try.underlying22 hinf hz0 ⟨g, 0, none⟩ cap cap (b.map fun y : UInt8 => Value.int .u8 (y.toNat : Int)) (by rw [hz1]; simp [hn]) holds a1 1 c1 [Value.int .u8 (x.toNat : Int)] (by rw [hz1]; rfl) hnews (by omega) (by omega) (by
      rw [hz2, Nat.mul_one]
      have := growslice_fits (need := cap + 1) (old := cap) (bytes := 1) (by omega) (by omega)
      simpa using this)
    have hge := grownCap_ge W (cap + 1) cap 5
    have hcm2 := grownCap_le_maxLen W (cap + 1) cap 5 (by unfold maxLen; omega)
    generalize grownCap W (cap + 1) cap 5 = c2 at hr hge hcm2
    refine ⟨_, _, _, hr, ⟨by rw [ints_len, hl1], hge, fun e => (by cases e), hcm2, ints_rng _, fun _ => ⟨W.heap.size, 0, rfl, by simp, fun j z hz => ?_⟩⟩, ((Keep.refl W.heap.size (fun k => k = g) W).drew).alloc (by simp) _⟩
    rw [Nat.zero_add]
    have hN := lit_cell W.drew
    show (W.drew.alloc _).cell? ⟨W.drew.heap.size, j, none⟩ = _
    rw [hN]
    have hlt := (List.getElem?_eq_some_iff.1 hz).1
    rw [ints_len, hl1] at hlt
    rw [Array.getElem?_append_left (by simp; omega)]
    have e : ((b.map fun y : UInt8 => Value.int .u8 (y.toNat : Int)).toArray ++ [Value.int .u8 (x.toNat : Int)].toArray) = ((ints (b ++ [x])).map (Value.int .u8)).toArray := by
      simp [ints, Function.comp_def]
    rw [e]
    simp [hz]

section
variable {P : Program} {w w' : World} {ops : Array Oper} {rest : List Oper} {o : Oper} {a : Act} {Q : Exit → Act → World → Prop} {v u v' : Value}
theorem step_append_eq {K : Act → World → Prop} {E : Prop} (hg : o.guard = none) (s x : Operand) (t tn : TypeId)
    (hop : o.op = Op.call { callee := Callee.builtin Builtin.append, args := #[s, x], argTypes := #[t, tn] }) (hty : o.type = t) (hs : a.eval s = v) (hx : a.eval x = u)
    (hrun : (Builtin.append_ #[t, tn] t #[v, u]).run P w = .ok v' w') (h : K (a.put o.dst v') w') : if Region.wanted o (yielded ops a.tmps) = true then Oper.wp P o a w K Q else E := by
  have hw : Region.wanted o (yielded ops a.tmps) = true := by simp [Region.wanted, hg]
  rw [if_pos hw]
  unfold Oper.wp
  simp [execOp, hop, hty, resolve, invoke, builtin, hs, hx, hrun, Result.andThen]
  exact h
end

/-- a call with three arguments, at a step of a region that draws its order -/
theorem step_call3 {P : Program} {w : World} {ops : Array Oper} {o : Oper} {a : Act} {Q : Exit → Act → World → Prop} {K : Act → World → Prop} {E : Prop} {f : FuncId} {x y z : Value} {ts : Array TypeId} {R : Ending → World → Prop} (hg : o.guard = none) (sx sy sz : Operand)
    (hop : o.op = Op.call { callee := Callee.value (Operand.func f), args := #[sx, sy, sz], argTypes := ts }) (hx : a.eval sx = x) (hy : a.eval sy = y) (hz : a.eval sz = z)
    (hent : ∀ args W, (callFunc f args).run P W = .ok (.enter f args) W) (hc : Calls P f #[x, y, z] w R) (hr : ∀ e w', R e w' → ∃ v, e = .returned v ∧ K (a.put o.dst v) w') : if Region.wanted o (yielded ops a.tmps) = true then Oper.wp P o a w K Q else E := by
  have hw : Region.wanted o (yielded ops a.tmps) = true := by simp [Region.wanted, hg]
  rw [if_pos hw]
  unfold Oper.wp
  have hev : a.eval (Operand.func f) = .func (.func f) #[] #[] := rfl
  have hrun : (execOp a.eval o).run P w = .ok (.enter f #[x, y, z]) w := by
    simp [execOp, hop, resolve, Deferred.ofValue, invoke, hev, hx, hy, hz, hent]
  rw [hrun]
  refine hc.mono ?_
  intro e w' he
  obtain ⟨v, rfl, hk⟩ := hr e w' he
  exact hk
/-- the two halves of a key -/
abbrev hv (k0 k1 : W64) : Value := .agg #[.int .u64 (num k0), .int .u64 (num k1)]

def NumTo (x : W64) (w : World) (e : Ending) (w' : World) : Prop := e = .returned (.int .u64 (num x)) ∧ Below w.heap.size w w'

set_option maxHeartbeats 8000000 in
set_option maxRecDepth 100000 in
theorem draw_any (k0 k1 : W64) (b : Str) (i : UInt8) (hb : b.length ≤ 100000) (w : World) : Calls Try.prog 24 #[hv k0 k1, .string (S b), .int .u8 (i.toNat : Int)] w (NumTo (hsum k0 k1 (b ++ [i])) w) := by
  obtain ⟨w0, hw0⟩ : ∃ w0, w0 = w.alloc (.cells #[.int .u64 (num k0), .int .u64 (num k1)] 49) := ⟨_, rfl⟩
  have hb0 : Below w.heap.size w w0 := by rw [hw0]; exact (Below.refl _ w).alloc (Nat.le_refl _) _
  have hl0 : Lies w0 w.heap.size 49 #[.int .u64 (num k0), .int .u64 (num k1)] := by rw [hw0]; exact Lies.new _ _ _
  -- the two orders: the text's bytes first, or the literal
  have hlt0 := hl0.lt
  obtain ⟨ca, wa, KA⟩ := conv_of w0.drew b hb
  have bA : Below w0.heap.size w0 wa := (Below.refl _ w0).drew.trans KA.below
  obtain ⟨Ca, la, sa, na, ma, fa⟩ := KA.ex
  have bA2 : Below w0.heap.size w0 (wa.alloc (.cells #[.int .u8 (i.toNat : Int)] 5)) := bA.alloc bA.size _
  have la2 : LiesM (wa.alloc (.cells #[.int .u8 (i.toNat : Int)] 5)) w0.heap.size Ca := la.below ((Below.refl wa.heap.size wa).alloc (Nat.le_refl _) _) la.lt
  obtain ⟨A1, c1, w1, run1, sp1, kp1⟩ := app_byte la2 fa rfl sa na ma hb i (a1 := ⟨wa.heap.size, 0, none⟩) (c1 := 1) (by rw [lit_cell]; rfl) rfl
  obtain ⟨cb, wb, KB⟩ := conv_of (w0.alloc (.cells #[.int .u8 (i.toNat : Int)] 5)).drew b hb
  have bB0 : Below w0.heap.size w0 (w0.alloc (.cells #[.int .u8 (i.toNat : Int)] 5)).drew := ((Below.refl _ w0).alloc (Nat.le_refl _) _).drew
  have bB : Below w0.heap.size w0 wb := bB0.trans (KB.below.mono (by simp))
  obtain ⟨Cb, lb, sb, nb, mb, fb⟩ := KB.ex
  have cB : wb.cell? ⟨w0.heap.size, 0, none⟩ = some (.int .u8 (i.toNat : Int)) := by
    rw [World.cell?_of_block (show wb.heap[w0.heap.size]? = _ from KB.below.block w0.heap.size (by simp))]
    exact lit_cell w0 _ _ _ 0
  obtain ⟨A2, c2, w2, run2, sp2, kp2⟩ := app_byte lb fb rfl sb nb mb hb i (a1 := ⟨w0.heap.size, 0, none⟩) (c1 := 1) cB rfl
  have rA := KA.run
  have rB := KB.run
  have b1 : Below w0.heap.size w0 w1 := bA2.trans (kp1.below (by have := bA2.size; omega) (fun k hk e => by omega))
  have b2 : Below w0.heap.size w0 w2 := bB.trans (kp2.below (by have := bB.size; omega) (fun k hk e => by simp at e; omega))
  have HR1 := Bx.mk run1
  have HR2 := Bx.mk run2
  have S1 := Bx.mk (sum_any k0 k1 sp1 (fun _ h => h))
  have S2 := Bx.mk (sum_any k0 k1 sp2 (fun _ h => h))
  have hcells : ∀ W, Below w0.heap.size w0 W → W.cell? ⟨w.heap.size, 0, none⟩ = some (.int .u64 (num k0)) ∧ W.cell? ⟨w.heap.size, 1, none⟩ = some (.int .u64 (num k1)) := fun W hW => ⟨cell_kept (hl0.cell 0) hW, cell_kept (hl0.cell 1) hW⟩
  have HC := Bx.mk hcells
  have HL := Bx.mk hl0
  have B1 := Bx.mk b1
  have B2 := Bx.mk b2
  have BA := Bx.mk bA
  have BA2 := Bx.mk bA2
  have BB := Bx.mk bB
  have BB0 := Bx.mk bB0
  clear la la2 sa na ma fa run1 sp1 kp1 lb sb nb mb fb cB run2 sp2 kp2 hcells b1 b2 bA bA2 bB bB0 KA KB hlt0
  have HB := Bx.mk hb0
  clear hl0 hb0
  go_enter Try.func24, Try.ntmps24
  go_upto_region 1 with fail
  rw [← hw0]
  clear hw0
  have b0 : Below w0.heap.size w0 w0.drew := (Below.refl _ w0).drew
  obtain ⟨g0, g1⟩ := HC.out _ b0
  obtain ⟨ga0, ga1⟩ := HC.out _ BA.out
  obtain ⟨gb0, gb1⟩ := HC.out _ BB.out
  obtain ⟨ge0, ge1⟩ := HC.out _ BA2.out
  obtain ⟨gf0, gf1⟩ := HC.out _ ((Below.refl w0.heap.size w0).alloc (Nat.le_refl _) (.cells #[.int .u8 (i.toNat : Int)] 5))
  obtain ⟨gc0, gc1⟩ := HC.out _ B1.out
  obtain ⟨gd0, gd1⟩ := HC.out _ B2.out
  go_region_law
    (first
      | (refine step_append_eq rfl _ _ 22 22 rfl rfl (by simp [Act.eval]) (by simp [Act.eval]) HR1.out ?_)
      | (refine step_append_eq rfl _ _ 22 22 rfl rfl (by simp [Act.eval]) (by simp [Act.eval]) HR2.out ?_)
      | (refine step_call3 rfl _ _ _ rfl (by simp [Act.eval]) (by simp [Act.eval]) (by simp [Act.eval]) (enters_of Try.func29 rfl rfl) S1.out ?_; rintro e w3 ⟨rfl, hb3⟩; refine ⟨_, rfl, ?_⟩; have hbz := HB.out.trans ((B1.out.trans (hb3.mono B1.out.size)).mono HB.out.size))
      | (refine step_call3 rfl _ _ _ rfl (by simp [Act.eval]) (by simp [Act.eval]) (by simp [Act.eval]) (enters_of Try.func29 rfl rfl) S2.out ?_; rintro e w3 ⟨rfl, hb3⟩; refine ⟨_, rfl, ?_⟩; have hbz := HB.out.trans ((B2.out.trans (hb3.mono B2.out.size)).mono HB.out.size)))
  all_goals
    go_wp2
    go_ret
    exact ⟨rfl, hbz⟩
end Go.Proofs.Ytimlcjdpnhhjdaa.rk
