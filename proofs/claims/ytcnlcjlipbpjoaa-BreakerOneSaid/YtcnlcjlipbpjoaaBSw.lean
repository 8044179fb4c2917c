/-
  Given for the seat's laws: the switch of the law BreakerOne, as the program has it, and what holds ahead of it and behind it. No condition.
-/
import Derived.Test.YtcnlcjlipbpjoaaBAwake
import Derived.Test.YtcnlcjlipbpjoaaBPlain
import Derived.Test.YtcnlcjlipbpjoaaBIn
import Derived.Deep.RegionHeld3
import Derived.Deep.CutBlock
import Derived.Deep.DeepCutAuto
import Derived.Deep.LoopGhost
namespace Go.Proofs.Ytcnlcjlipbpjoaa.bk
open Go.RowKit mem
open Go.Sort (grow)
set_option linter.unusedVariables false

noncomputable def inn : Code → Code
  | .seq a _ => a
  | .block _ c => c
  | .loop c => c
  | c => c
noncomputable def nxt : Code → Code
  | .seq _ b => b
  | c => c
noncomputable def bod : Option Code → Code
  | some c => c
  | none => .skip
noncomputable def loopc : Code := inn (inn (nxt (inn (nxt (nxt (nxt (nxt (nxt (bod Try.f5.body)))))))))
noncomputable def blk : Code := nxt (inn (nxt (nxt (nxt (inn (inn (nxt loopc)))))))
/-- an act that lies in a block of the call's own -/
structure LaysA (w : World) (g : Nat) (tr : Bool) : Prop where
  at_ : ∀ n os, (grow (w.drewN n) os).cell? ⟨g, 2, none⟩ = some (.bool tr)
structure LaysC (w : World) (g : Nat) (kd : Int) (tr : Bool) : Prop where
  c0 : w.cell? ⟨g, 0, none⟩ = some (.int .u8 kd)
  c2 : w.cell? ⟨g, 2, none⟩ = some (.bool tr)
theorem LaysC.grew {w w' : World} {g : Nat} {kd : Int} {tr : Bool} (h : LaysC w g kd tr) (k : Grew w w') : LaysC w' g kd tr := ⟨k.cell h.c0, k.cell h.c2⟩
theorem LaysC.put {w : World} {g g' : Nat} {kd : Int} {tr : Bool} (h : LaysC w g kd tr) (hne : g' ≠ g) (b : Bk) : LaysC (bk.put w g' b) g kd tr :=
  ⟨cell_far (cell_far (cell_far (cell_far h.c0 (.inl hne)) (.inl hne)) (.inl hne)) (.inl hne), cell_far (cell_far (cell_far (cell_far h.c2 (.inl hne)) (.inl hne)) (.inl hne)) (.inl hne)⟩
theorem LaysC.g {w : World} {g : Nat} {kd : Int} {tr : Bool} (h : LaysC w g kd tr) : LaysA w g tr := ⟨fun n os => (grew_grow w n os).cell h.c2⟩
theorem laysC_new (w : World) (kd t : Int) (tr : Bool) : LaysC (w.alloc (.cells #[.int .u8 kd, .int .u16 t, .bool tr] 45)) w.heap.size kd tr := ⟨by rw [lit_cell]; rfl, by rw [lit_cell]; rfl⟩
end Go.Proofs.Ytcnlcjlipbpjoaa.bk
