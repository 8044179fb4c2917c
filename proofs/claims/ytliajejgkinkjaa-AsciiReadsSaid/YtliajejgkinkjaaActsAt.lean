/-
  Given for the seat's laws: a list of acts as it lies in memory. No condition.
-/
import Derived.Test.YtliajejgkinkjaaMem
namespace Go.Proofs.Ytliajejgkinkjaa.model
open Go.RowKit mem
set_option linter.unusedVariables false

/-- an act as it lies in memory: its kind, its number -/
structure ActD where
  kind : Int
  n : Int

/-- the acts lie one behind the other, two cells each -/
def ActsAt (w : World) (A : Option Addr) (acts : List ActD) : Prop :=
  0 < acts.length → ∃ b off, A = some ⟨b, off, none⟩ ∧ b < w.heap.size ∧ ∀ (i : Nat) (x : ActD), acts[i]? = some x →
    w.cell? ⟨b, off + i * 2, none⟩ = some (.int .u8 x.kind) ∧ w.cell? ⟨b, off + i * 2 + 1, none⟩ = some (.int .i64 x.n)

def ActsOk (acts : List ActD) : Prop := ∀ (i : Nat) (x : ActD), acts[i]? = some x → 0 ≤ x.kind ∧ x.kind ≤ 255

theorem ActsAt.below {w w' : World} {A : Option Addr} {acts : List ActD} (h : ActsAt w A acts) (hb : Below w.heap.size w w') : ActsAt w' A acts := fun hp => by
  obtain ⟨b, off, e, hl, hc⟩ := h hp
  exact ⟨b, off, e, Nat.lt_of_lt_of_le hl hb.size, fun i x hx => ⟨(World.cell?_of_block (hb.block b hl)).trans (hc i x hx).1, (World.cell?_of_block (hb.block b hl)).trans (hc i x hx).2⟩⟩

end Go.Proofs.Ytliajejgkinkjaa.model
