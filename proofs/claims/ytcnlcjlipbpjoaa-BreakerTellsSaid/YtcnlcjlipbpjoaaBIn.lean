/-
  Given for the seat's laws: acts and bytes that came in, as they lie. No condition.
-/
import Derived.Test.YtcnlcjlipbpjoaaBMem
namespace Go.Proofs.Ytcnlcjlipbpjoaa.bk
open Go.RowKit mem
set_option linter.unusedVariables false

/-- an act -/
structure Ac where
  kd : Nat
  tk : Nat
  tr : Bool
/-- acts as they lie -/
structure ActsAt (w : World) (A : Option Addr) (l : List Ac) : Prop where
  at_ : ∀ (j : Nat) (x : Ac), l[j]? = some x → ∃ g off, A = some ⟨g, off, none⟩ ∧ w.cell? ⟨g, off + j * 3, none⟩ = some (.int .u8 (x.kd : Int)) ∧ w.cell? ⟨g, off + j * 3 + 1, none⟩ = some (.int .u16 (x.tk : Int)) ∧ w.cell? ⟨g, off + j * 3 + 2, none⟩ = some (.bool x.tr)
structure ActsOk (l : List Ac) : Prop where
  ok : ∀ x ∈ l, x.kd < 256 ∧ x.tk < 65536
theorem ActsAt.grew {w w' : World} {A : Option Addr} {l : List Ac} (h : ActsAt w A l) (k : Grew w w') : ActsAt w' A l := ⟨fun j x hx => by
  obtain ⟨g, off, e, h0, h1, h2⟩ := h.at_ j x hx
  exact ⟨g, off, e, k.cell h0, k.cell h1, k.cell h2⟩⟩
/-- bytes as they lie -/
structure BytesAt (w : World) (A : Option Addr) (l : List Nat) : Prop where
  at_ : ∀ (j : Nat) (x : Nat), l[j]? = some x → ∃ g off, A = some ⟨g, off, none⟩ ∧ w.cell? ⟨g, off + j, none⟩ = some (.int .u8 (x : Int))
structure BytesOk (l : List Nat) : Prop where
  ok : ∀ x ∈ l, x < 256
theorem BytesAt.grew {w w' : World} {A : Option Addr} {l : List Nat} (h : BytesAt w A l) (k : Grew w w') : BytesAt w' A l := ⟨fun j x hx => by
  obtain ⟨g, off, e, h0⟩ := h.at_ j x hx
  exact ⟨g, off, e, k.cell h0⟩⟩
end Go.Proofs.Ytcnlcjlipbpjoaa.bk
