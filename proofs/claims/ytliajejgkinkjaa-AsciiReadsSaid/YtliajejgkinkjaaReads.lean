/-
  Given for the seat's laws: what a reader's call leaves. No condition but those of the theorems.
-/
import Derived.Test.YtliajejgkinkjaaNext
namespace Go.Proofs.Ytliajejgkinkjaa.reader
open Go.RowKit mem
set_option linter.unusedVariables false

/-- what a reader's call leaves -/
structure Left (w w' : World) (B r : Nat) (A : Option Addr) (n c : Nat) (xs : List Int) (k : Nat) : Prop where
  has : Has w' B r A n c xs k
  keep : Keep w.heap.size (fun g => g = r) w w'

def Reads (v : Value) (w : World) (B r : Nat) (A : Option Addr) (n c : Nat) (xs : List Int) (k : Nat) (e : Ending) (w' : World) : Prop := e = .returned v ∧ Left w w' B r A n c xs k

section
variable {w w1 : World} {B r : Nat} {A : Option Addr} {n c : Nat} {xs : List Int} {k : Nat}
theorem Left.stay (h : Has w B r A n c xs k) (hb : Below w.heap.size w w1) : Left w w1 B r A n c xs k := ⟨h.below hb (Nat.le_refl _), Keep.of_below hb _⟩
theorem Left.moved (h : Has w B r A n c xs k) (hb : Below w.heap.size w w1) (j : Nat) (hj : j ≤ n) : Left w (w1.setCell ⟨r, 1, none⟩ (.int .i64 (j : Int))) B r A n c xs j :=
  ⟨(h.below hb (Nat.le_refl _)).move j hj, (Keep.of_below hb (fun g => g = r)).setCell (p := ⟨r, 1, none⟩) (.inr rfl) _⟩
end

/-- the byte at place i of a slice of bytes -/
theorem Src.cell {w : World} {ok : Nat → Prop} {A : Option Addr} {l c : Nat} {bs : List Int} (h : Src w ok A l c bs) {i : Nat} (hi : i < l) : ∃ g off x, A = some ⟨g, off, none⟩ ∧ ok g ∧ bs[i]? = some x ∧ w.cell? ⟨g, off + i, none⟩ = some (.int .u8 x) := by
  obtain ⟨g, off, e, ho, hc⟩ := h.lies (by rw [h.len]; omega)
  have hi' : i < bs.length := by rw [h.len]; exact hi
  exact ⟨g, off, bs[i], e, ho, List.getElem?_eq_getElem hi', hc i _ (List.getElem?_eq_getElem hi')⟩

end Go.Proofs.Ytliajejgkinkjaa.reader
