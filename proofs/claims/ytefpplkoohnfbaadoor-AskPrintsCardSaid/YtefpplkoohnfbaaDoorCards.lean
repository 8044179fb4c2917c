/-
  DERIVED. GIVEN WITH THE SEED: THE CARDS: each row of YtefpplkoohnfbaaDoorRows.lean that lists a variable, with what it lists TIED to the program's text (the seventh form; the later family's looks); each row that meets fmt, with fmt's text TOLD by the authors' own Lean function (tested against real Go, not proved from fmt's source: count such statements apart). THE CARD IS WHAT COUNTS. Prove the row's statement (the work); the ties are given (YtefpplkoohnfbaaDoorTie.lean); close each card by the builder's one call (the guide's Derived/Test/ToyasCard.lean, 'card_holds'). Laid BY PROGRAM, IN A SANDBOX (cutbox-door.mjs). By AI agents, Wed Nov 11 2026. No macro, syntax, notation, axiom, sorry.
-/
import Derived.Test.YtefpplkoohnfbaaDoorRows
import GoSem.ClaimSeven
namespace Go.Proofs.YtefpplkoohnfbaaDoor
namespace Rows

/-- THE TIED CARD OF 'postilionlaw14.AskPrints'. -/
def askPrintsCard : Claim7 := { stood := { row := askPrintsRow, standIns := [], harness := (true, "f3f3af7067e0357e374d08a344dd452e80c85927970018e6fcb7e3551581a12e"), looks := false }, kinds := [], alts := [], laidByText := true, laidKinds := [.data, .data, .pinned], laidTests := true, laidLooks := .later }
def AskPrintsCardSaid : Prop := Claim7.holds Tryd.pinned (.plain (OpenSpec.ofChange askPrintsSpec)) askPrintsCard

/-- THE SECOND FORM's CARD OF 'postilionlaw14.AskPrints'. -/
def askPrintsUptoCard : Claim7 := { stood := { row := askPrintsUptoRow, standIns := [], harness := (true, "f3f3af7067e0357e374d08a344dd452e80c85927970018e6fcb7e3551581a12e"), looks := false }, kinds := [], alts := [], laidByText := true, laidKinds := [.data, .data, .pinned], laidTests := true, laidLooks := .later }
def AskPrintsUptoCardSaid : Prop := Claim7.holds Tryd.pinned (.plain (OpenSpec.upto askPrintsSpec)) askPrintsUptoCard
end Rows
end Go.Proofs.YtefpplkoohnfbaaDoor
