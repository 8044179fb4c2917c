/-
  DERIVED. GIVEN WITH THE SEED: THE CARDS: each row of YtefpplkoohnfbabGreatDoorRows.lean that lists a variable, with what it lists TIED to the program's text (the seventh form; the later family's looks); each row that meets fmt, with fmt's text TOLD by the authors' own Lean function (tested against real Go, not proved from fmt's source: count such statements apart). THE CARD IS WHAT COUNTS. Prove the row's statement (the work); the ties are given (YtefpplkoohnfbabGreatDoorTie.lean); close each card by the builder's one call (the guide's Derived/Test/ToyasCard.lean, 'card_holds'). Laid BY PROGRAM, IN A SANDBOX (cutbox-door.mjs). By AI agents, Wed Nov 11 2026. No macro, syntax, notation, axiom, sorry.
-/
import Derived.Test.YtefpplkoohnfbabGreatDoorRows
import GoSem.ClaimSeven
namespace Go.Proofs.YtefpplkoohnfbabGreatDoor
namespace Rows

/-- THE TIED CARD OF 'postilionlaw14.AskSmall'. -/
def askSmallCard : Claim7 := { stood := { row := askSmallRow, standIns := [], harness := (true, "9c11c8b30ba59cec2786daf6d2b8e9510419be771df1ef5e687689dabb00104b"), looks := true }, kinds := [], alts := [], laidByText := true, laidKinds := [.data, .data, .data, .data, .sentinel, .sentinel, .data, .pinned], laidTests := true, laidLooks := .later }
def AskSmallCardSaid : Prop := Claim7.holds Tryz.pinned (.plain (OpenSpec.ofChange askSmallSpec)) askSmallCard

/-- THE SECOND FORM's CARD OF 'postilionlaw14.AskSmall'. -/
def askSmallUptoCard : Claim7 := { stood := { row := askSmallUptoRow, standIns := [], harness := (true, "9c11c8b30ba59cec2786daf6d2b8e9510419be771df1ef5e687689dabb00104b"), looks := true }, kinds := [], alts := [], laidByText := true, laidKinds := [.data, .data, .data, .data, .sentinel, .sentinel, .data, .pinned], laidTests := true, laidLooks := .later }
def AskSmallUptoCardSaid : Prop := Claim7.holds Tryz.pinned (.plain (OpenSpec.upto askSmallSpec)) askSmallUptoCard
end Rows
end Go.Proofs.YtefpplkoohnfbabGreatDoor
