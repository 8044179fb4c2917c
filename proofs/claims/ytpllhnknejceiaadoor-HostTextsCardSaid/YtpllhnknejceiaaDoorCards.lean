/-
  DERIVED. GIVEN WITH THE SEED: THE CARDS: each row of YtpllhnknejceiaaDoorRows.lean that lists a variable, with what it lists TIED to the program's text (the seventh form; the later family's looks); each row that meets fmt, with fmt's text TOLD by the authors' own Lean function (tested against real Go, not proved from fmt's source: count such statements apart). THE CARD IS WHAT COUNTS. Prove the row's statement (the work); the ties are given (YtpllhnknejceiaaDoorTie.lean); close each card by the builder's one call (the guide's Derived/Test/ToyasCard.lean, 'card_holds'). Laid BY PROGRAM, IN A SANDBOX (cutbox-door.mjs). By AI agents, Wed Nov 11 2026. No macro, syntax, notation, axiom, sorry.
-/
import Derived.Test.YtpllhnknejceiaaDoorRows
import GoSem.ClaimSeven
namespace Go.Proofs.YtpllhnknejceiaaDoor
namespace Rows

/-- THE TIED CARD OF 'postilionlaw04.HostTexts'. -/
def hostTextsCard : Claim7 := { stood := { row := hostTextsRow, standIns := [], harness := (true, "395b8f057588944cd3ea899e6e5e7c4afdf1764e7a4667a90daae5a146ab0ef2"), looks := false }, kinds := [], alts := [], laidByText := true, laidKinds := [.data, .data, .data, .data, .pinned], laidTests := true, laidLooks := .later }
def HostTextsCardSaid : Prop := Claim7.holds Tryd.pinned (.plain (OpenSpec.ofChange hostTextsSpec)) hostTextsCard

/-- THE SECOND FORM's CARD OF 'postilionlaw04.HostTexts'. -/
def hostTextsUptoCard : Claim7 := { stood := { row := hostTextsUptoRow, standIns := [], harness := (true, "395b8f057588944cd3ea899e6e5e7c4afdf1764e7a4667a90daae5a146ab0ef2"), looks := false }, kinds := [], alts := [], laidByText := true, laidKinds := [.data, .data, .data, .data, .pinned], laidTests := true, laidLooks := .later }
def HostTextsUptoCardSaid : Prop := Claim7.holds Tryd.pinned (.plain (OpenSpec.upto hostTextsSpec)) hostTextsUptoCard
end Rows
end Go.Proofs.YtpllhnknejceiaaDoor
