/-
  DERIVED. GIVEN WITH THE SEED: THE CARDS: each row of YtpllhnknejceiaaGreatDoorRows.lean that lists a variable, with what it lists TIED to the program's text (the seventh form; the later family's looks); each row that meets fmt, with fmt's text TOLD by the authors' own Lean function (tested against real Go, not proved from fmt's source: count such statements apart). THE CARD IS WHAT COUNTS. Prove the row's statement (the work); the ties are given (YtpllhnknejceiaaGreatDoorTie.lean); close each card by the builder's one call (the guide's Derived/Test/ToyasCard.lean, 'card_holds'). Laid BY PROGRAM, IN A SANDBOX (cutbox-door.mjs). By AI agents, Wed Nov 11 2026. No macro, syntax, notation, axiom, sorry.
-/
import Derived.Test.YtpllhnknejceiaaGreatDoorRows
import GoSem.ClaimSeven
namespace Go.Proofs.YtpllhnknejceiaaGreatDoor
namespace Rows

/-- THE TIED CARD OF 'postilionlaw04.HostParses'. -/
def hostParsesCard : Claim7 := { stood := { row := hostParsesRow, standIns := [], harness := (true, "1922ce4b9d7774d4b1f36f31987bdff1bfa0bbbb020c15b376afdfe1bc374c46"), looks := true }, kinds := [], alts := [], laidByText := true, laidKinds := [.data, .data, .data, .data, .sentinel, .sentinel, .pinned], laidTests := true, laidLooks := .later }
def HostParsesCardSaid : Prop := Claim7.holds Tryz.pinned (.plain (OpenSpec.ofChange hostParsesSpec)) hostParsesCard

/-- THE TIED CARD OF 'postilionlaw04.HostBack'. -/
def hostBackCard : Claim7 := { stood := { row := hostBackRow, standIns := [], harness := (true, "1922ce4b9d7774d4b1f36f31987bdff1bfa0bbbb020c15b376afdfe1bc374c46"), looks := true }, kinds := [], alts := [], laidByText := true, laidKinds := [.data, .data, .data, .data, .sentinel, .sentinel, .pinned], laidTests := true, laidLooks := .later }
def HostBackCardSaid : Prop := Claim7.holds Tryz.pinned (.plain (OpenSpec.ofChange hostBackSpec)) hostBackCard

/-- THE TIED CARD OF 'postilionlaw04.HostOne'. -/
def hostOneCard : Claim7 := { stood := { row := hostOneRow, standIns := [], harness := (true, "1922ce4b9d7774d4b1f36f31987bdff1bfa0bbbb020c15b376afdfe1bc374c46"), looks := true }, kinds := [], alts := [], laidByText := true, laidKinds := [.data, .data, .data, .data, .sentinel, .sentinel, .pinned], laidTests := true, laidLooks := .later }
def HostOneCardSaid : Prop := Claim7.holds Tryz.pinned (.plain (OpenSpec.ofChange hostOneSpec)) hostOneCard

/-- THE TIED CARD OF 'postilionlaw04.HostGreat'. -/
def hostGreatCard : Claim7 := { stood := { row := hostGreatRow, standIns := [], harness := (true, "1922ce4b9d7774d4b1f36f31987bdff1bfa0bbbb020c15b376afdfe1bc374c46"), looks := true }, kinds := [], alts := [], laidByText := true, laidKinds := [.data, .data, .data, .data, .sentinel, .sentinel, .pinned], laidTests := true, laidLooks := .later }
def HostGreatCardSaid : Prop := Claim7.holds Tryz.pinned (.plain (OpenSpec.ofChange hostGreatSpec)) hostGreatCard

/-- THE TIED CARD OF 'postilionlaw04.HostShort'. -/
def hostShortCard : Claim7 := { stood := { row := hostShortRow, standIns := [], harness := (true, "1922ce4b9d7774d4b1f36f31987bdff1bfa0bbbb020c15b376afdfe1bc374c46"), looks := true }, kinds := [], alts := [], laidByText := true, laidKinds := [.data, .data, .data, .data, .sentinel, .sentinel, .pinned], laidTests := true, laidLooks := .later }
def HostShortCardSaid : Prop := Claim7.holds Tryz.pinned (.plain (OpenSpec.ofChange hostShortSpec)) hostShortCard

/-- THE SECOND FORM's CARD OF 'postilionlaw04.HostParses'. -/
def hostParsesUptoCard : Claim7 := { stood := { row := hostParsesUptoRow, standIns := [], harness := (true, "1922ce4b9d7774d4b1f36f31987bdff1bfa0bbbb020c15b376afdfe1bc374c46"), looks := true }, kinds := [], alts := [], laidByText := true, laidKinds := [.data, .data, .data, .data, .sentinel, .sentinel, .pinned], laidTests := true, laidLooks := .later }
def HostParsesUptoCardSaid : Prop := Claim7.holds Tryz.pinned (.plain (OpenSpec.upto hostParsesSpec)) hostParsesUptoCard

/-- THE SECOND FORM's CARD OF 'postilionlaw04.HostBack'. -/
def hostBackUptoCard : Claim7 := { stood := { row := hostBackUptoRow, standIns := [], harness := (true, "1922ce4b9d7774d4b1f36f31987bdff1bfa0bbbb020c15b376afdfe1bc374c46"), looks := true }, kinds := [], alts := [], laidByText := true, laidKinds := [.data, .data, .data, .data, .sentinel, .sentinel, .pinned], laidTests := true, laidLooks := .later }
def HostBackUptoCardSaid : Prop := Claim7.holds Tryz.pinned (.plain (OpenSpec.upto hostBackSpec)) hostBackUptoCard

/-- THE SECOND FORM's CARD OF 'postilionlaw04.HostOne'. -/
def hostOneUptoCard : Claim7 := { stood := { row := hostOneUptoRow, standIns := [], harness := (true, "1922ce4b9d7774d4b1f36f31987bdff1bfa0bbbb020c15b376afdfe1bc374c46"), looks := true }, kinds := [], alts := [], laidByText := true, laidKinds := [.data, .data, .data, .data, .sentinel, .sentinel, .pinned], laidTests := true, laidLooks := .later }
def HostOneUptoCardSaid : Prop := Claim7.holds Tryz.pinned (.plain (OpenSpec.upto hostOneSpec)) hostOneUptoCard

/-- THE SECOND FORM's CARD OF 'postilionlaw04.HostGreat'. -/
def hostGreatUptoCard : Claim7 := { stood := { row := hostGreatUptoRow, standIns := [], harness := (true, "1922ce4b9d7774d4b1f36f31987bdff1bfa0bbbb020c15b376afdfe1bc374c46"), looks := true }, kinds := [], alts := [], laidByText := true, laidKinds := [.data, .data, .data, .data, .sentinel, .sentinel, .pinned], laidTests := true, laidLooks := .later }
def HostGreatUptoCardSaid : Prop := Claim7.holds Tryz.pinned (.plain (OpenSpec.upto hostGreatSpec)) hostGreatUptoCard

/-- THE SECOND FORM's CARD OF 'postilionlaw04.HostShort'. -/
def hostShortUptoCard : Claim7 := { stood := { row := hostShortUptoRow, standIns := [], harness := (true, "1922ce4b9d7774d4b1f36f31987bdff1bfa0bbbb020c15b376afdfe1bc374c46"), looks := true }, kinds := [], alts := [], laidByText := true, laidKinds := [.data, .data, .data, .data, .sentinel, .sentinel, .pinned], laidTests := true, laidLooks := .later }
def HostShortUptoCardSaid : Prop := Claim7.holds Tryz.pinned (.plain (OpenSpec.upto hostShortSpec)) hostShortUptoCard
end Rows
end Go.Proofs.YtpllhnknejceiaaGreatDoor
