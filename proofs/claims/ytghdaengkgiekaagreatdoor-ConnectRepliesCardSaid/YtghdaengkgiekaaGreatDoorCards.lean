/-
  DERIVED. GIVEN WITH THE SEED: THE CARDS: each row of YtghdaengkgiekaaGreatDoorRows.lean that lists a variable, with what it lists TIED to the program's text (the seventh form; the later family's looks); each row that meets fmt, with fmt's text TOLD by the authors' own Lean function (tested against real Go, not proved from fmt's source: count such statements apart). THE CARD IS WHAT COUNTS. Prove the row's statement (the work); the ties are given (YtghdaengkgiekaaGreatDoorTie.lean); close each card by the builder's one call (the guide's Derived/Test/ToyasCard.lean, 'card_holds'). Laid BY PROGRAM, IN A SANDBOX (cutbox-door.mjs). By AI agents, Wed Nov 11 2026. No macro, syntax, notation, axiom, sorry.
-/
import Derived.Test.YtghdaengkgiekaaGreatDoorRows
import GoSem.ClaimSeven
namespace Go.Proofs.YtghdaengkgiekaaGreatDoor
namespace Rows

/-- THE TIED CARD OF 'postilionlaw16.ConnectPrints'. -/
def connectPrintsCard : Claim7 := { stood := { row := connectPrintsRow, standIns := [], harness := (true, "9d8aa5cd179d2f7fb098127edc51005480b6475901eb37f270843fba95d92567"), looks := true }, kinds := [], alts := [], laidByText := true, laidKinds := [.data, .data, .data, .data, .data, .pinned], laidTests := true, laidLooks := .later }
def ConnectPrintsCardSaid : Prop := Claim7.holds Tryz.pinned (.plain (OpenSpec.ofChange connectPrintsSpec)) connectPrintsCard

/-- THE TIED CARD OF 'postilionlaw16.ConnectBack'. -/
def connectBackCard : Claim7 := { stood := { row := connectBackRow, standIns := [], harness := (true, "9d8aa5cd179d2f7fb098127edc51005480b6475901eb37f270843fba95d92567"), looks := true }, kinds := [], alts := [], laidByText := true, laidKinds := [.data, .data, .data, .data, .sentinel, .sentinel, .pinned], laidTests := true, laidLooks := .later }
def ConnectBackCardSaid : Prop := Claim7.holds Tryz.pinned (.plain (OpenSpec.ofChange connectBackSpec)) connectBackCard

/-- THE TIED CARD OF 'postilionlaw16.ConnectOnce'. -/
def connectOnceCard : Claim7 := { stood := { row := connectOnceRow, standIns := [], harness := (true, "9d8aa5cd179d2f7fb098127edc51005480b6475901eb37f270843fba95d92567"), looks := true }, kinds := [], alts := [], laidByText := true, laidKinds := [.data, .data, .data, .data, .sentinel, .sentinel, .pinned], laidTests := true, laidLooks := .later }
def ConnectOnceCardSaid : Prop := Claim7.holds Tryz.pinned (.plain (OpenSpec.ofChange connectOnceSpec)) connectOnceCard

/-- THE TIED CARD OF 'postilionlaw16.ConnectReplies'. -/
def connectRepliesCard : Claim7 := { stood := { row := connectRepliesRow, standIns := [], harness := (true, "9d8aa5cd179d2f7fb098127edc51005480b6475901eb37f270843fba95d92567"), looks := true }, kinds := [], alts := [], laidByText := true, laidKinds := [.data, .data, .data, .data, .sentinel, .sentinel, .data, .pinned], laidTests := true, laidLooks := .later }
def ConnectRepliesCardSaid : Prop := Claim7.holds Tryz.pinned (.plain (OpenSpec.ofChange connectRepliesSpec)) connectRepliesCard

/-- THE TIED CARD OF 'postilionlaw16.ConnectFields'. -/
def connectFieldsCard : Claim7 := { stood := { row := connectFieldsRow, standIns := [], harness := (true, "9d8aa5cd179d2f7fb098127edc51005480b6475901eb37f270843fba95d92567"), looks := true }, kinds := [], alts := [], laidByText := true, laidKinds := [.data, .data, .data, .data, .sentinel, .sentinel, .pinned], laidTests := true, laidLooks := .later }
def ConnectFieldsCardSaid : Prop := Claim7.holds Tryz.pinned (.plain (OpenSpec.ofChange connectFieldsSpec)) connectFieldsCard

/-- THE TIED CARD OF 'postilionlaw16.ConnectMethod'. -/
def connectMethodCard : Claim7 := { stood := { row := connectMethodRow, standIns := [], harness := (true, "9d8aa5cd179d2f7fb098127edc51005480b6475901eb37f270843fba95d92567"), looks := true }, kinds := [], alts := [], laidByText := true, laidKinds := [.data, .data, .data, .data, .sentinel, .sentinel, .pinned], laidTests := true, laidLooks := .later }
def ConnectMethodCardSaid : Prop := Claim7.holds Tryz.pinned (.plain (OpenSpec.ofChange connectMethodSpec)) connectMethodCard

/-- THE SECOND FORM's CARD OF 'postilionlaw16.ConnectPrints'. -/
def connectPrintsUptoCard : Claim7 := { stood := { row := connectPrintsUptoRow, standIns := [], harness := (true, "9d8aa5cd179d2f7fb098127edc51005480b6475901eb37f270843fba95d92567"), looks := true }, kinds := [], alts := [], laidByText := true, laidKinds := [.data, .data, .data, .data, .data, .pinned], laidTests := true, laidLooks := .later }
def ConnectPrintsUptoCardSaid : Prop := Claim7.holds Tryz.pinned (.plain (OpenSpec.upto connectPrintsSpec)) connectPrintsUptoCard

/-- THE SECOND FORM's CARD OF 'postilionlaw16.ConnectBack'. -/
def connectBackUptoCard : Claim7 := { stood := { row := connectBackUptoRow, standIns := [], harness := (true, "9d8aa5cd179d2f7fb098127edc51005480b6475901eb37f270843fba95d92567"), looks := true }, kinds := [], alts := [], laidByText := true, laidKinds := [.data, .data, .data, .data, .sentinel, .sentinel, .pinned], laidTests := true, laidLooks := .later }
def ConnectBackUptoCardSaid : Prop := Claim7.holds Tryz.pinned (.plain (OpenSpec.upto connectBackSpec)) connectBackUptoCard

/-- THE SECOND FORM's CARD OF 'postilionlaw16.ConnectOnce'. -/
def connectOnceUptoCard : Claim7 := { stood := { row := connectOnceUptoRow, standIns := [], harness := (true, "9d8aa5cd179d2f7fb098127edc51005480b6475901eb37f270843fba95d92567"), looks := true }, kinds := [], alts := [], laidByText := true, laidKinds := [.data, .data, .data, .data, .sentinel, .sentinel, .pinned], laidTests := true, laidLooks := .later }
def ConnectOnceUptoCardSaid : Prop := Claim7.holds Tryz.pinned (.plain (OpenSpec.upto connectOnceSpec)) connectOnceUptoCard

/-- THE SECOND FORM's CARD OF 'postilionlaw16.ConnectReplies'. -/
def connectRepliesUptoCard : Claim7 := { stood := { row := connectRepliesUptoRow, standIns := [], harness := (true, "9d8aa5cd179d2f7fb098127edc51005480b6475901eb37f270843fba95d92567"), looks := true }, kinds := [], alts := [], laidByText := true, laidKinds := [.data, .data, .data, .data, .sentinel, .sentinel, .data, .pinned], laidTests := true, laidLooks := .later }
def ConnectRepliesUptoCardSaid : Prop := Claim7.holds Tryz.pinned (.plain (OpenSpec.upto connectRepliesSpec)) connectRepliesUptoCard

/-- THE SECOND FORM's CARD OF 'postilionlaw16.ConnectFields'. -/
def connectFieldsUptoCard : Claim7 := { stood := { row := connectFieldsUptoRow, standIns := [], harness := (true, "9d8aa5cd179d2f7fb098127edc51005480b6475901eb37f270843fba95d92567"), looks := true }, kinds := [], alts := [], laidByText := true, laidKinds := [.data, .data, .data, .data, .sentinel, .sentinel, .pinned], laidTests := true, laidLooks := .later }
def ConnectFieldsUptoCardSaid : Prop := Claim7.holds Tryz.pinned (.plain (OpenSpec.upto connectFieldsSpec)) connectFieldsUptoCard

/-- THE SECOND FORM's CARD OF 'postilionlaw16.ConnectMethod'. -/
def connectMethodUptoCard : Claim7 := { stood := { row := connectMethodUptoRow, standIns := [], harness := (true, "9d8aa5cd179d2f7fb098127edc51005480b6475901eb37f270843fba95d92567"), looks := true }, kinds := [], alts := [], laidByText := true, laidKinds := [.data, .data, .data, .data, .sentinel, .sentinel, .pinned], laidTests := true, laidLooks := .later }
def ConnectMethodUptoCardSaid : Prop := Claim7.holds Tryz.pinned (.plain (OpenSpec.upto connectMethodSpec)) connectMethodUptoCard
end Rows
end Go.Proofs.YtghdaengkgiekaaGreatDoor
