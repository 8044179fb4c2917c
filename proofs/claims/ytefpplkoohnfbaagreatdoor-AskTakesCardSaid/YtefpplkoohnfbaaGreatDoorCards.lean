/-
  DERIVED. GIVEN WITH THE SEED: THE CARDS: each row of YtefpplkoohnfbaaGreatDoorRows.lean that lists a variable, with what it lists TIED to the program's text (the seventh form; the later family's looks); each row that meets fmt, with fmt's text TOLD by the authors' own Lean function (tested against real Go, not proved from fmt's source: count such statements apart). THE CARD IS WHAT COUNTS. Prove the row's statement (the work); the ties are given (YtefpplkoohnfbaaGreatDoorTie.lean); close each card by the builder's one call (the guide's Derived/Test/ToyasCard.lean, 'card_holds'). Laid BY PROGRAM, IN A SANDBOX (cutbox-door.mjs). By AI agents, Wed Nov 11 2026. No macro, syntax, notation, axiom, sorry.
-/
import Derived.Test.YtefpplkoohnfbaaGreatDoorRows
import GoSem.ClaimSeven
namespace Go.Proofs.YtefpplkoohnfbaaGreatDoor
namespace Rows

/-- THE TIED CARD OF 'postilionlaw14.AskTakes'. -/
def askTakesCard : Claim7 := { stood := { row := askTakesRow, standIns := [], harness := (true, "6118bdb4afa6f24d567ed44118e9721abce3d48c9391dfa7de3870d0b877ce73"), looks := true }, kinds := [], alts := [], laidByText := true, laidKinds := [.data, .data, .data, .data, .sentinel, .sentinel, .pinned], laidTests := true, laidLooks := .later }
def AskTakesCardSaid : Prop := Claim7.holds Tryz.pinned (.plain (OpenSpec.ofChange askTakesSpec)) askTakesCard

/-- THE TIED CARD OF 'postilionlaw14.AskBack'. -/
def askBackCard : Claim7 := { stood := { row := askBackRow, standIns := [], harness := (true, "6118bdb4afa6f24d567ed44118e9721abce3d48c9391dfa7de3870d0b877ce73"), looks := true }, kinds := [], alts := [], laidByText := true, laidKinds := [.data, .data, .data, .data, .sentinel, .sentinel, .data, .pinned], laidTests := true, laidLooks := .later }
def AskBackCardSaid : Prop := Claim7.holds Tryz.pinned (.plain (OpenSpec.ofChange askBackSpec)) askBackCard

/-- THE TIED CARD OF 'postilionlaw14.AskOnce'. -/
def askOnceCard : Claim7 := { stood := { row := askOnceRow, standIns := [], harness := (true, "6118bdb4afa6f24d567ed44118e9721abce3d48c9391dfa7de3870d0b877ce73"), looks := true }, kinds := [], alts := [], laidByText := true, laidKinds := [.data, .data, .data, .data, .sentinel, .sentinel, .data, .pinned], laidTests := true, laidLooks := .later }
def AskOnceCardSaid : Prop := Claim7.holds Tryz.pinned (.plain (OpenSpec.ofChange askOnceSpec)) askOnceCard

/-- THE TIED CARD OF 'postilionlaw14.AskMore'. -/
def askMoreCard : Claim7 := { stood := { row := askMoreRow, standIns := [], harness := (true, "6118bdb4afa6f24d567ed44118e9721abce3d48c9391dfa7de3870d0b877ce73"), looks := true }, kinds := [], alts := [], laidByText := true, laidKinds := [.data, .data, .data, .data, .sentinel, .sentinel, .data, .pinned], laidTests := true, laidLooks := .later }
def AskMoreCardSaid : Prop := Claim7.holds Tryz.pinned (.plain (OpenSpec.ofChange askMoreSpec)) askMoreCard

/-- THE TIED CARD OF 'postilionlaw14.AskReplies'. -/
def askRepliesCard : Claim7 := { stood := { row := askRepliesRow, standIns := [], harness := (true, "6118bdb4afa6f24d567ed44118e9721abce3d48c9391dfa7de3870d0b877ce73"), looks := true }, kinds := [], alts := [], laidByText := true, laidKinds := [.data, .data, .data, .data, .sentinel, .sentinel, .data, .pinned], laidTests := true, laidLooks := .later }
def AskRepliesCardSaid : Prop := Claim7.holds Tryz.pinned (.plain (OpenSpec.ofChange askRepliesSpec)) askRepliesCard

/-- THE SECOND FORM's CARD OF 'postilionlaw14.AskTakes'. -/
def askTakesUptoCard : Claim7 := { stood := { row := askTakesUptoRow, standIns := [], harness := (true, "6118bdb4afa6f24d567ed44118e9721abce3d48c9391dfa7de3870d0b877ce73"), looks := true }, kinds := [], alts := [], laidByText := true, laidKinds := [.data, .data, .data, .data, .sentinel, .sentinel, .pinned], laidTests := true, laidLooks := .later }
def AskTakesUptoCardSaid : Prop := Claim7.holds Tryz.pinned (.plain (OpenSpec.upto askTakesSpec)) askTakesUptoCard

/-- THE SECOND FORM's CARD OF 'postilionlaw14.AskBack'. -/
def askBackUptoCard : Claim7 := { stood := { row := askBackUptoRow, standIns := [], harness := (true, "6118bdb4afa6f24d567ed44118e9721abce3d48c9391dfa7de3870d0b877ce73"), looks := true }, kinds := [], alts := [], laidByText := true, laidKinds := [.data, .data, .data, .data, .sentinel, .sentinel, .data, .pinned], laidTests := true, laidLooks := .later }
def AskBackUptoCardSaid : Prop := Claim7.holds Tryz.pinned (.plain (OpenSpec.upto askBackSpec)) askBackUptoCard

/-- THE SECOND FORM's CARD OF 'postilionlaw14.AskOnce'. -/
def askOnceUptoCard : Claim7 := { stood := { row := askOnceUptoRow, standIns := [], harness := (true, "6118bdb4afa6f24d567ed44118e9721abce3d48c9391dfa7de3870d0b877ce73"), looks := true }, kinds := [], alts := [], laidByText := true, laidKinds := [.data, .data, .data, .data, .sentinel, .sentinel, .data, .pinned], laidTests := true, laidLooks := .later }
def AskOnceUptoCardSaid : Prop := Claim7.holds Tryz.pinned (.plain (OpenSpec.upto askOnceSpec)) askOnceUptoCard

/-- THE SECOND FORM's CARD OF 'postilionlaw14.AskMore'. -/
def askMoreUptoCard : Claim7 := { stood := { row := askMoreUptoRow, standIns := [], harness := (true, "6118bdb4afa6f24d567ed44118e9721abce3d48c9391dfa7de3870d0b877ce73"), looks := true }, kinds := [], alts := [], laidByText := true, laidKinds := [.data, .data, .data, .data, .sentinel, .sentinel, .data, .pinned], laidTests := true, laidLooks := .later }
def AskMoreUptoCardSaid : Prop := Claim7.holds Tryz.pinned (.plain (OpenSpec.upto askMoreSpec)) askMoreUptoCard

/-- THE SECOND FORM's CARD OF 'postilionlaw14.AskReplies'. -/
def askRepliesUptoCard : Claim7 := { stood := { row := askRepliesUptoRow, standIns := [], harness := (true, "6118bdb4afa6f24d567ed44118e9721abce3d48c9391dfa7de3870d0b877ce73"), looks := true }, kinds := [], alts := [], laidByText := true, laidKinds := [.data, .data, .data, .data, .sentinel, .sentinel, .data, .pinned], laidTests := true, laidLooks := .later }
def AskRepliesUptoCardSaid : Prop := Claim7.holds Tryz.pinned (.plain (OpenSpec.upto askRepliesSpec)) askRepliesUptoCard
end Rows
end Go.Proofs.YtefpplkoohnfbaaGreatDoor
