/-
  No cell of these rows narrows 'for every input' (looked for: loops, veiled, ifaces, maps, wideKeys, modest, calm, conditions, laid).
  DERIVED. THE GIVEN ROWS OF THIS SEAT. 3 by the template 'for every input the law returns true; each argument reads behind the call as it read before'; 0 by the template 'total and deterministic' (their statements: YtmmohapcniigfaaTotals.lean).
  GIVEN WITH THE SEED: the statements are not yours to turn. If you find one false, say at which input.
  Laid BY PROGRAM, IN A SANDBOX (cutbox-rows.mjs): the forced cells as the released guide's own fill.sh prints them over the translation 3f9b070afd1bc285… (all of the seat's roots in one cut). By AI agents, Wed Nov 11 2026. No macro, syntax, notation, axiom, sorry.
-/
import Derived.Test.YtmmohapcniigfaaChecked
import GoSem.Claim
import GoSem.ClaimJoined
import GoSem.ClaimMapViews
import Derived.JoinedTies
import Derived.KernelRfl
namespace Go.Proofs.Ytmmohapcniigfaa
/- THE CELL 'sum', in the pinned program and in every row, IS THE sha256 OF THE DUMP (.gsa) THAT YtmmohapcniigfaaProg.lean LOADS. Nothing in Lean hashes anything: it is a label: what it is worth is what the hold of that sum in a sandbox is worth. -/
noncomputable def Try.pinned : Pinned := { name := "ytmmohapcniigfaa", sum := "3f9b070afd1bc2855e650fc9f9a0ee5da1b4bcdc221c08f87129003c6369be27", checked := Try.checked }
namespace Rows
def none {H : Type} : Left H := { results := [], args := [] }

/-- 'postilionlaw06.SipSums': WHATEVER THE INPUT: true; the input reads as it did. -/
def sipSumsSpec : ChangeSpec := { name := "sipSums", fn := fun _ => fun
  | [d1, d2, d3] => { results := [.lit (.bool true)], args := [d1, d2, d3] }
  | _ => none }
def sipSumsRow : OpenClaim := { program := "ytmmohapcniigfaa", sum := "3f9b070afd1bc2855e650fc9f9a0ee5da1b4bcdc221c08f87129003c6369be27", func := "postilion/postilionlaw06.SipSums", spec := "sipSums", apart := false }
def SipSumsSaid : Prop := sipSumsRow.holds Try.pinned (OpenSpec.ofChange sipSumsSpec)

/-- ITS FALSE NEIGHBOUR: 'it returns false'. Refute it at one input. -/
def sipSumsWrong : ChangeSpec := { name := "sipSums", fn := fun _ => fun
  | [d1, d2, d3] => { results := [.lit (.bool false)], args := [d1, d2, d3] }
  | _ => none }
def SipSumsWrongFalsely : Prop := sipSumsRow.holds Try.pinned (OpenSpec.ofChange sipSumsWrong)

/-- 'postilionlaw06.SipAdds': WHATEVER THE INPUT: true; the input reads as it did. -/
def sipAddsSpec : ChangeSpec := { name := "sipAdds", fn := fun _ => fun
  | [d1, d2, d3] => { results := [.lit (.bool true)], args := [d1, d2, d3] }
  | _ => none }
def sipAddsRow : OpenClaim := { program := "ytmmohapcniigfaa", sum := "3f9b070afd1bc2855e650fc9f9a0ee5da1b4bcdc221c08f87129003c6369be27", func := "postilion/postilionlaw06.SipAdds", spec := "sipAdds", apart := false }
def SipAddsSaid : Prop := sipAddsRow.holds Try.pinned (OpenSpec.ofChange sipAddsSpec)

/-- ITS FALSE NEIGHBOUR: 'it returns false'. Refute it at one input. -/
def sipAddsWrong : ChangeSpec := { name := "sipAdds", fn := fun _ => fun
  | [d1, d2, d3] => { results := [.lit (.bool false)], args := [d1, d2, d3] }
  | _ => none }
def SipAddsWrongFalsely : Prop := sipAddsRow.holds Try.pinned (OpenSpec.ofChange sipAddsWrong)

/-- 'postilionlaw06.SipPieces': WHATEVER THE INPUT: true; the input reads as it did. -/
def sipPiecesSpec : ChangeSpec := { name := "sipPieces", fn := fun _ => fun
  | [d1, d2, d3, d4] => { results := [.lit (.bool true)], args := [d1, d2, d3, d4] }
  | _ => none }
def sipPiecesRow : OpenClaim := { program := "ytmmohapcniigfaa", sum := "3f9b070afd1bc2855e650fc9f9a0ee5da1b4bcdc221c08f87129003c6369be27", func := "postilion/postilionlaw06.SipPieces", spec := "sipPieces", apart := false }
def SipPiecesSaid : Prop := sipPiecesRow.holds Try.pinned (OpenSpec.ofChange sipPiecesSpec)

/-- ITS FALSE NEIGHBOUR: 'it returns false'. Refute it at one input. -/
def sipPiecesWrong : ChangeSpec := { name := "sipPieces", fn := fun _ => fun
  | [d1, d2, d3, d4] => { results := [.lit (.bool false)], args := [d1, d2, d3, d4] }
  | _ => none }
def SipPiecesWrongFalsely : Prop := sipPiecesRow.holds Try.pinned (OpenSpec.ofChange sipPiecesWrong)

/- THE SECOND FORM. 'bulk': how many values and letters a reading holds, each counted each time it is reached (what is shared counts as often as it is met; a slice's spare places count too). A statement '..UptoSaid' is the law's where the arguments, and the package variables that the reading takes, are together of bulk at most 1048576: NARROWER than '..Said'. Prove '..Said' where nothing that the law and all that it calls make is longer than what came in: it says more and counts as full. Else prove '..UptoSaid'. A law counts once. -/
mutual
def uptoBulk {H : Type} : DataW H → Nat
  | .lit (.string bytes) => bytes.length + 1
  | .lit _ => 1
  | .nil => 1
  | .ptr d => uptoBulk d + 1
  | .slice elems spare => uptoBulkAll elems + uptoBulkAll spare + 1
  | .agg parts => uptoBulkAll parts + 1
  | .iface _ d => uptoBulk d + 1
  | .map entries => uptoBulkEntries entries + 1
  | .held _ => 1
def uptoBulkAll {H : Type} : List (DataW H) → Nat
  | [] => 0
  | d :: r => uptoBulk d + uptoBulkAll r
def uptoBulkEntries {H : Type} : List (Lit × DataW H) → Nat
  | [] => 0
  | x :: r => uptoBulkEntry x + uptoBulkEntries r
def uptoBulkEntry {H : Type} : Lit × DataW H → Nat
  | (.string bytes, d) => bytes.length + uptoBulk d + 1
  | (_, d) => uptoBulk d + 1
 end
def uptoSmall : (H : Type) → List (DataW H) → Bool := fun _ ds => decide (uptoBulkAll ds ≤ 1048576)
def OpenSpec.upto (s : _root_.Go.ChangeSpec) : _root_.Go.OpenSpec := { _root_.Go.OpenSpec.ofChange s with cond := some uptoSmall }

/-- 'postilionlaw06.SipSums', WHERE WHAT IT READS IS OF BULK AT MOST 1048576: true; the input reads as it did. -/
def sipSumsUptoRow : OpenClaim := { program := "ytmmohapcniigfaa", sum := "3f9b070afd1bc2855e650fc9f9a0ee5da1b4bcdc221c08f87129003c6369be27", func := "postilion/postilionlaw06.SipSums", spec := "sipSums", apart := false, narrowed := true }
def SipSumsUptoSaid : Prop := sipSumsUptoRow.holds Try.pinned (OpenSpec.upto sipSumsSpec)

/-- 'postilionlaw06.SipAdds', WHERE WHAT IT READS IS OF BULK AT MOST 1048576: true; the input reads as it did. -/
def sipAddsUptoRow : OpenClaim := { program := "ytmmohapcniigfaa", sum := "3f9b070afd1bc2855e650fc9f9a0ee5da1b4bcdc221c08f87129003c6369be27", func := "postilion/postilionlaw06.SipAdds", spec := "sipAdds", apart := false, narrowed := true }
def SipAddsUptoSaid : Prop := sipAddsUptoRow.holds Try.pinned (OpenSpec.upto sipAddsSpec)

/-- 'postilionlaw06.SipPieces', WHERE WHAT IT READS IS OF BULK AT MOST 1048576: true; the input reads as it did. -/
def sipPiecesUptoRow : OpenClaim := { program := "ytmmohapcniigfaa", sum := "3f9b070afd1bc2855e650fc9f9a0ee5da1b4bcdc221c08f87129003c6369be27", func := "postilion/postilionlaw06.SipPieces", spec := "sipPieces", apart := false, narrowed := true }
def SipPiecesUptoSaid : Prop := sipPiecesUptoRow.holds Try.pinned (OpenSpec.upto sipPiecesSpec)

end Rows
end Go.Proofs.Ytmmohapcniigfaa
