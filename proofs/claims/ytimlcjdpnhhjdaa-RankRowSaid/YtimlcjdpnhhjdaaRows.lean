/-
  No cell of these rows narrows 'for every input' (looked for: loops, veiled, ifaces, maps, wideKeys, modest, calm, conditions, laid).
  DERIVED. THE GIVEN ROWS OF THIS SEAT. 6 by the template 'for every input the law returns true; each argument reads behind the call as it read before'; 0 by the template 'total and deterministic' (their statements: YtimlcjdpnhhjdaaTotals.lean).
  GIVEN WITH THE SEED: the statements are not yours to turn. If you find one false, say at which input.
  Laid BY PROGRAM, IN A SANDBOX (cutbox-rows.mjs): the forced cells as the released guide's own fill.sh prints them over the translation 070c8236f321907a… (all of the seat's roots in one cut). By AI agents, Wed Nov 11 2026. No macro, syntax, notation, axiom, sorry.
-/
import Derived.Test.YtimlcjdpnhhjdaaChecked
import GoSem.Claim
import GoSem.ClaimJoined
import GoSem.ClaimMapViews
import Derived.JoinedTies
import Derived.KernelRfl
namespace Go.Proofs.Ytimlcjdpnhhjdaa
/- THE CELL 'sum', in the pinned program and in every row, IS THE sha256 OF THE DUMP (.gsa) THAT YtimlcjdpnhhjdaaProg.lean LOADS. Nothing in Lean hashes anything: it is a label: what it is worth is what the hold of that sum in a sandbox is worth. -/
noncomputable def Try.pinned : Pinned := { name := "ytimlcjdpnhhjdaa", sum := "070c8236f321907a21d0fb2b96554008408e382f3387b9db687d21c6f7f5518b", checked := Try.checked }
namespace Rows
def none {H : Type} : Left H := { results := [], args := [] }

/-- 'postilionlaw07.RankScores': WHATEVER THE INPUT: true; the input reads as it did. -/
def rankScoresSpec : ChangeSpec := { name := "rankScores", fn := fun _ => fun
  | [d1, d2, d3, d4] => { results := [.lit (.bool true)], args := [d1, d2, d3, d4] }
  | _ => none }
def rankScoresRow : OpenClaim := { program := "ytimlcjdpnhhjdaa", sum := "070c8236f321907a21d0fb2b96554008408e382f3387b9db687d21c6f7f5518b", func := "postilion/postilionlaw07.RankScores", spec := "rankScores", apart := false }
def RankScoresSaid : Prop := rankScoresRow.holds Try.pinned (OpenSpec.ofChange rankScoresSpec)

/-- ITS FALSE NEIGHBOUR: 'it returns false'. Refute it at one input. -/
def rankScoresWrong : ChangeSpec := { name := "rankScores", fn := fun _ => fun
  | [d1, d2, d3, d4] => { results := [.lit (.bool false)], args := [d1, d2, d3, d4] }
  | _ => none }
def RankScoresWrongFalsely : Prop := rankScoresRow.holds Try.pinned (OpenSpec.ofChange rankScoresWrong)

/-- 'postilionlaw07.RankOrders': WHATEVER THE INPUT: true; the input reads as it did. -/
def rankOrdersSpec : ChangeSpec := { name := "rankOrders", fn := fun _ => fun
  | [d1, d2, d3] => { results := [.lit (.bool true)], args := [d1, d2, d3] }
  | _ => none }
def rankOrdersRow : OpenClaim := { program := "ytimlcjdpnhhjdaa", sum := "070c8236f321907a21d0fb2b96554008408e382f3387b9db687d21c6f7f5518b", func := "postilion/postilionlaw07.RankOrders", spec := "rankOrders", unfollowed := true, recurses := true, apart := false }
def RankOrdersSaid : Prop := rankOrdersRow.holds Try.pinned (OpenSpec.ofChange rankOrdersSpec)

/-- ITS FALSE NEIGHBOUR: 'it returns false'. Refute it at one input. -/
def rankOrdersWrong : ChangeSpec := { name := "rankOrders", fn := fun _ => fun
  | [d1, d2, d3] => { results := [.lit (.bool false)], args := [d1, d2, d3] }
  | _ => none }
def RankOrdersWrongFalsely : Prop := rankOrdersRow.holds Try.pinned (OpenSpec.ofChange rankOrdersWrong)

/-- 'postilionlaw07.RankOnce': WHATEVER THE INPUT: true; the input reads as it did. -/
def rankOnceSpec : ChangeSpec := { name := "rankOnce", fn := fun _ => fun
  | [d1, d2] => { results := [.lit (.bool true)], args := [d1, d2] }
  | _ => none }
def rankOnceRow : OpenClaim := { program := "ytimlcjdpnhhjdaa", sum := "070c8236f321907a21d0fb2b96554008408e382f3387b9db687d21c6f7f5518b", func := "postilion/postilionlaw07.RankOnce", spec := "rankOnce", unfollowed := true, recurses := true, apart := false }
def RankOnceSaid : Prop := rankOnceRow.holds Try.pinned (OpenSpec.ofChange rankOnceSpec)

/-- ITS FALSE NEIGHBOUR: 'it returns false'. Refute it at one input. -/
def rankOnceWrong : ChangeSpec := { name := "rankOnce", fn := fun _ => fun
  | [d1, d2] => { results := [.lit (.bool false)], args := [d1, d2] }
  | _ => none }
def RankOnceWrongFalsely : Prop := rankOnceRow.holds Try.pinned (OpenSpec.ofChange rankOnceWrong)

/-- 'postilionlaw07.RankLess': WHATEVER THE INPUT: true; the input reads as it did. -/
def rankLessSpec : ChangeSpec := { name := "rankLess", fn := fun _ => fun
  | [d1, d2, d3] => { results := [.lit (.bool true)], args := [d1, d2, d3] }
  | _ => none }
def rankLessRow : OpenClaim := { program := "ytimlcjdpnhhjdaa", sum := "070c8236f321907a21d0fb2b96554008408e382f3387b9db687d21c6f7f5518b", func := "postilion/postilionlaw07.RankLess", spec := "rankLess", unfollowed := true, recurses := true, apart := false }
def RankLessSaid : Prop := rankLessRow.holds Try.pinned (OpenSpec.ofChange rankLessSpec)

/-- ITS FALSE NEIGHBOUR: 'it returns false'. Refute it at one input. -/
def rankLessWrong : ChangeSpec := { name := "rankLess", fn := fun _ => fun
  | [d1, d2, d3] => { results := [.lit (.bool false)], args := [d1, d2, d3] }
  | _ => none }
def RankLessWrongFalsely : Prop := rankLessRow.holds Try.pinned (OpenSpec.ofChange rankLessWrong)

/-- 'postilionlaw07.RankMore': WHATEVER THE INPUT: true; the input reads as it did. -/
def rankMoreSpec : ChangeSpec := { name := "rankMore", fn := fun _ => fun
  | [d1, d2, d3, d4] => { results := [.lit (.bool true)], args := [d1, d2, d3, d4] }
  | _ => none }
def rankMoreRow : OpenClaim := { program := "ytimlcjdpnhhjdaa", sum := "070c8236f321907a21d0fb2b96554008408e382f3387b9db687d21c6f7f5518b", func := "postilion/postilionlaw07.RankMore", spec := "rankMore", unfollowed := true, recurses := true, apart := false }
def RankMoreSaid : Prop := rankMoreRow.holds Try.pinned (OpenSpec.ofChange rankMoreSpec)

/-- ITS FALSE NEIGHBOUR: 'it returns false'. Refute it at one input. -/
def rankMoreWrong : ChangeSpec := { name := "rankMore", fn := fun _ => fun
  | [d1, d2, d3, d4] => { results := [.lit (.bool false)], args := [d1, d2, d3, d4] }
  | _ => none }
def RankMoreWrongFalsely : Prop := rankMoreRow.holds Try.pinned (OpenSpec.ofChange rankMoreWrong)

/-- 'postilionlaw07.RankRow': WHATEVER THE INPUT: true; the input reads as it did. -/
def rankRowSpec : ChangeSpec := { name := "rankRow", fn := fun _ => fun
  | [d1, d2, d3, d4] => { results := [.lit (.bool true)], args := [d1, d2, d3, d4] }
  | _ => none }
def rankRowRow : OpenClaim := { program := "ytimlcjdpnhhjdaa", sum := "070c8236f321907a21d0fb2b96554008408e382f3387b9db687d21c6f7f5518b", func := "postilion/postilionlaw07.RankRow", spec := "rankRow", unfollowed := true, recurses := true, apart := false }
def RankRowSaid : Prop := rankRowRow.holds Try.pinned (OpenSpec.ofChange rankRowSpec)

/-- ITS FALSE NEIGHBOUR: 'it returns false'. Refute it at one input. -/
def rankRowWrong : ChangeSpec := { name := "rankRow", fn := fun _ => fun
  | [d1, d2, d3, d4] => { results := [.lit (.bool false)], args := [d1, d2, d3, d4] }
  | _ => none }
def RankRowWrongFalsely : Prop := rankRowRow.holds Try.pinned (OpenSpec.ofChange rankRowWrong)

/- THE SECOND FORM. 'bulk': how many values and letters a reading holds, each counted each time it is reached (what is shared counts as often as it is met; a slice's spare places count too). A statement '..UptoSaid' is the law's where the arguments, and the package variables that the reading takes, are together of bulk at most 1048576: NARROWER than '..Said'. Prove '..Said' where nothing that the law and all that it calls make is longer than what came in: it says more and counts as full. Else prove '..UptoSaid'. A law counts once. -/
mutual
def uptoBulk {H : Type} : DataW H → Nat
  | .lit (.string bytes) => bytes.length + 1
  | .lit _ => 1
  | .nil => 1
  | .ptr d => uptoBulk d + 1
  | .slice elems spare => uptoBulkAll elems + uptoBulkAll spare + 1
  | .agg parts => uptoBulkAll parts + 1
  | .iface _ d => uptoBulk d + 1
  | .map entries => uptoBulkEntries entries + 1
  | .held _ => 1
def uptoBulkAll {H : Type} : List (DataW H) → Nat
  | [] => 0
  | d :: r => uptoBulk d + uptoBulkAll r
def uptoBulkEntries {H : Type} : List (Lit × DataW H) → Nat
  | [] => 0
  | x :: r => uptoBulkEntry x + uptoBulkEntries r
def uptoBulkEntry {H : Type} : Lit × DataW H → Nat
  | (.string bytes, d) => bytes.length + uptoBulk d + 1
  | (_, d) => uptoBulk d + 1
 end
def uptoSmall : (H : Type) → List (DataW H) → Bool := fun _ ds => decide (uptoBulkAll ds ≤ 1048576)
def OpenSpec.upto (s : _root_.Go.ChangeSpec) : _root_.Go.OpenSpec := { _root_.Go.OpenSpec.ofChange s with cond := some uptoSmall }

/-- 'postilionlaw07.RankScores', WHERE WHAT IT READS IS OF BULK AT MOST 1048576: true; the input reads as it did. -/
def rankScoresUptoRow : OpenClaim := { program := "ytimlcjdpnhhjdaa", sum := "070c8236f321907a21d0fb2b96554008408e382f3387b9db687d21c6f7f5518b", func := "postilion/postilionlaw07.RankScores", spec := "rankScores", apart := false, narrowed := true }
def RankScoresUptoSaid : Prop := rankScoresUptoRow.holds Try.pinned (OpenSpec.upto rankScoresSpec)

/-- 'postilionlaw07.RankOrders', WHERE WHAT IT READS IS OF BULK AT MOST 1048576: true; the input reads as it did. -/
def rankOrdersUptoRow : OpenClaim := { program := "ytimlcjdpnhhjdaa", sum := "070c8236f321907a21d0fb2b96554008408e382f3387b9db687d21c6f7f5518b", func := "postilion/postilionlaw07.RankOrders", spec := "rankOrders", unfollowed := true, recurses := true, apart := false, narrowed := true }
def RankOrdersUptoSaid : Prop := rankOrdersUptoRow.holds Try.pinned (OpenSpec.upto rankOrdersSpec)

/-- 'postilionlaw07.RankOnce', WHERE WHAT IT READS IS OF BULK AT MOST 1048576: true; the input reads as it did. -/
def rankOnceUptoRow : OpenClaim := { program := "ytimlcjdpnhhjdaa", sum := "070c8236f321907a21d0fb2b96554008408e382f3387b9db687d21c6f7f5518b", func := "postilion/postilionlaw07.RankOnce", spec := "rankOnce", unfollowed := true, recurses := true, apart := false, narrowed := true }
def RankOnceUptoSaid : Prop := rankOnceUptoRow.holds Try.pinned (OpenSpec.upto rankOnceSpec)

/-- 'postilionlaw07.RankLess', WHERE WHAT IT READS IS OF BULK AT MOST 1048576: true; the input reads as it did. -/
def rankLessUptoRow : OpenClaim := { program := "ytimlcjdpnhhjdaa", sum := "070c8236f321907a21d0fb2b96554008408e382f3387b9db687d21c6f7f5518b", func := "postilion/postilionlaw07.RankLess", spec := "rankLess", unfollowed := true, recurses := true, apart := false, narrowed := true }
def RankLessUptoSaid : Prop := rankLessUptoRow.holds Try.pinned (OpenSpec.upto rankLessSpec)

/-- 'postilionlaw07.RankMore', WHERE WHAT IT READS IS OF BULK AT MOST 1048576: true; the input reads as it did. -/
def rankMoreUptoRow : OpenClaim := { program := "ytimlcjdpnhhjdaa", sum := "070c8236f321907a21d0fb2b96554008408e382f3387b9db687d21c6f7f5518b", func := "postilion/postilionlaw07.RankMore", spec := "rankMore", unfollowed := true, recurses := true, apart := false, narrowed := true }
def RankMoreUptoSaid : Prop := rankMoreUptoRow.holds Try.pinned (OpenSpec.upto rankMoreSpec)

/-- 'postilionlaw07.RankRow', WHERE WHAT IT READS IS OF BULK AT MOST 1048576: true; the input reads as it did. -/
def rankRowUptoRow : OpenClaim := { program := "ytimlcjdpnhhjdaa", sum := "070c8236f321907a21d0fb2b96554008408e382f3387b9db687d21c6f7f5518b", func := "postilion/postilionlaw07.RankRow", spec := "rankRow", unfollowed := true, recurses := true, apart := false, narrowed := true }
def RankRowUptoSaid : Prop := rankRowUptoRow.holds Try.pinned (OpenSpec.upto rankRowSpec)

end Rows
end Go.Proofs.Ytimlcjdpnhhjdaa
