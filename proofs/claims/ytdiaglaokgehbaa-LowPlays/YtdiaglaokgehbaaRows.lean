/-
  No cell of these rows narrows 'for every input' (looked for: loops, veiled, ifaces, maps, wideKeys, modest, calm, conditions, laid).
  DERIVED. THE GIVEN ROWS OF THIS SEAT. 10 by the template 'for every input the law returns true; each argument reads behind the call as it read before'; 0 by the template 'total and deterministic' (their statements: YtdiaglaokgehbaaTotals.lean).
  GIVEN WITH THE SEED: the statements are not yours to turn. If you find one false, say at which input.
  Laid BY PROGRAM, IN A SANDBOX (cutbox-rows.mjs): the forced cells as the released guide's own fill.sh prints them over the translation e61cdae44ce76a2c… (all of the seat's roots in one cut). By AI agents, Wed Nov 11 2026. No macro, syntax, notation, axiom, sorry.
-/
import Derived.Test.YtdiaglaokgehbaaChecked
import GoSem.Claim
import GoSem.ClaimJoined
import GoSem.ClaimMapViews
import Derived.JoinedTies
import Derived.KernelRfl
namespace Go.Proofs.Ytdiaglaokgehbaa
/- THE CELL 'sum', in the pinned program and in every row, IS THE sha256 OF THE DUMP (.gsa) THAT YtdiaglaokgehbaaProg.lean LOADS. Nothing in Lean hashes anything: it is a label: what it is worth is what the hold of that sum in a sandbox is worth. -/
noncomputable def Try.pinned : Pinned := { name := "ytdiaglaokgehbaa", sum := "e61cdae44ce76a2c6299543615ca53d4a330a6c5ac8b17bb67c176f42914556b", checked := Try.checked }
namespace Rows
def none {H : Type} : Left H := { results := [], args := [] }

/-- 'syllogistlaw.MarkPlays': WHATEVER THE INPUT: true; the input reads as it did. -/
def markPlaysSpec : ChangeSpec := { name := "markPlays", fn := fun _ => fun
  | [d1, d2, d3] => { results := [.lit (.bool true)], args := [d1, d2, d3] }
  | _ => none }
def markPlaysRow : OpenClaim := { program := "ytdiaglaokgehbaa", sum := "e61cdae44ce76a2c6299543615ca53d4a330a6c5ac8b17bb67c176f42914556b", func := "syllogist/syllogistlaw.MarkPlays", spec := "markPlays", unfollowed := true, recurses := true, apart := false }
def MarkPlaysSaid : Prop := markPlaysRow.holds Try.pinned (OpenSpec.ofChange markPlaysSpec)

/-- ITS FALSE NEIGHBOUR: 'it returns false'. Refute it at one input. -/
def markPlaysWrong : ChangeSpec := { name := "markPlays", fn := fun _ => fun
  | [d1, d2, d3] => { results := [.lit (.bool false)], args := [d1, d2, d3] }
  | _ => none }
def MarkPlaysWrongFalsely : Prop := markPlaysRow.holds Try.pinned (OpenSpec.ofChange markPlaysWrong)

/-- 'syllogistkeep.MarkFlow': WHATEVER THE INPUT: true; the input reads as it did. -/
def markFlowSpec : ChangeSpec := { name := "markFlow", fn := fun _ => fun
  | [d1, d2, d3] => { results := [.lit (.bool true)], args := [d1, d2, d3] }
  | _ => none }
def markFlowRow : OpenClaim := { program := "ytdiaglaokgehbaa", sum := "e61cdae44ce76a2c6299543615ca53d4a330a6c5ac8b17bb67c176f42914556b", func := "syllogist/syllogistkeep.MarkFlow", spec := "markFlow", unfollowed := true, recurses := true, apart := false }
def MarkFlowSaid : Prop := markFlowRow.holds Try.pinned (OpenSpec.ofChange markFlowSpec)

/-- ITS FALSE NEIGHBOUR: 'it returns false'. Refute it at one input. -/
def markFlowWrong : ChangeSpec := { name := "markFlow", fn := fun _ => fun
  | [d1, d2, d3] => { results := [.lit (.bool false)], args := [d1, d2, d3] }
  | _ => none }
def MarkFlowWrongFalsely : Prop := markFlowRow.holds Try.pinned (OpenSpec.ofChange markFlowWrong)

/-- 'syllogistkeep.MarkFront': WHATEVER THE INPUT: true; the input reads as it did. -/
def markFrontSpec : ChangeSpec := { name := "markFront", fn := fun _ => fun
  | [d1, d2, d3, d4] => { results := [.lit (.bool true)], args := [d1, d2, d3, d4] }
  | _ => none }
def markFrontRow : OpenClaim := { program := "ytdiaglaokgehbaa", sum := "e61cdae44ce76a2c6299543615ca53d4a330a6c5ac8b17bb67c176f42914556b", func := "syllogist/syllogistkeep.MarkFront", spec := "markFront", unfollowed := true, recurses := true, apart := false }
def MarkFrontSaid : Prop := markFrontRow.holds Try.pinned (OpenSpec.ofChange markFrontSpec)

/-- ITS FALSE NEIGHBOUR: 'it returns false'. Refute it at one input. -/
def markFrontWrong : ChangeSpec := { name := "markFront", fn := fun _ => fun
  | [d1, d2, d3, d4] => { results := [.lit (.bool false)], args := [d1, d2, d3, d4] }
  | _ => none }
def MarkFrontWrongFalsely : Prop := markFrontRow.holds Try.pinned (OpenSpec.ofChange markFrontWrong)

/-- 'syllogistlaw.LowPlays': WHATEVER THE INPUT: true; the input reads as it did. -/
def lowPlaysSpec : ChangeSpec := { name := "lowPlays", fn := fun _ => fun
  | [d1, d2, d3] => { results := [.lit (.bool true)], args := [d1, d2, d3] }
  | _ => none }
def lowPlaysRow : OpenClaim := { program := "ytdiaglaokgehbaa", sum := "e61cdae44ce76a2c6299543615ca53d4a330a6c5ac8b17bb67c176f42914556b", func := "syllogist/syllogistlaw.LowPlays", spec := "lowPlays", unfollowed := true, recurses := true, apart := false }
def LowPlaysSaid : Prop := lowPlaysRow.holds Try.pinned (OpenSpec.ofChange lowPlaysSpec)

/-- ITS FALSE NEIGHBOUR: 'it returns false'. Refute it at one input. -/
def lowPlaysWrong : ChangeSpec := { name := "lowPlays", fn := fun _ => fun
  | [d1, d2, d3] => { results := [.lit (.bool false)], args := [d1, d2, d3] }
  | _ => none }
def LowPlaysWrongFalsely : Prop := lowPlaysRow.holds Try.pinned (OpenSpec.ofChange lowPlaysWrong)

/-- 'syllogistkeep.LowTurn': WHATEVER THE INPUT: true; the input reads as it did. -/
def lowTurnSpec : ChangeSpec := { name := "lowTurn", fn := fun _ => fun
  | [d1, d2, d3] => { results := [.lit (.bool true)], args := [d1, d2, d3] }
  | _ => none }
def lowTurnRow : OpenClaim := { program := "ytdiaglaokgehbaa", sum := "e61cdae44ce76a2c6299543615ca53d4a330a6c5ac8b17bb67c176f42914556b", func := "syllogist/syllogistkeep.LowTurn", spec := "lowTurn", unfollowed := true, recurses := true, apart := false }
def LowTurnSaid : Prop := lowTurnRow.holds Try.pinned (OpenSpec.ofChange lowTurnSpec)

/-- ITS FALSE NEIGHBOUR: 'it returns false'. Refute it at one input. -/
def lowTurnWrong : ChangeSpec := { name := "lowTurn", fn := fun _ => fun
  | [d1, d2, d3] => { results := [.lit (.bool false)], args := [d1, d2, d3] }
  | _ => none }
def LowTurnWrongFalsely : Prop := lowTurnRow.holds Try.pinned (OpenSpec.ofChange lowTurnWrong)

/-- 'syllogistkeep.LowFlow': WHATEVER THE INPUT: true; the input reads as it did. -/
def lowFlowSpec : ChangeSpec := { name := "lowFlow", fn := fun _ => fun
  | [d1, d2, d3] => { results := [.lit (.bool true)], args := [d1, d2, d3] }
  | _ => none }
def lowFlowRow : OpenClaim := { program := "ytdiaglaokgehbaa", sum := "e61cdae44ce76a2c6299543615ca53d4a330a6c5ac8b17bb67c176f42914556b", func := "syllogist/syllogistkeep.LowFlow", spec := "lowFlow", unfollowed := true, recurses := true, apart := false }
def LowFlowSaid : Prop := lowFlowRow.holds Try.pinned (OpenSpec.ofChange lowFlowSpec)

/-- ITS FALSE NEIGHBOUR: 'it returns false'. Refute it at one input. -/
def lowFlowWrong : ChangeSpec := { name := "lowFlow", fn := fun _ => fun
  | [d1, d2, d3] => { results := [.lit (.bool false)], args := [d1, d2, d3] }
  | _ => none }
def LowFlowWrongFalsely : Prop := lowFlowRow.holds Try.pinned (OpenSpec.ofChange lowFlowWrong)

/-- 'syllogistlaw.WallPlays': WHATEVER THE INPUT: true; the input reads as it did. -/
def wallPlaysSpec : ChangeSpec := { name := "wallPlays", fn := fun _ => fun
  | [d1, d2, d3, d4] => { results := [.lit (.bool true)], args := [d1, d2, d3, d4] }
  | _ => none }
def wallPlaysRow : OpenClaim := { program := "ytdiaglaokgehbaa", sum := "e61cdae44ce76a2c6299543615ca53d4a330a6c5ac8b17bb67c176f42914556b", func := "syllogist/syllogistlaw.WallPlays", spec := "wallPlays", unfollowed := true, recurses := true, apart := false }
def WallPlaysSaid : Prop := wallPlaysRow.holds Try.pinned (OpenSpec.ofChange wallPlaysSpec)

/-- ITS FALSE NEIGHBOUR: 'it returns false'. Refute it at one input. -/
def wallPlaysWrong : ChangeSpec := { name := "wallPlays", fn := fun _ => fun
  | [d1, d2, d3, d4] => { results := [.lit (.bool false)], args := [d1, d2, d3, d4] }
  | _ => none }
def WallPlaysWrongFalsely : Prop := wallPlaysRow.holds Try.pinned (OpenSpec.ofChange wallPlaysWrong)

/-- 'syllogistlaw.WallFewest': WHATEVER THE INPUT: true; the input reads as it did. -/
def wallFewestSpec : ChangeSpec := { name := "wallFewest", fn := fun _ => fun
  | [d1, d2] => { results := [.lit (.bool true)], args := [d1, d2] }
  | _ => none }
def wallFewestRow : OpenClaim := { program := "ytdiaglaokgehbaa", sum := "e61cdae44ce76a2c6299543615ca53d4a330a6c5ac8b17bb67c176f42914556b", func := "syllogist/syllogistlaw.WallFewest", spec := "wallFewest", unfollowed := true, recurses := true, apart := false }
def WallFewestSaid : Prop := wallFewestRow.holds Try.pinned (OpenSpec.ofChange wallFewestSpec)

/-- ITS FALSE NEIGHBOUR: 'it returns false'. Refute it at one input. -/
def wallFewestWrong : ChangeSpec := { name := "wallFewest", fn := fun _ => fun
  | [d1, d2] => { results := [.lit (.bool false)], args := [d1, d2] }
  | _ => none }
def WallFewestWrongFalsely : Prop := wallFewestRow.holds Try.pinned (OpenSpec.ofChange wallFewestWrong)

/-- 'syllogistkeep.WallApart': WHATEVER THE INPUT: true; the input reads as it did. -/
def wallApartSpec : ChangeSpec := { name := "wallApart", fn := fun _ => fun
  | [d1, d2, d3, d4] => { results := [.lit (.bool true)], args := [d1, d2, d3, d4] }
  | _ => none }
def wallApartRow : OpenClaim := { program := "ytdiaglaokgehbaa", sum := "e61cdae44ce76a2c6299543615ca53d4a330a6c5ac8b17bb67c176f42914556b", func := "syllogist/syllogistkeep.WallApart", spec := "wallApart", unfollowed := true, recurses := true, apart := false }
def WallApartSaid : Prop := wallApartRow.holds Try.pinned (OpenSpec.ofChange wallApartSpec)

/-- ITS FALSE NEIGHBOUR: 'it returns false'. Refute it at one input. -/
def wallApartWrong : ChangeSpec := { name := "wallApart", fn := fun _ => fun
  | [d1, d2, d3, d4] => { results := [.lit (.bool false)], args := [d1, d2, d3, d4] }
  | _ => none }
def WallApartWrongFalsely : Prop := wallApartRow.holds Try.pinned (OpenSpec.ofChange wallApartWrong)

/-- 'syllogistkeep.WallFew': WHATEVER THE INPUT: true; the input reads as it did. -/
def wallFewSpec : ChangeSpec := { name := "wallFew", fn := fun _ => fun
  | [d1, d2] => { results := [.lit (.bool true)], args := [d1, d2] }
  | _ => none }
def wallFewRow : OpenClaim := { program := "ytdiaglaokgehbaa", sum := "e61cdae44ce76a2c6299543615ca53d4a330a6c5ac8b17bb67c176f42914556b", func := "syllogist/syllogistkeep.WallFew", spec := "wallFew", unfollowed := true, recurses := true, apart := false }
def WallFewSaid : Prop := wallFewRow.holds Try.pinned (OpenSpec.ofChange wallFewSpec)

/-- ITS FALSE NEIGHBOUR: 'it returns false'. Refute it at one input. -/
def wallFewWrong : ChangeSpec := { name := "wallFew", fn := fun _ => fun
  | [d1, d2] => { results := [.lit (.bool false)], args := [d1, d2] }
  | _ => none }
def WallFewWrongFalsely : Prop := wallFewRow.holds Try.pinned (OpenSpec.ofChange wallFewWrong)

/- THE SECOND FORM. 'bulk': how many values and letters a reading holds, each counted each time it is reached (what is shared counts as often as it is met; a slice's spare places count too). A statement '..UptoSaid' is the law's where the arguments, and the package variables that the reading takes, are together of bulk at most 1048576: NARROWER than '..Said'. Prove '..Said' where nothing that the law and all that it calls make is longer than what came in: it says more and counts as full. Else prove '..UptoSaid'. A law counts once. -/
mutual
def uptoBulk {H : Type} : DataW H → Nat
  | .lit (.string bytes) => bytes.length + 1
  | .lit _ => 1
  | .nil => 1
  | .ptr d => uptoBulk d + 1
  | .slice elems spare => uptoBulkAll elems + uptoBulkAll spare + 1
  | .agg parts => uptoBulkAll parts + 1
  | .iface _ d => uptoBulk d + 1
  | .map entries => uptoBulkEntries entries + 1
  | .held _ => 1
def uptoBulkAll {H : Type} : List (DataW H) → Nat
  | [] => 0
  | d :: r => uptoBulk d + uptoBulkAll r
def uptoBulkEntries {H : Type} : List (Lit × DataW H) → Nat
  | [] => 0
  | x :: r => uptoBulkEntry x + uptoBulkEntries r
def uptoBulkEntry {H : Type} : Lit × DataW H → Nat
  | (.string bytes, d) => bytes.length + uptoBulk d + 1
  | (_, d) => uptoBulk d + 1
 end
def uptoSmall : (H : Type) → List (DataW H) → Bool := fun _ ds => decide (uptoBulkAll ds ≤ 1048576)
def OpenSpec.upto (s : _root_.Go.ChangeSpec) : _root_.Go.OpenSpec := { _root_.Go.OpenSpec.ofChange s with cond := some uptoSmall }

/-- 'syllogistlaw.MarkPlays', WHERE WHAT IT READS IS OF BULK AT MOST 1048576: true; the input reads as it did. -/
def markPlaysUptoRow : OpenClaim := { program := "ytdiaglaokgehbaa", sum := "e61cdae44ce76a2c6299543615ca53d4a330a6c5ac8b17bb67c176f42914556b", func := "syllogist/syllogistlaw.MarkPlays", spec := "markPlays", unfollowed := true, recurses := true, apart := false, narrowed := true }
def MarkPlaysUptoSaid : Prop := markPlaysUptoRow.holds Try.pinned (OpenSpec.upto markPlaysSpec)

/-- 'syllogistkeep.MarkFlow', WHERE WHAT IT READS IS OF BULK AT MOST 1048576: true; the input reads as it did. -/
def markFlowUptoRow : OpenClaim := { program := "ytdiaglaokgehbaa", sum := "e61cdae44ce76a2c6299543615ca53d4a330a6c5ac8b17bb67c176f42914556b", func := "syllogist/syllogistkeep.MarkFlow", spec := "markFlow", unfollowed := true, recurses := true, apart := false, narrowed := true }
def MarkFlowUptoSaid : Prop := markFlowUptoRow.holds Try.pinned (OpenSpec.upto markFlowSpec)

/-- 'syllogistkeep.MarkFront', WHERE WHAT IT READS IS OF BULK AT MOST 1048576: true; the input reads as it did. -/
def markFrontUptoRow : OpenClaim := { program := "ytdiaglaokgehbaa", sum := "e61cdae44ce76a2c6299543615ca53d4a330a6c5ac8b17bb67c176f42914556b", func := "syllogist/syllogistkeep.MarkFront", spec := "markFront", unfollowed := true, recurses := true, apart := false, narrowed := true }
def MarkFrontUptoSaid : Prop := markFrontUptoRow.holds Try.pinned (OpenSpec.upto markFrontSpec)

/-- 'syllogistlaw.LowPlays', WHERE WHAT IT READS IS OF BULK AT MOST 1048576: true; the input reads as it did. -/
def lowPlaysUptoRow : OpenClaim := { program := "ytdiaglaokgehbaa", sum := "e61cdae44ce76a2c6299543615ca53d4a330a6c5ac8b17bb67c176f42914556b", func := "syllogist/syllogistlaw.LowPlays", spec := "lowPlays", unfollowed := true, recurses := true, apart := false, narrowed := true }
def LowPlaysUptoSaid : Prop := lowPlaysUptoRow.holds Try.pinned (OpenSpec.upto lowPlaysSpec)

/-- 'syllogistkeep.LowTurn', WHERE WHAT IT READS IS OF BULK AT MOST 1048576: true; the input reads as it did. -/
def lowTurnUptoRow : OpenClaim := { program := "ytdiaglaokgehbaa", sum := "e61cdae44ce76a2c6299543615ca53d4a330a6c5ac8b17bb67c176f42914556b", func := "syllogist/syllogistkeep.LowTurn", spec := "lowTurn", unfollowed := true, recurses := true, apart := false, narrowed := true }
def LowTurnUptoSaid : Prop := lowTurnUptoRow.holds Try.pinned (OpenSpec.upto lowTurnSpec)

/-- 'syllogistkeep.LowFlow', WHERE WHAT IT READS IS OF BULK AT MOST 1048576: true; the input reads as it did. -/
def lowFlowUptoRow : OpenClaim := { program := "ytdiaglaokgehbaa", sum := "e61cdae44ce76a2c6299543615ca53d4a330a6c5ac8b17bb67c176f42914556b", func := "syllogist/syllogistkeep.LowFlow", spec := "lowFlow", unfollowed := true, recurses := true, apart := false, narrowed := true }
def LowFlowUptoSaid : Prop := lowFlowUptoRow.holds Try.pinned (OpenSpec.upto lowFlowSpec)

/-- 'syllogistlaw.WallPlays', WHERE WHAT IT READS IS OF BULK AT MOST 1048576: true; the input reads as it did. -/
def wallPlaysUptoRow : OpenClaim := { program := "ytdiaglaokgehbaa", sum := "e61cdae44ce76a2c6299543615ca53d4a330a6c5ac8b17bb67c176f42914556b", func := "syllogist/syllogistlaw.WallPlays", spec := "wallPlays", unfollowed := true, recurses := true, apart := false, narrowed := true }
def WallPlaysUptoSaid : Prop := wallPlaysUptoRow.holds Try.pinned (OpenSpec.upto wallPlaysSpec)

/-- 'syllogistlaw.WallFewest', WHERE WHAT IT READS IS OF BULK AT MOST 1048576: true; the input reads as it did. -/
def wallFewestUptoRow : OpenClaim := { program := "ytdiaglaokgehbaa", sum := "e61cdae44ce76a2c6299543615ca53d4a330a6c5ac8b17bb67c176f42914556b", func := "syllogist/syllogistlaw.WallFewest", spec := "wallFewest", unfollowed := true, recurses := true, apart := false, narrowed := true }
def WallFewestUptoSaid : Prop := wallFewestUptoRow.holds Try.pinned (OpenSpec.upto wallFewestSpec)

/-- 'syllogistkeep.WallApart', WHERE WHAT IT READS IS OF BULK AT MOST 1048576: true; the input reads as it did. -/
def wallApartUptoRow : OpenClaim := { program := "ytdiaglaokgehbaa", sum := "e61cdae44ce76a2c6299543615ca53d4a330a6c5ac8b17bb67c176f42914556b", func := "syllogist/syllogistkeep.WallApart", spec := "wallApart", unfollowed := true, recurses := true, apart := false, narrowed := true }
def WallApartUptoSaid : Prop := wallApartUptoRow.holds Try.pinned (OpenSpec.upto wallApartSpec)

/-- 'syllogistkeep.WallFew', WHERE WHAT IT READS IS OF BULK AT MOST 1048576: true; the input reads as it did. -/
def wallFewUptoRow : OpenClaim := { program := "ytdiaglaokgehbaa", sum := "e61cdae44ce76a2c6299543615ca53d4a330a6c5ac8b17bb67c176f42914556b", func := "syllogist/syllogistkeep.WallFew", spec := "wallFew", unfollowed := true, recurses := true, apart := false, narrowed := true }
def WallFewUptoSaid : Prop := wallFewUptoRow.holds Try.pinned (OpenSpec.upto wallFewSpec)

end Rows
end Go.Proofs.Ytdiaglaokgehbaa
