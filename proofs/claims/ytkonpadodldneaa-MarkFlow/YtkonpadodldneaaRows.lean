/-
  No cell of these rows narrows 'for every input' (looked for: loops, veiled, ifaces, maps, wideKeys, modest, calm, conditions, laid).
  DERIVED. THE GIVEN ROWS OF THIS SEAT. 6 by the template 'for every input the law returns true; each argument reads behind the call as it read before'; 0 by the template 'total and deterministic' (their statements: YtkonpadodldneaaTotals.lean).
  GIVEN WITH THE SEED: the statements are not yours to turn. If you find one false, say at which input.
  Laid BY PROGRAM, IN A SANDBOX (cutbox-rows.mjs): the forced cells as the released guide's own fill.sh prints them over the translation 16add5b81df0bcef… (all of the seat's roots in one cut). By AI agents, Wed Nov 11 2026. No macro, syntax, notation, axiom, sorry.
-/
import Derived.Test.YtkonpadodldneaaChecked
import GoSem.Claim
import GoSem.ClaimJoined
import GoSem.ClaimMapViews
import Derived.JoinedTies
import Derived.KernelRfl
namespace Go.Proofs.Ytkonpadodldneaa
/- THE CELL 'sum', in the pinned program and in every row, IS THE sha256 OF THE DUMP (.gsa) THAT YtkonpadodldneaaProg.lean LOADS. Nothing in Lean hashes anything: it is a label: what it is worth is what the hold of that sum in a sandbox is worth. -/
noncomputable def Try.pinned : Pinned := { name := "ytkonpadodldneaa", sum := "16add5b81df0bcef65160a7ea6666dbd0e1c273c5d0f9cd95c66568a0c26e470", checked := Try.checked }
namespace Rows
def none {H : Type} : Left H := { results := [], args := [] }

/-- 'syllogistlaw.MarkPlays': WHATEVER THE INPUT: true; the input reads as it did. -/
def markPlaysSpec : ChangeSpec := { name := "markPlays", fn := fun _ => fun
  | [d1, d2, d3] => { results := [.lit (.bool true)], args := [d1, d2, d3] }
  | _ => none }
def markPlaysRow : OpenClaim := { program := "ytkonpadodldneaa", sum := "16add5b81df0bcef65160a7ea6666dbd0e1c273c5d0f9cd95c66568a0c26e470", func := "syllogist/syllogistlaw.MarkPlays", spec := "markPlays", unfollowed := true, recurses := true, apart := false }
def MarkPlaysSaid : Prop := markPlaysRow.holds Try.pinned (OpenSpec.ofChange markPlaysSpec)

/-- ITS FALSE NEIGHBOUR: 'it returns false'. Refute it at one input. -/
def markPlaysWrong : ChangeSpec := { name := "markPlays", fn := fun _ => fun
  | [d1, d2, d3] => { results := [.lit (.bool false)], args := [d1, d2, d3] }
  | _ => none }
def MarkPlaysWrongFalsely : Prop := markPlaysRow.holds Try.pinned (OpenSpec.ofChange markPlaysWrong)

/-- 'syllogistkeep.MarkFlow': WHATEVER THE INPUT: true; the input reads as it did. -/
def markFlowSpec : ChangeSpec := { name := "markFlow", fn := fun _ => fun
  | [d1, d2, d3] => { results := [.lit (.bool true)], args := [d1, d2, d3] }
  | _ => none }
def markFlowRow : OpenClaim := { program := "ytkonpadodldneaa", sum := "16add5b81df0bcef65160a7ea6666dbd0e1c273c5d0f9cd95c66568a0c26e470", func := "syllogist/syllogistkeep.MarkFlow", spec := "markFlow", unfollowed := true, recurses := true, apart := false }
def MarkFlowSaid : Prop := markFlowRow.holds Try.pinned (OpenSpec.ofChange markFlowSpec)

/-- ITS FALSE NEIGHBOUR: 'it returns false'. Refute it at one input. -/
def markFlowWrong : ChangeSpec := { name := "markFlow", fn := fun _ => fun
  | [d1, d2, d3] => { results := [.lit (.bool false)], args := [d1, d2, d3] }
  | _ => none }
def MarkFlowWrongFalsely : Prop := markFlowRow.holds Try.pinned (OpenSpec.ofChange markFlowWrong)

/-- 'syllogistkeep.MarkFront': WHATEVER THE INPUT: true; the input reads as it did. -/
def markFrontSpec : ChangeSpec := { name := "markFront", fn := fun _ => fun
  | [d1, d2, d3, d4] => { results := [.lit (.bool true)], args := [d1, d2, d3, d4] }
  | _ => none }
def markFrontRow : OpenClaim := { program := "ytkonpadodldneaa", sum := "16add5b81df0bcef65160a7ea6666dbd0e1c273c5d0f9cd95c66568a0c26e470", func := "syllogist/syllogistkeep.MarkFront", spec := "markFront", unfollowed := true, recurses := true, apart := false }
def MarkFrontSaid : Prop := markFrontRow.holds Try.pinned (OpenSpec.ofChange markFrontSpec)

/-- ITS FALSE NEIGHBOUR: 'it returns false'. Refute it at one input. -/
def markFrontWrong : ChangeSpec := { name := "markFront", fn := fun _ => fun
  | [d1, d2, d3, d4] => { results := [.lit (.bool false)], args := [d1, d2, d3, d4] }
  | _ => none }
def MarkFrontWrongFalsely : Prop := markFrontRow.holds Try.pinned (OpenSpec.ofChange markFrontWrong)

/-- 'syllogistlaw.LowPlays': WHATEVER THE INPUT: true; the input reads as it did. -/
def lowPlaysSpec : ChangeSpec := { name := "lowPlays", fn := fun _ => fun
  | [d1, d2, d3] => { results := [.lit (.bool true)], args := [d1, d2, d3] }
  | _ => none }
def lowPlaysRow : OpenClaim := { program := "ytkonpadodldneaa", sum := "16add5b81df0bcef65160a7ea6666dbd0e1c273c5d0f9cd95c66568a0c26e470", func := "syllogist/syllogistlaw.LowPlays", spec := "lowPlays", unfollowed := true, recurses := true, apart := false }
def LowPlaysSaid : Prop := lowPlaysRow.holds Try.pinned (OpenSpec.ofChange lowPlaysSpec)

/-- ITS FALSE NEIGHBOUR: 'it returns false'. Refute it at one input. -/
def lowPlaysWrong : ChangeSpec := { name := "lowPlays", fn := fun _ => fun
  | [d1, d2, d3] => { results := [.lit (.bool false)], args := [d1, d2, d3] }
  | _ => none }
def LowPlaysWrongFalsely : Prop := lowPlaysRow.holds Try.pinned (OpenSpec.ofChange lowPlaysWrong)

/-- 'syllogistkeep.LowTurn': WHATEVER THE INPUT: true; the input reads as it did. -/
def lowTurnSpec : ChangeSpec := { name := "lowTurn", fn := fun _ => fun
  | [d1, d2, d3] => { results := [.lit (.bool true)], args := [d1, d2, d3] }
  | _ => none }
def lowTurnRow : OpenClaim := { program := "ytkonpadodldneaa", sum := "16add5b81df0bcef65160a7ea6666dbd0e1c273c5d0f9cd95c66568a0c26e470", func := "syllogist/syllogistkeep.LowTurn", spec := "lowTurn", unfollowed := true, recurses := true, apart := false }
def LowTurnSaid : Prop := lowTurnRow.holds Try.pinned (OpenSpec.ofChange lowTurnSpec)

/-- ITS FALSE NEIGHBOUR: 'it returns false'. Refute it at one input. -/
def lowTurnWrong : ChangeSpec := { name := "lowTurn", fn := fun _ => fun
  | [d1, d2, d3] => { results := [.lit (.bool false)], args := [d1, d2, d3] }
  | _ => none }
def LowTurnWrongFalsely : Prop := lowTurnRow.holds Try.pinned (OpenSpec.ofChange lowTurnWrong)

/-- 'syllogistkeep.LowFlow': WHATEVER THE INPUT: true; the input reads as it did. -/
def lowFlowSpec : ChangeSpec := { name := "lowFlow", fn := fun _ => fun
  | [d1, d2, d3] => { results := [.lit (.bool true)], args := [d1, d2, d3] }
  | _ => none }
def lowFlowRow : OpenClaim := { program := "ytkonpadodldneaa", sum := "16add5b81df0bcef65160a7ea6666dbd0e1c273c5d0f9cd95c66568a0c26e470", func := "syllogist/syllogistkeep.LowFlow", spec := "lowFlow", unfollowed := true, recurses := true, apart := false }
def LowFlowSaid : Prop := lowFlowRow.holds Try.pinned (OpenSpec.ofChange lowFlowSpec)

/-- ITS FALSE NEIGHBOUR: 'it returns false'. Refute it at one input. -/
def lowFlowWrong : ChangeSpec := { name := "lowFlow", fn := fun _ => fun
  | [d1, d2, d3] => { results := [.lit (.bool false)], args := [d1, d2, d3] }
  | _ => none }
def LowFlowWrongFalsely : Prop := lowFlowRow.holds Try.pinned (OpenSpec.ofChange lowFlowWrong)

/- THE SECOND FORM. 'bulk': how many values and letters a reading holds, each counted each time it is reached (what is shared counts as often as it is met; a slice's spare places count too). A statement '..UptoSaid' is the law's where the arguments, and the package variables that the reading takes, are together of bulk at most 1048576: NARROWER than '..Said'. Prove '..Said' where nothing that the law and all that it calls make is longer than what came in: it says more and counts as full. Else prove '..UptoSaid'. A law counts once. -/
mutual
def uptoBulk {H : Type} : DataW H → Nat
  | .lit (.string bytes) => bytes.length + 1
  | .lit _ => 1
  | .nil => 1
  | .ptr d => uptoBulk d + 1
  | .slice elems spare => uptoBulkAll elems + uptoBulkAll spare + 1
  | .agg parts => uptoBulkAll parts + 1
  | .iface _ d => uptoBulk d + 1
  | .map entries => uptoBulkEntries entries + 1
  | .held _ => 1
def uptoBulkAll {H : Type} : List (DataW H) → Nat
  | [] => 0
  | d :: r => uptoBulk d + uptoBulkAll r
def uptoBulkEntries {H : Type} : List (Lit × DataW H) → Nat
  | [] => 0
  | x :: r => uptoBulkEntry x + uptoBulkEntries r
def uptoBulkEntry {H : Type} : Lit × DataW H → Nat
  | (.string bytes, d) => bytes.length + uptoBulk d + 1
  | (_, d) => uptoBulk d + 1
 end
def uptoSmall : (H : Type) → List (DataW H) → Bool := fun _ ds => decide (uptoBulkAll ds ≤ 1048576)
def OpenSpec.upto (s : _root_.Go.ChangeSpec) : _root_.Go.OpenSpec := { _root_.Go.OpenSpec.ofChange s with cond := some uptoSmall }

/-- 'syllogistlaw.MarkPlays', WHERE WHAT IT READS IS OF BULK AT MOST 1048576: true; the input reads as it did. -/
def markPlaysUptoRow : OpenClaim := { program := "ytkonpadodldneaa", sum := "16add5b81df0bcef65160a7ea6666dbd0e1c273c5d0f9cd95c66568a0c26e470", func := "syllogist/syllogistlaw.MarkPlays", spec := "markPlays", unfollowed := true, recurses := true, apart := false, narrowed := true }
def MarkPlaysUptoSaid : Prop := markPlaysUptoRow.holds Try.pinned (OpenSpec.upto markPlaysSpec)

/-- 'syllogistkeep.MarkFlow', WHERE WHAT IT READS IS OF BULK AT MOST 1048576: true; the input reads as it did. -/
def markFlowUptoRow : OpenClaim := { program := "ytkonpadodldneaa", sum := "16add5b81df0bcef65160a7ea6666dbd0e1c273c5d0f9cd95c66568a0c26e470", func := "syllogist/syllogistkeep.MarkFlow", spec := "markFlow", unfollowed := true, recurses := true, apart := false, narrowed := true }
def MarkFlowUptoSaid : Prop := markFlowUptoRow.holds Try.pinned (OpenSpec.upto markFlowSpec)

/-- 'syllogistkeep.MarkFront', WHERE WHAT IT READS IS OF BULK AT MOST 1048576: true; the input reads as it did. -/
def markFrontUptoRow : OpenClaim := { program := "ytkonpadodldneaa", sum := "16add5b81df0bcef65160a7ea6666dbd0e1c273c5d0f9cd95c66568a0c26e470", func := "syllogist/syllogistkeep.MarkFront", spec := "markFront", unfollowed := true, recurses := true, apart := false, narrowed := true }
def MarkFrontUptoSaid : Prop := markFrontUptoRow.holds Try.pinned (OpenSpec.upto markFrontSpec)

/-- 'syllogistlaw.LowPlays', WHERE WHAT IT READS IS OF BULK AT MOST 1048576: true; the input reads as it did. -/
def lowPlaysUptoRow : OpenClaim := { program := "ytkonpadodldneaa", sum := "16add5b81df0bcef65160a7ea6666dbd0e1c273c5d0f9cd95c66568a0c26e470", func := "syllogist/syllogistlaw.LowPlays", spec := "lowPlays", unfollowed := true, recurses := true, apart := false, narrowed := true }
def LowPlaysUptoSaid : Prop := lowPlaysUptoRow.holds Try.pinned (OpenSpec.upto lowPlaysSpec)

/-- 'syllogistkeep.LowTurn', WHERE WHAT IT READS IS OF BULK AT MOST 1048576: true; the input reads as it did. -/
def lowTurnUptoRow : OpenClaim := { program := "ytkonpadodldneaa", sum := "16add5b81df0bcef65160a7ea6666dbd0e1c273c5d0f9cd95c66568a0c26e470", func := "syllogist/syllogistkeep.LowTurn", spec := "lowTurn", unfollowed := true, recurses := true, apart := false, narrowed := true }
def LowTurnUptoSaid : Prop := lowTurnUptoRow.holds Try.pinned (OpenSpec.upto lowTurnSpec)

/-- 'syllogistkeep.LowFlow', WHERE WHAT IT READS IS OF BULK AT MOST 1048576: true; the input reads as it did. -/
def lowFlowUptoRow : OpenClaim := { program := "ytkonpadodldneaa", sum := "16add5b81df0bcef65160a7ea6666dbd0e1c273c5d0f9cd95c66568a0c26e470", func := "syllogist/syllogistkeep.LowFlow", spec := "lowFlow", unfollowed := true, recurses := true, apart := false, narrowed := true }
def LowFlowUptoSaid : Prop := lowFlowUptoRow.holds Try.pinned (OpenSpec.upto lowFlowSpec)

end Rows
end Go.Proofs.Ytkonpadodldneaa
