/-
  No cell of these rows narrows 'for every input' (looked for: loops, veiled, ifaces, maps, wideKeys, modest, calm, conditions, laid).
  DERIVED. THE GIVEN ROWS OF THIS SEAT. 5 by the template 'for every input the law returns true; each argument reads behind the call as it read before'; 0 by the template 'total and deterministic' (their statements: YtnoehmokaeegeaaTotals.lean).
  GIVEN WITH THE SEED: the statements are not yours to turn. If you find one false, say at which input.
  Laid BY PROGRAM, IN A SANDBOX (cutbox-rows.mjs): the forced cells as the released guide's own fill.sh prints them over the translation 6c555172250c90f5… (all of the seat's roots in one cut). By AI agents, Wed Nov 11 2026. No macro, syntax, notation, axiom, sorry.
-/
import Derived.Test.YtnoehmokaeegeaaChecked
import GoSem.Claim
import GoSem.ClaimJoined
import GoSem.ClaimMapViews
import Derived.JoinedTies
import Derived.KernelRfl
namespace Go.Proofs.Ytnoehmokaeegeaa
/- THE CELL 'sum', in the pinned program and in every row, IS THE sha256 OF THE DUMP (.gsa) THAT YtnoehmokaeegeaaProg.lean LOADS. Nothing in Lean hashes anything: it is a label: what it is worth is what the hold of that sum in a sandbox is worth. -/
noncomputable def Try.pinned : Pinned := { name := "ytnoehmokaeegeaa", sum := "6c555172250c90f537cca3738c45897b222d1388aadc565f52f2b5f7f787e8f0", checked := Try.checked }
namespace Rows
def none {H : Type} : Left H := { results := [], args := [] }

/-- 'syllogistlaw.ChoiceBuilds': WHATEVER THE INPUT: true; the input reads as it did. -/
def choiceBuildsSpec : ChangeSpec := { name := "choiceBuilds", fn := fun _ => fun
  | [d1, d2] => { results := [.lit (.bool true)], args := [d1, d2] }
  | _ => none }
def choiceBuildsRow : OpenClaim := { program := "ytnoehmokaeegeaa", sum := "6c555172250c90f537cca3738c45897b222d1388aadc565f52f2b5f7f787e8f0", func := "syllogist/syllogistlaw.ChoiceBuilds", spec := "choiceBuilds", recurses := true, plainKeys := false, apart := false }
def ChoiceBuildsSaid : Prop := choiceBuildsRow.holds Try.pinned (OpenSpec.ofChange choiceBuildsSpec)

/-- ITS FALSE NEIGHBOUR: 'it returns false'. Refute it at one input. -/
def choiceBuildsWrong : ChangeSpec := { name := "choiceBuilds", fn := fun _ => fun
  | [d1, d2] => { results := [.lit (.bool false)], args := [d1, d2] }
  | _ => none }
def ChoiceBuildsWrongFalsely : Prop := choiceBuildsRow.holds Try.pinned (OpenSpec.ofChange choiceBuildsWrong)

/-- 'syllogistlaw.ChoiceReads': WHATEVER THE INPUT: true; the input reads as it did. -/
def choiceReadsSpec : ChangeSpec := { name := "choiceReads", fn := fun _ => fun
  | [d1, d2, d3] => { results := [.lit (.bool true)], args := [d1, d2, d3] }
  | _ => none }
def choiceReadsRow : OpenClaim := { program := "ytnoehmokaeegeaa", sum := "6c555172250c90f537cca3738c45897b222d1388aadc565f52f2b5f7f787e8f0", func := "syllogist/syllogistlaw.ChoiceReads", spec := "choiceReads", recurses := true, plainKeys := false, apart := false }
def ChoiceReadsSaid : Prop := choiceReadsRow.holds Try.pinned (OpenSpec.ofChange choiceReadsSpec)

/-- ITS FALSE NEIGHBOUR: 'it returns false'. Refute it at one input. -/
def choiceReadsWrong : ChangeSpec := { name := "choiceReads", fn := fun _ => fun
  | [d1, d2, d3] => { results := [.lit (.bool false)], args := [d1, d2, d3] }
  | _ => none }
def ChoiceReadsWrongFalsely : Prop := choiceReadsRow.holds Try.pinned (OpenSpec.ofChange choiceReadsWrong)

/-- 'syllogistlaw.ChoiceAnds': WHATEVER THE INPUT: true; the input reads as it did. -/
def choiceAndsSpec : ChangeSpec := { name := "choiceAnds", fn := fun _ => fun
  | [d1, d2, d3, d4, d5] => { results := [.lit (.bool true)], args := [d1, d2, d3, d4, d5] }
  | _ => none }
def choiceAndsRow : OpenClaim := { program := "ytnoehmokaeegeaa", sum := "6c555172250c90f537cca3738c45897b222d1388aadc565f52f2b5f7f787e8f0", func := "syllogist/syllogistlaw.ChoiceAnds", spec := "choiceAnds", recurses := true, plainKeys := false, apart := false }
def ChoiceAndsSaid : Prop := choiceAndsRow.holds Try.pinned (OpenSpec.ofChange choiceAndsSpec)

/-- ITS FALSE NEIGHBOUR: 'it returns false'. Refute it at one input. -/
def choiceAndsWrong : ChangeSpec := { name := "choiceAnds", fn := fun _ => fun
  | [d1, d2, d3, d4, d5] => { results := [.lit (.bool false)], args := [d1, d2, d3, d4, d5] }
  | _ => none }
def ChoiceAndsWrongFalsely : Prop := choiceAndsRow.holds Try.pinned (OpenSpec.ofChange choiceAndsWrong)

/-- 'syllogistkeep.ChoiceOne': WHATEVER THE INPUT: true; the input reads as it did. -/
def choiceOneSpec : ChangeSpec := { name := "choiceOne", fn := fun _ => fun
  | [d1, d2, d3] => { results := [.lit (.bool true)], args := [d1, d2, d3] }
  | _ => none }
def choiceOneRow : OpenClaim := { program := "ytnoehmokaeegeaa", sum := "6c555172250c90f537cca3738c45897b222d1388aadc565f52f2b5f7f787e8f0", func := "syllogist/syllogistkeep.ChoiceOne", spec := "choiceOne", recurses := true, plainKeys := false, apart := false }
def ChoiceOneSaid : Prop := choiceOneRow.holds Try.pinned (OpenSpec.ofChange choiceOneSpec)

/-- ITS FALSE NEIGHBOUR: 'it returns false'. Refute it at one input. -/
def choiceOneWrong : ChangeSpec := { name := "choiceOne", fn := fun _ => fun
  | [d1, d2, d3] => { results := [.lit (.bool false)], args := [d1, d2, d3] }
  | _ => none }
def ChoiceOneWrongFalsely : Prop := choiceOneRow.holds Try.pinned (OpenSpec.ofChange choiceOneWrong)

/-- 'syllogistkeep.ChoiceAnd': WHATEVER THE INPUT: true; the input reads as it did. -/
def choiceAndSpec : ChangeSpec := { name := "choiceAnd", fn := fun _ => fun
  | [d1, d2, d3] => { results := [.lit (.bool true)], args := [d1, d2, d3] }
  | _ => none }
def choiceAndRow : OpenClaim := { program := "ytnoehmokaeegeaa", sum := "6c555172250c90f537cca3738c45897b222d1388aadc565f52f2b5f7f787e8f0", func := "syllogist/syllogistkeep.ChoiceAnd", spec := "choiceAnd", recurses := true, plainKeys := false, apart := false }
def ChoiceAndSaid : Prop := choiceAndRow.holds Try.pinned (OpenSpec.ofChange choiceAndSpec)

/-- ITS FALSE NEIGHBOUR: 'it returns false'. Refute it at one input. -/
def choiceAndWrong : ChangeSpec := { name := "choiceAnd", fn := fun _ => fun
  | [d1, d2, d3] => { results := [.lit (.bool false)], args := [d1, d2, d3] }
  | _ => none }
def ChoiceAndWrongFalsely : Prop := choiceAndRow.holds Try.pinned (OpenSpec.ofChange choiceAndWrong)

/- THE SECOND FORM. 'bulk': how many values and letters a reading holds, each counted each time it is reached (what is shared counts as often as it is met; a slice's spare places count too). A statement '..UptoSaid' is the law's where the arguments, and the package variables that the reading takes, are together of bulk at most 1048576: NARROWER than '..Said'. Prove '..Said' where nothing that the law and all that it calls make is longer than what came in: it says more and counts as full. Else prove '..UptoSaid'. A law counts once. -/
mutual
def uptoBulk {H : Type} : DataW H → Nat
  | .lit (.string bytes) => bytes.length + 1
  | .lit _ => 1
  | .nil => 1
  | .ptr d => uptoBulk d + 1
  | .slice elems spare => uptoBulkAll elems + uptoBulkAll spare + 1
  | .agg parts => uptoBulkAll parts + 1
  | .iface _ d => uptoBulk d + 1
  | .map entries => uptoBulkEntries entries + 1
  | .held _ => 1
def uptoBulkAll {H : Type} : List (DataW H) → Nat
  | [] => 0
  | d :: r => uptoBulk d + uptoBulkAll r
def uptoBulkEntries {H : Type} : List (Lit × DataW H) → Nat
  | [] => 0
  | x :: r => uptoBulkEntry x + uptoBulkEntries r
def uptoBulkEntry {H : Type} : Lit × DataW H → Nat
  | (.string bytes, d) => bytes.length + uptoBulk d + 1
  | (_, d) => uptoBulk d + 1
 end
def uptoSmall : (H : Type) → List (DataW H) → Bool := fun _ ds => decide (uptoBulkAll ds ≤ 1048576)
def OpenSpec.upto (s : _root_.Go.ChangeSpec) : _root_.Go.OpenSpec := { _root_.Go.OpenSpec.ofChange s with cond := some uptoSmall }

/-- 'syllogistlaw.ChoiceBuilds', WHERE WHAT IT READS IS OF BULK AT MOST 1048576: true; the input reads as it did. -/
def choiceBuildsUptoRow : OpenClaim := { program := "ytnoehmokaeegeaa", sum := "6c555172250c90f537cca3738c45897b222d1388aadc565f52f2b5f7f787e8f0", func := "syllogist/syllogistlaw.ChoiceBuilds", spec := "choiceBuilds", recurses := true, plainKeys := false, apart := false, narrowed := true }
def ChoiceBuildsUptoSaid : Prop := choiceBuildsUptoRow.holds Try.pinned (OpenSpec.upto choiceBuildsSpec)

/-- 'syllogistlaw.ChoiceReads', WHERE WHAT IT READS IS OF BULK AT MOST 1048576: true; the input reads as it did. -/
def choiceReadsUptoRow : OpenClaim := { program := "ytnoehmokaeegeaa", sum := "6c555172250c90f537cca3738c45897b222d1388aadc565f52f2b5f7f787e8f0", func := "syllogist/syllogistlaw.ChoiceReads", spec := "choiceReads", recurses := true, plainKeys := false, apart := false, narrowed := true }
def ChoiceReadsUptoSaid : Prop := choiceReadsUptoRow.holds Try.pinned (OpenSpec.upto choiceReadsSpec)

/-- 'syllogistlaw.ChoiceAnds', WHERE WHAT IT READS IS OF BULK AT MOST 1048576: true; the input reads as it did. -/
def choiceAndsUptoRow : OpenClaim := { program := "ytnoehmokaeegeaa", sum := "6c555172250c90f537cca3738c45897b222d1388aadc565f52f2b5f7f787e8f0", func := "syllogist/syllogistlaw.ChoiceAnds", spec := "choiceAnds", recurses := true, plainKeys := false, apart := false, narrowed := true }
def ChoiceAndsUptoSaid : Prop := choiceAndsUptoRow.holds Try.pinned (OpenSpec.upto choiceAndsSpec)

/-- 'syllogistkeep.ChoiceOne', WHERE WHAT IT READS IS OF BULK AT MOST 1048576: true; the input reads as it did. -/
def choiceOneUptoRow : OpenClaim := { program := "ytnoehmokaeegeaa", sum := "6c555172250c90f537cca3738c45897b222d1388aadc565f52f2b5f7f787e8f0", func := "syllogist/syllogistkeep.ChoiceOne", spec := "choiceOne", recurses := true, plainKeys := false, apart := false, narrowed := true }
def ChoiceOneUptoSaid : Prop := choiceOneUptoRow.holds Try.pinned (OpenSpec.upto choiceOneSpec)

/-- 'syllogistkeep.ChoiceAnd', WHERE WHAT IT READS IS OF BULK AT MOST 1048576: true; the input reads as it did. -/
def choiceAndUptoRow : OpenClaim := { program := "ytnoehmokaeegeaa", sum := "6c555172250c90f537cca3738c45897b222d1388aadc565f52f2b5f7f787e8f0", func := "syllogist/syllogistkeep.ChoiceAnd", spec := "choiceAnd", recurses := true, plainKeys := false, apart := false, narrowed := true }
def ChoiceAndUptoSaid : Prop := choiceAndUptoRow.holds Try.pinned (OpenSpec.upto choiceAndSpec)

end Rows
end Go.Proofs.Ytnoehmokaeegeaa
