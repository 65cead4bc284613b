/-
  No cell of these rows narrows 'for every input' (looked for: loops, veiled, ifaces, maps, wideKeys, modest, calm, conditions, laid).
  DERIVED. THE GIVEN ROWS OF THIS SEAT. 8 by the template 'for every input the law returns true; each argument reads behind the call as it read before'; 0 by the template 'total and deterministic' (their statements: YtlokldjookngkaaTotals.lean).
  GIVEN WITH THE SEED: the statements are not yours to turn. If you find one false, say at which input.
  Laid BY PROGRAM, IN A SANDBOX (cutbox-rows.mjs): the forced cells as the released guide's own fill.sh prints them over the translation 7264c5e9fb98fed6… (all of the seat's roots in one cut). By AI agents, Wed Nov 11 2026. No macro, syntax, notation, axiom, sorry.
-/
import Derived.Test.YtlokldjookngkaaChecked
import GoSem.Claim
import GoSem.ClaimJoined
import GoSem.ClaimMapViews
import Derived.JoinedTies
import Derived.KernelRfl
namespace Go.Proofs.Ytlokldjookngkaa
/- THE CELL 'sum', in the pinned program and in every row, IS THE sha256 OF THE DUMP (.gsa) THAT YtlokldjookngkaaProg.lean LOADS. Nothing in Lean hashes anything: it is a label: what it is worth is what the hold of that sum in a sandbox is worth. -/
noncomputable def Try.pinned : Pinned := { name := "ytlokldjookngkaa", sum := "7264c5e9fb98fed6e18a32c701fa36f331f4fb0de451c6480452e9c3601039ba", checked := Try.checked }
namespace Rows
def none {H : Type} : Left H := { results := [], args := [] }

/-- 'syllogistlaw.ConceptUps': WHATEVER THE INPUT: true; the input reads as it did. -/
def conceptUpsSpec : ChangeSpec := { name := "conceptUps", fn := fun _ => fun
  | [d1, d2, d3] => { results := [.lit (.bool true)], args := [d1, d2, d3] }
  | _ => none }
def conceptUpsRow : OpenClaim := { program := "ytlokldjookngkaa", sum := "7264c5e9fb98fed6e18a32c701fa36f331f4fb0de451c6480452e9c3601039ba", func := "syllogist/syllogistlaw.ConceptUps", spec := "conceptUps", apart := false }
def ConceptUpsSaid : Prop := conceptUpsRow.holds Try.pinned (OpenSpec.ofChange conceptUpsSpec)

/-- ITS FALSE NEIGHBOUR: 'it returns false'. Refute it at one input. -/
def conceptUpsWrong : ChangeSpec := { name := "conceptUps", fn := fun _ => fun
  | [d1, d2, d3] => { results := [.lit (.bool false)], args := [d1, d2, d3] }
  | _ => none }
def ConceptUpsWrongFalsely : Prop := conceptUpsRow.holds Try.pinned (OpenSpec.ofChange conceptUpsWrong)

/-- 'syllogistlaw.ConceptDowns': WHATEVER THE INPUT: true; the input reads as it did. -/
def conceptDownsSpec : ChangeSpec := { name := "conceptDowns", fn := fun _ => fun
  | [d1, d2, d3] => { results := [.lit (.bool true)], args := [d1, d2, d3] }
  | _ => none }
def conceptDownsRow : OpenClaim := { program := "ytlokldjookngkaa", sum := "7264c5e9fb98fed6e18a32c701fa36f331f4fb0de451c6480452e9c3601039ba", func := "syllogist/syllogistlaw.ConceptDowns", spec := "conceptDowns", apart := false }
def ConceptDownsSaid : Prop := conceptDownsRow.holds Try.pinned (OpenSpec.ofChange conceptDownsSpec)

/-- ITS FALSE NEIGHBOUR: 'it returns false'. Refute it at one input. -/
def conceptDownsWrong : ChangeSpec := { name := "conceptDowns", fn := fun _ => fun
  | [d1, d2, d3] => { results := [.lit (.bool false)], args := [d1, d2, d3] }
  | _ => none }
def ConceptDownsWrongFalsely : Prop := conceptDownsRow.holds Try.pinned (OpenSpec.ofChange conceptDownsWrong)

/-- 'syllogistlaw.ConceptAlls': WHATEVER THE INPUT: true; the input reads as it did. -/
def conceptAllsSpec : ChangeSpec := { name := "conceptAlls", fn := fun _ => fun
  | [d1, d2] => { results := [.lit (.bool true)], args := [d1, d2] }
  | _ => none }
def conceptAllsRow : OpenClaim := { program := "ytlokldjookngkaa", sum := "7264c5e9fb98fed6e18a32c701fa36f331f4fb0de451c6480452e9c3601039ba", func := "syllogist/syllogistlaw.ConceptAlls", spec := "conceptAlls", unfollowed := true, recurses := true, apart := false }
def ConceptAllsSaid : Prop := conceptAllsRow.holds Try.pinned (OpenSpec.ofChange conceptAllsSpec)

/-- ITS FALSE NEIGHBOUR: 'it returns false'. Refute it at one input. -/
def conceptAllsWrong : ChangeSpec := { name := "conceptAlls", fn := fun _ => fun
  | [d1, d2] => { results := [.lit (.bool false)], args := [d1, d2] }
  | _ => none }
def ConceptAllsWrongFalsely : Prop := conceptAllsRow.holds Try.pinned (OpenSpec.ofChange conceptAllsWrong)

/-- 'syllogistlaw.ConceptNexts': WHATEVER THE INPUT: true; the input reads as it did. -/
def conceptNextsSpec : ChangeSpec := { name := "conceptNexts", fn := fun _ => fun
  | [d1, d2, d3] => { results := [.lit (.bool true)], args := [d1, d2, d3] }
  | _ => none }
def conceptNextsRow : OpenClaim := { program := "ytlokldjookngkaa", sum := "7264c5e9fb98fed6e18a32c701fa36f331f4fb0de451c6480452e9c3601039ba", func := "syllogist/syllogistlaw.ConceptNexts", spec := "conceptNexts", apart := false }
def ConceptNextsSaid : Prop := conceptNextsRow.holds Try.pinned (OpenSpec.ofChange conceptNextsSpec)

/-- ITS FALSE NEIGHBOUR: 'it returns false'. Refute it at one input. -/
def conceptNextsWrong : ChangeSpec := { name := "conceptNexts", fn := fun _ => fun
  | [d1, d2, d3] => { results := [.lit (.bool false)], args := [d1, d2, d3] }
  | _ => none }
def ConceptNextsWrongFalsely : Prop := conceptNextsRow.holds Try.pinned (OpenSpec.ofChange conceptNextsWrong)

/-- 'syllogistlaw.ConceptSays': WHATEVER THE INPUT: true; the input reads as it did. -/
def conceptSaysSpec : ChangeSpec := { name := "conceptSays", fn := fun _ => fun
  | [d1, d2, d3] => { results := [.lit (.bool true)], args := [d1, d2, d3] }
  | _ => none }
def conceptSaysRow : OpenClaim := { program := "ytlokldjookngkaa", sum := "7264c5e9fb98fed6e18a32c701fa36f331f4fb0de451c6480452e9c3601039ba", func := "syllogist/syllogistlaw.ConceptSays", spec := "conceptSays", apart := false }
def ConceptSaysSaid : Prop := conceptSaysRow.holds Try.pinned (OpenSpec.ofChange conceptSaysSpec)

/-- ITS FALSE NEIGHBOUR: 'it returns false'. Refute it at one input. -/
def conceptSaysWrong : ChangeSpec := { name := "conceptSays", fn := fun _ => fun
  | [d1, d2, d3] => { results := [.lit (.bool false)], args := [d1, d2, d3] }
  | _ => none }
def ConceptSaysWrongFalsely : Prop := conceptSaysRow.holds Try.pinned (OpenSpec.ofChange conceptSaysWrong)

/-- 'syllogistkeep.ConceptGalois': WHATEVER THE INPUT: true; the input reads as it did. -/
def conceptGaloisSpec : ChangeSpec := { name := "conceptGalois", fn := fun _ => fun
  | [d1, d2, d3, d4] => { results := [.lit (.bool true)], args := [d1, d2, d3, d4] }
  | _ => none }
def conceptGaloisRow : OpenClaim := { program := "ytlokldjookngkaa", sum := "7264c5e9fb98fed6e18a32c701fa36f331f4fb0de451c6480452e9c3601039ba", func := "syllogist/syllogistkeep.ConceptGalois", spec := "conceptGalois", apart := false }
def ConceptGaloisSaid : Prop := conceptGaloisRow.holds Try.pinned (OpenSpec.ofChange conceptGaloisSpec)

/-- ITS FALSE NEIGHBOUR: 'it returns false'. Refute it at one input. -/
def conceptGaloisWrong : ChangeSpec := { name := "conceptGalois", fn := fun _ => fun
  | [d1, d2, d3, d4] => { results := [.lit (.bool false)], args := [d1, d2, d3, d4] }
  | _ => none }
def ConceptGaloisWrongFalsely : Prop := conceptGaloisRow.holds Try.pinned (OpenSpec.ofChange conceptGaloisWrong)

/-- 'syllogistkeep.ConceptNext': WHATEVER THE INPUT: true; the input reads as it did. -/
def conceptNextSpec : ChangeSpec := { name := "conceptNext", fn := fun _ => fun
  | [d1, d2] => { results := [.lit (.bool true)], args := [d1, d2] }
  | _ => none }
def conceptNextRow : OpenClaim := { program := "ytlokldjookngkaa", sum := "7264c5e9fb98fed6e18a32c701fa36f331f4fb0de451c6480452e9c3601039ba", func := "syllogist/syllogistkeep.ConceptNext", spec := "conceptNext", unfollowed := true, recurses := true, apart := false }
def ConceptNextSaid : Prop := conceptNextRow.holds Try.pinned (OpenSpec.ofChange conceptNextSpec)

/-- ITS FALSE NEIGHBOUR: 'it returns false'. Refute it at one input. -/
def conceptNextWrong : ChangeSpec := { name := "conceptNext", fn := fun _ => fun
  | [d1, d2] => { results := [.lit (.bool false)], args := [d1, d2] }
  | _ => none }
def ConceptNextWrongFalsely : Prop := conceptNextRow.holds Try.pinned (OpenSpec.ofChange conceptNextWrong)

/-- 'syllogistkeep.ConceptRules': WHATEVER THE INPUT: true; the input reads as it did. -/
def conceptRulesSpec : ChangeSpec := { name := "conceptRules", fn := fun _ => fun
  | [d1, d2, d3] => { results := [.lit (.bool true)], args := [d1, d2, d3] }
  | _ => none }
def conceptRulesRow : OpenClaim := { program := "ytlokldjookngkaa", sum := "7264c5e9fb98fed6e18a32c701fa36f331f4fb0de451c6480452e9c3601039ba", func := "syllogist/syllogistkeep.ConceptRules", spec := "conceptRules", apart := false }
def ConceptRulesSaid : Prop := conceptRulesRow.holds Try.pinned (OpenSpec.ofChange conceptRulesSpec)

/-- ITS FALSE NEIGHBOUR: 'it returns false'. Refute it at one input. -/
def conceptRulesWrong : ChangeSpec := { name := "conceptRules", fn := fun _ => fun
  | [d1, d2, d3] => { results := [.lit (.bool false)], args := [d1, d2, d3] }
  | _ => none }
def ConceptRulesWrongFalsely : Prop := conceptRulesRow.holds Try.pinned (OpenSpec.ofChange conceptRulesWrong)

/- THE SECOND FORM. 'bulk': how many values and letters a reading holds, each counted each time it is reached (what is shared counts as often as it is met; a slice's spare places count too). A statement '..UptoSaid' is the law's where the arguments, and the package variables that the reading takes, are together of bulk at most 1048576: NARROWER than '..Said'. Prove '..Said' where nothing that the law and all that it calls make is longer than what came in: it says more and counts as full. Else prove '..UptoSaid'. A law counts once. -/
mutual
def uptoBulk {H : Type} : DataW H → Nat
  | .lit (.string bytes) => bytes.length + 1
  | .lit _ => 1
  | .nil => 1
  | .ptr d => uptoBulk d + 1
  | .slice elems spare => uptoBulkAll elems + uptoBulkAll spare + 1
  | .agg parts => uptoBulkAll parts + 1
  | .iface _ d => uptoBulk d + 1
  | .map entries => uptoBulkEntries entries + 1
  | .held _ => 1
def uptoBulkAll {H : Type} : List (DataW H) → Nat
  | [] => 0
  | d :: r => uptoBulk d + uptoBulkAll r
def uptoBulkEntries {H : Type} : List (Lit × DataW H) → Nat
  | [] => 0
  | x :: r => uptoBulkEntry x + uptoBulkEntries r
def uptoBulkEntry {H : Type} : Lit × DataW H → Nat
  | (.string bytes, d) => bytes.length + uptoBulk d + 1
  | (_, d) => uptoBulk d + 1
 end
def uptoSmall : (H : Type) → List (DataW H) → Bool := fun _ ds => decide (uptoBulkAll ds ≤ 1048576)
def OpenSpec.upto (s : _root_.Go.ChangeSpec) : _root_.Go.OpenSpec := { _root_.Go.OpenSpec.ofChange s with cond := some uptoSmall }

/-- 'syllogistlaw.ConceptUps', WHERE WHAT IT READS IS OF BULK AT MOST 1048576: true; the input reads as it did. -/
def conceptUpsUptoRow : OpenClaim := { program := "ytlokldjookngkaa", sum := "7264c5e9fb98fed6e18a32c701fa36f331f4fb0de451c6480452e9c3601039ba", func := "syllogist/syllogistlaw.ConceptUps", spec := "conceptUps", apart := false, narrowed := true }
def ConceptUpsUptoSaid : Prop := conceptUpsUptoRow.holds Try.pinned (OpenSpec.upto conceptUpsSpec)

/-- 'syllogistlaw.ConceptDowns', WHERE WHAT IT READS IS OF BULK AT MOST 1048576: true; the input reads as it did. -/
def conceptDownsUptoRow : OpenClaim := { program := "ytlokldjookngkaa", sum := "7264c5e9fb98fed6e18a32c701fa36f331f4fb0de451c6480452e9c3601039ba", func := "syllogist/syllogistlaw.ConceptDowns", spec := "conceptDowns", apart := false, narrowed := true }
def ConceptDownsUptoSaid : Prop := conceptDownsUptoRow.holds Try.pinned (OpenSpec.upto conceptDownsSpec)

/-- 'syllogistlaw.ConceptAlls', WHERE WHAT IT READS IS OF BULK AT MOST 1048576: true; the input reads as it did. -/
def conceptAllsUptoRow : OpenClaim := { program := "ytlokldjookngkaa", sum := "7264c5e9fb98fed6e18a32c701fa36f331f4fb0de451c6480452e9c3601039ba", func := "syllogist/syllogistlaw.ConceptAlls", spec := "conceptAlls", unfollowed := true, recurses := true, apart := false, narrowed := true }
def ConceptAllsUptoSaid : Prop := conceptAllsUptoRow.holds Try.pinned (OpenSpec.upto conceptAllsSpec)

/-- 'syllogistlaw.ConceptNexts', WHERE WHAT IT READS IS OF BULK AT MOST 1048576: true; the input reads as it did. -/
def conceptNextsUptoRow : OpenClaim := { program := "ytlokldjookngkaa", sum := "7264c5e9fb98fed6e18a32c701fa36f331f4fb0de451c6480452e9c3601039ba", func := "syllogist/syllogistlaw.ConceptNexts", spec := "conceptNexts", apart := false, narrowed := true }
def ConceptNextsUptoSaid : Prop := conceptNextsUptoRow.holds Try.pinned (OpenSpec.upto conceptNextsSpec)

/-- 'syllogistlaw.ConceptSays', WHERE WHAT IT READS IS OF BULK AT MOST 1048576: true; the input reads as it did. -/
def conceptSaysUptoRow : OpenClaim := { program := "ytlokldjookngkaa", sum := "7264c5e9fb98fed6e18a32c701fa36f331f4fb0de451c6480452e9c3601039ba", func := "syllogist/syllogistlaw.ConceptSays", spec := "conceptSays", apart := false, narrowed := true }
def ConceptSaysUptoSaid : Prop := conceptSaysUptoRow.holds Try.pinned (OpenSpec.upto conceptSaysSpec)

/-- 'syllogistkeep.ConceptGalois', WHERE WHAT IT READS IS OF BULK AT MOST 1048576: true; the input reads as it did. -/
def conceptGaloisUptoRow : OpenClaim := { program := "ytlokldjookngkaa", sum := "7264c5e9fb98fed6e18a32c701fa36f331f4fb0de451c6480452e9c3601039ba", func := "syllogist/syllogistkeep.ConceptGalois", spec := "conceptGalois", apart := false, narrowed := true }
def ConceptGaloisUptoSaid : Prop := conceptGaloisUptoRow.holds Try.pinned (OpenSpec.upto conceptGaloisSpec)

/-- 'syllogistkeep.ConceptNext', WHERE WHAT IT READS IS OF BULK AT MOST 1048576: true; the input reads as it did. -/
def conceptNextUptoRow : OpenClaim := { program := "ytlokldjookngkaa", sum := "7264c5e9fb98fed6e18a32c701fa36f331f4fb0de451c6480452e9c3601039ba", func := "syllogist/syllogistkeep.ConceptNext", spec := "conceptNext", unfollowed := true, recurses := true, apart := false, narrowed := true }
def ConceptNextUptoSaid : Prop := conceptNextUptoRow.holds Try.pinned (OpenSpec.upto conceptNextSpec)

/-- 'syllogistkeep.ConceptRules', WHERE WHAT IT READS IS OF BULK AT MOST 1048576: true; the input reads as it did. -/
def conceptRulesUptoRow : OpenClaim := { program := "ytlokldjookngkaa", sum := "7264c5e9fb98fed6e18a32c701fa36f331f4fb0de451c6480452e9c3601039ba", func := "syllogist/syllogistkeep.ConceptRules", spec := "conceptRules", apart := false, narrowed := true }
def ConceptRulesUptoSaid : Prop := conceptRulesUptoRow.holds Try.pinned (OpenSpec.upto conceptRulesSpec)

end Rows
end Go.Proofs.Ytlokldjookngkaa
