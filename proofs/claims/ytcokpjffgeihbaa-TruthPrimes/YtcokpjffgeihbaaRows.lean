/-
  No cell of these rows narrows 'for every input' (looked for: loops, veiled, ifaces, maps, wideKeys, modest, calm, conditions, laid).
  DERIVED. THE GIVEN ROWS OF THIS SEAT. 9 by the template 'for every input the law returns true; each argument reads behind the call as it read before'; 0 by the template 'total and deterministic' (their statements: YtcokpjffgeihbaaTotals.lean).
  GIVEN WITH THE SEED: the statements are not yours to turn. If you find one false, say at which input.
  Laid BY PROGRAM, IN A SANDBOX (cutbox-rows.mjs): the forced cells as the released guide's own fill.sh prints them over the translation 745aff127bf65ee8… (all of the seat's roots in one cut). By AI agents, Wed Nov 11 2026. No macro, syntax, notation, axiom, sorry.
-/
import Derived.Test.YtcokpjffgeihbaaChecked
import GoSem.Claim
import GoSem.ClaimJoined
import GoSem.ClaimMapViews
import Derived.JoinedTies
import Derived.KernelRfl
namespace Go.Proofs.Ytcokpjffgeihbaa
/- THE CELL 'sum', in the pinned program and in every row, IS THE sha256 OF THE DUMP (.gsa) THAT YtcokpjffgeihbaaProg.lean LOADS. Nothing in Lean hashes anything: it is a label: what it is worth is what the hold of that sum in a sandbox is worth. -/
noncomputable def Try.pinned : Pinned := { name := "ytcokpjffgeihbaa", sum := "745aff127bf65ee8d717e0bae645f587bffb170a44f0f47ca0c8d20fe247df7d", checked := Try.checked }
namespace Rows
def none {H : Type} : Left H := { results := [], args := [] }

/-- 'syllogistlaw.TruthDuals': WHATEVER THE INPUT: true; the input reads as it did. -/
def truthDualsSpec : ChangeSpec := { name := "truthDuals", fn := fun _ => fun
  | [d1, d2] => { results := [.lit (.bool true)], args := [d1, d2] }
  | _ => none }
def truthDualsRow : OpenClaim := { program := "ytcokpjffgeihbaa", sum := "745aff127bf65ee8d717e0bae645f587bffb170a44f0f47ca0c8d20fe247df7d", func := "syllogist/syllogistlaw.TruthDuals", spec := "truthDuals", plainKeys := false, apart := false }
def TruthDualsSaid : Prop := truthDualsRow.holds Try.pinned (OpenSpec.ofChange truthDualsSpec)

/-- ITS FALSE NEIGHBOUR: 'it returns false'. Refute it at one input. -/
def truthDualsWrong : ChangeSpec := { name := "truthDuals", fn := fun _ => fun
  | [d1, d2] => { results := [.lit (.bool false)], args := [d1, d2] }
  | _ => none }
def TruthDualsWrongFalsely : Prop := truthDualsRow.holds Try.pinned (OpenSpec.ofChange truthDualsWrong)

/-- 'syllogistlaw.TruthSums': WHATEVER THE INPUT: true; the input reads as it did. -/
def truthSumsSpec : ChangeSpec := { name := "truthSums", fn := fun _ => fun
  | [d1, d2] => { results := [.lit (.bool true)], args := [d1, d2] }
  | _ => none }
def truthSumsRow : OpenClaim := { program := "ytcokpjffgeihbaa", sum := "745aff127bf65ee8d717e0bae645f587bffb170a44f0f47ca0c8d20fe247df7d", func := "syllogist/syllogistlaw.TruthSums", spec := "truthSums", plainKeys := false, apart := false }
def TruthSumsSaid : Prop := truthSumsRow.holds Try.pinned (OpenSpec.ofChange truthSumsSpec)

/-- ITS FALSE NEIGHBOUR: 'it returns false'. Refute it at one input. -/
def truthSumsWrong : ChangeSpec := { name := "truthSums", fn := fun _ => fun
  | [d1, d2] => { results := [.lit (.bool false)], args := [d1, d2] }
  | _ => none }
def TruthSumsWrongFalsely : Prop := truthSumsRow.holds Try.pinned (OpenSpec.ofChange truthSumsWrong)

/-- 'syllogistlaw.TruthClasses': WHATEVER THE INPUT: true; the input reads as it did. -/
def truthClassesSpec : ChangeSpec := { name := "truthClasses", fn := fun _ => fun
  | [d1, d2] => { results := [.lit (.bool true)], args := [d1, d2] }
  | _ => none }
def truthClassesRow : OpenClaim := { program := "ytcokpjffgeihbaa", sum := "745aff127bf65ee8d717e0bae645f587bffb170a44f0f47ca0c8d20fe247df7d", func := "syllogist/syllogistlaw.TruthClasses", spec := "truthClasses", plainKeys := false, apart := false }
def TruthClassesSaid : Prop := truthClassesRow.holds Try.pinned (OpenSpec.ofChange truthClassesSpec)

/-- ITS FALSE NEIGHBOUR: 'it returns false'. Refute it at one input. -/
def truthClassesWrong : ChangeSpec := { name := "truthClasses", fn := fun _ => fun
  | [d1, d2] => { results := [.lit (.bool false)], args := [d1, d2] }
  | _ => none }
def TruthClassesWrongFalsely : Prop := truthClassesRow.holds Try.pinned (OpenSpec.ofChange truthClassesWrong)

/-- 'syllogistlaw.TruthWholes': WHATEVER THE INPUT: true; the input reads as it did. -/
def truthWholesSpec : ChangeSpec := { name := "truthWholes", fn := fun _ => fun
  | [d1, d2] => { results := [.lit (.bool true)], args := [d1, d2] }
  | _ => none }
def truthWholesRow : OpenClaim := { program := "ytcokpjffgeihbaa", sum := "745aff127bf65ee8d717e0bae645f587bffb170a44f0f47ca0c8d20fe247df7d", func := "syllogist/syllogistlaw.TruthWholes", spec := "truthWholes", plainKeys := false, apart := false }
def TruthWholesSaid : Prop := truthWholesRow.holds Try.pinned (OpenSpec.ofChange truthWholesSpec)

/-- ITS FALSE NEIGHBOUR: 'it returns false'. Refute it at one input. -/
def truthWholesWrong : ChangeSpec := { name := "truthWholes", fn := fun _ => fun
  | [d1, d2] => { results := [.lit (.bool false)], args := [d1, d2] }
  | _ => none }
def TruthWholesWrongFalsely : Prop := truthWholesRow.holds Try.pinned (OpenSpec.ofChange truthWholesWrong)

/-- 'syllogistlaw.TruthPrimes': WHATEVER THE INPUT: true; the input reads as it did. -/
def truthPrimesSpec : ChangeSpec := { name := "truthPrimes", fn := fun _ => fun
  | [d1, d2] => { results := [.lit (.bool true)], args := [d1, d2] }
  | _ => none }
def truthPrimesRow : OpenClaim := { program := "ytcokpjffgeihbaa", sum := "745aff127bf65ee8d717e0bae645f587bffb170a44f0f47ca0c8d20fe247df7d", func := "syllogist/syllogistlaw.TruthPrimes", spec := "truthPrimes", unfollowed := true, recurses := true, plainKeys := false, apart := false }
def TruthPrimesSaid : Prop := truthPrimesRow.holds Try.pinned (OpenSpec.ofChange truthPrimesSpec)

/-- ITS FALSE NEIGHBOUR: 'it returns false'. Refute it at one input. -/
def truthPrimesWrong : ChangeSpec := { name := "truthPrimes", fn := fun _ => fun
  | [d1, d2] => { results := [.lit (.bool false)], args := [d1, d2] }
  | _ => none }
def TruthPrimesWrongFalsely : Prop := truthPrimesRow.holds Try.pinned (OpenSpec.ofChange truthPrimesWrong)

/-- 'syllogistkeep.TruthDual': WHATEVER THE INPUT: true; the input reads as it did. -/
def truthDualSpec : ChangeSpec := { name := "truthDual", fn := fun _ => fun
  | [d1, d2, d3] => { results := [.lit (.bool true)], args := [d1, d2, d3] }
  | _ => none }
def truthDualRow : OpenClaim := { program := "ytcokpjffgeihbaa", sum := "745aff127bf65ee8d717e0bae645f587bffb170a44f0f47ca0c8d20fe247df7d", func := "syllogist/syllogistkeep.TruthDual", spec := "truthDual", plainKeys := false, apart := false }
def TruthDualSaid : Prop := truthDualRow.holds Try.pinned (OpenSpec.ofChange truthDualSpec)

/-- ITS FALSE NEIGHBOUR: 'it returns false'. Refute it at one input. -/
def truthDualWrong : ChangeSpec := { name := "truthDual", fn := fun _ => fun
  | [d1, d2, d3] => { results := [.lit (.bool false)], args := [d1, d2, d3] }
  | _ => none }
def TruthDualWrongFalsely : Prop := truthDualRow.holds Try.pinned (OpenSpec.ofChange truthDualWrong)

/-- 'syllogistkeep.TruthSum': WHATEVER THE INPUT: true; the input reads as it did. -/
def truthSumSpec : ChangeSpec := { name := "truthSum", fn := fun _ => fun
  | [d1, d2, d3] => { results := [.lit (.bool true)], args := [d1, d2, d3] }
  | _ => none }
def truthSumRow : OpenClaim := { program := "ytcokpjffgeihbaa", sum := "745aff127bf65ee8d717e0bae645f587bffb170a44f0f47ca0c8d20fe247df7d", func := "syllogist/syllogistkeep.TruthSum", spec := "truthSum", plainKeys := false, apart := false }
def TruthSumSaid : Prop := truthSumRow.holds Try.pinned (OpenSpec.ofChange truthSumSpec)

/-- ITS FALSE NEIGHBOUR: 'it returns false'. Refute it at one input. -/
def truthSumWrong : ChangeSpec := { name := "truthSum", fn := fun _ => fun
  | [d1, d2, d3] => { results := [.lit (.bool false)], args := [d1, d2, d3] }
  | _ => none }
def TruthSumWrongFalsely : Prop := truthSumRow.holds Try.pinned (OpenSpec.ofChange truthSumWrong)

/-- 'syllogistkeep.TruthPost': WHATEVER THE INPUT: true; the input reads as it did. -/
def truthPostSpec : ChangeSpec := { name := "truthPost", fn := fun _ => fun
  | [d1, d2, d3] => { results := [.lit (.bool true)], args := [d1, d2, d3] }
  | _ => none }
def truthPostRow : OpenClaim := { program := "ytcokpjffgeihbaa", sum := "745aff127bf65ee8d717e0bae645f587bffb170a44f0f47ca0c8d20fe247df7d", func := "syllogist/syllogistkeep.TruthPost", spec := "truthPost", plainKeys := false, apart := false }
def TruthPostSaid : Prop := truthPostRow.holds Try.pinned (OpenSpec.ofChange truthPostSpec)

/-- ITS FALSE NEIGHBOUR: 'it returns false'. Refute it at one input. -/
def truthPostWrong : ChangeSpec := { name := "truthPost", fn := fun _ => fun
  | [d1, d2, d3] => { results := [.lit (.bool false)], args := [d1, d2, d3] }
  | _ => none }
def TruthPostWrongFalsely : Prop := truthPostRow.holds Try.pinned (OpenSpec.ofChange truthPostWrong)

/-- 'syllogistkeep.TruthPrime': WHATEVER THE INPUT: true; the input reads as it did. -/
def truthPrimeSpec : ChangeSpec := { name := "truthPrime", fn := fun _ => fun
  | [d1, d2] => { results := [.lit (.bool true)], args := [d1, d2] }
  | _ => none }
def truthPrimeRow : OpenClaim := { program := "ytcokpjffgeihbaa", sum := "745aff127bf65ee8d717e0bae645f587bffb170a44f0f47ca0c8d20fe247df7d", func := "syllogist/syllogistkeep.TruthPrime", spec := "truthPrime", unfollowed := true, recurses := true, plainKeys := false, apart := false }
def TruthPrimeSaid : Prop := truthPrimeRow.holds Try.pinned (OpenSpec.ofChange truthPrimeSpec)

/-- ITS FALSE NEIGHBOUR: 'it returns false'. Refute it at one input. -/
def truthPrimeWrong : ChangeSpec := { name := "truthPrime", fn := fun _ => fun
  | [d1, d2] => { results := [.lit (.bool false)], args := [d1, d2] }
  | _ => none }
def TruthPrimeWrongFalsely : Prop := truthPrimeRow.holds Try.pinned (OpenSpec.ofChange truthPrimeWrong)

/- THE SECOND FORM. 'bulk': how many values and letters a reading holds, each counted each time it is reached (what is shared counts as often as it is met; a slice's spare places count too). A statement '..UptoSaid' is the law's where the arguments, and the package variables that the reading takes, are together of bulk at most 1048576: NARROWER than '..Said'. Prove '..Said' where nothing that the law and all that it calls make is longer than what came in: it says more and counts as full. Else prove '..UptoSaid'. A law counts once. -/
mutual
def uptoBulk {H : Type} : DataW H → Nat
  | .lit (.string bytes) => bytes.length + 1
  | .lit _ => 1
  | .nil => 1
  | .ptr d => uptoBulk d + 1
  | .slice elems spare => uptoBulkAll elems + uptoBulkAll spare + 1
  | .agg parts => uptoBulkAll parts + 1
  | .iface _ d => uptoBulk d + 1
  | .map entries => uptoBulkEntries entries + 1
  | .held _ => 1
def uptoBulkAll {H : Type} : List (DataW H) → Nat
  | [] => 0
  | d :: r => uptoBulk d + uptoBulkAll r
def uptoBulkEntries {H : Type} : List (Lit × DataW H) → Nat
  | [] => 0
  | x :: r => uptoBulkEntry x + uptoBulkEntries r
def uptoBulkEntry {H : Type} : Lit × DataW H → Nat
  | (.string bytes, d) => bytes.length + uptoBulk d + 1
  | (_, d) => uptoBulk d + 1
 end
def uptoSmall : (H : Type) → List (DataW H) → Bool := fun _ ds => decide (uptoBulkAll ds ≤ 1048576)
def OpenSpec.upto (s : _root_.Go.ChangeSpec) : _root_.Go.OpenSpec := { _root_.Go.OpenSpec.ofChange s with cond := some uptoSmall }

/-- 'syllogistlaw.TruthDuals', WHERE WHAT IT READS IS OF BULK AT MOST 1048576: true; the input reads as it did. -/
def truthDualsUptoRow : OpenClaim := { program := "ytcokpjffgeihbaa", sum := "745aff127bf65ee8d717e0bae645f587bffb170a44f0f47ca0c8d20fe247df7d", func := "syllogist/syllogistlaw.TruthDuals", spec := "truthDuals", plainKeys := false, apart := false, narrowed := true }
def TruthDualsUptoSaid : Prop := truthDualsUptoRow.holds Try.pinned (OpenSpec.upto truthDualsSpec)

/-- 'syllogistlaw.TruthSums', WHERE WHAT IT READS IS OF BULK AT MOST 1048576: true; the input reads as it did. -/
def truthSumsUptoRow : OpenClaim := { program := "ytcokpjffgeihbaa", sum := "745aff127bf65ee8d717e0bae645f587bffb170a44f0f47ca0c8d20fe247df7d", func := "syllogist/syllogistlaw.TruthSums", spec := "truthSums", plainKeys := false, apart := false, narrowed := true }
def TruthSumsUptoSaid : Prop := truthSumsUptoRow.holds Try.pinned (OpenSpec.upto truthSumsSpec)

/-- 'syllogistlaw.TruthClasses', WHERE WHAT IT READS IS OF BULK AT MOST 1048576: true; the input reads as it did. -/
def truthClassesUptoRow : OpenClaim := { program := "ytcokpjffgeihbaa", sum := "745aff127bf65ee8d717e0bae645f587bffb170a44f0f47ca0c8d20fe247df7d", func := "syllogist/syllogistlaw.TruthClasses", spec := "truthClasses", plainKeys := false, apart := false, narrowed := true }
def TruthClassesUptoSaid : Prop := truthClassesUptoRow.holds Try.pinned (OpenSpec.upto truthClassesSpec)

/-- 'syllogistlaw.TruthWholes', WHERE WHAT IT READS IS OF BULK AT MOST 1048576: true; the input reads as it did. -/
def truthWholesUptoRow : OpenClaim := { program := "ytcokpjffgeihbaa", sum := "745aff127bf65ee8d717e0bae645f587bffb170a44f0f47ca0c8d20fe247df7d", func := "syllogist/syllogistlaw.TruthWholes", spec := "truthWholes", plainKeys := false, apart := false, narrowed := true }
def TruthWholesUptoSaid : Prop := truthWholesUptoRow.holds Try.pinned (OpenSpec.upto truthWholesSpec)

/-- 'syllogistlaw.TruthPrimes', WHERE WHAT IT READS IS OF BULK AT MOST 1048576: true; the input reads as it did. -/
def truthPrimesUptoRow : OpenClaim := { program := "ytcokpjffgeihbaa", sum := "745aff127bf65ee8d717e0bae645f587bffb170a44f0f47ca0c8d20fe247df7d", func := "syllogist/syllogistlaw.TruthPrimes", spec := "truthPrimes", unfollowed := true, recurses := true, plainKeys := false, apart := false, narrowed := true }
def TruthPrimesUptoSaid : Prop := truthPrimesUptoRow.holds Try.pinned (OpenSpec.upto truthPrimesSpec)

/-- 'syllogistkeep.TruthDual', WHERE WHAT IT READS IS OF BULK AT MOST 1048576: true; the input reads as it did. -/
def truthDualUptoRow : OpenClaim := { program := "ytcokpjffgeihbaa", sum := "745aff127bf65ee8d717e0bae645f587bffb170a44f0f47ca0c8d20fe247df7d", func := "syllogist/syllogistkeep.TruthDual", spec := "truthDual", plainKeys := false, apart := false, narrowed := true }
def TruthDualUptoSaid : Prop := truthDualUptoRow.holds Try.pinned (OpenSpec.upto truthDualSpec)

/-- 'syllogistkeep.TruthSum', WHERE WHAT IT READS IS OF BULK AT MOST 1048576: true; the input reads as it did. -/
def truthSumUptoRow : OpenClaim := { program := "ytcokpjffgeihbaa", sum := "745aff127bf65ee8d717e0bae645f587bffb170a44f0f47ca0c8d20fe247df7d", func := "syllogist/syllogistkeep.TruthSum", spec := "truthSum", plainKeys := false, apart := false, narrowed := true }
def TruthSumUptoSaid : Prop := truthSumUptoRow.holds Try.pinned (OpenSpec.upto truthSumSpec)

/-- 'syllogistkeep.TruthPost', WHERE WHAT IT READS IS OF BULK AT MOST 1048576: true; the input reads as it did. -/
def truthPostUptoRow : OpenClaim := { program := "ytcokpjffgeihbaa", sum := "745aff127bf65ee8d717e0bae645f587bffb170a44f0f47ca0c8d20fe247df7d", func := "syllogist/syllogistkeep.TruthPost", spec := "truthPost", plainKeys := false, apart := false, narrowed := true }
def TruthPostUptoSaid : Prop := truthPostUptoRow.holds Try.pinned (OpenSpec.upto truthPostSpec)

/-- 'syllogistkeep.TruthPrime', WHERE WHAT IT READS IS OF BULK AT MOST 1048576: true; the input reads as it did. -/
def truthPrimeUptoRow : OpenClaim := { program := "ytcokpjffgeihbaa", sum := "745aff127bf65ee8d717e0bae645f587bffb170a44f0f47ca0c8d20fe247df7d", func := "syllogist/syllogistkeep.TruthPrime", spec := "truthPrime", unfollowed := true, recurses := true, plainKeys := false, apart := false, narrowed := true }
def TruthPrimeUptoSaid : Prop := truthPrimeUptoRow.holds Try.pinned (OpenSpec.upto truthPrimeSpec)

end Rows
end Go.Proofs.Ytcokpjffgeihbaa
