/-
  No cell of these rows narrows 'for every input' (looked for: loops, veiled, ifaces, maps, wideKeys, modest, calm, conditions, laid).
  DERIVED. THE GIVEN ROWS OF THIS SEAT. 5 by the template 'for every input the law returns true; each argument reads behind the call as it read before'; 0 by the template 'total and deterministic' (their statements: YthgmbiaajgpaaaaTotals.lean).
  GIVEN WITH THE SEED: the statements are not yours to turn. If you find one false, say at which input.
  Laid BY PROGRAM, IN A SANDBOX (cutbox-rows.mjs): the forced cells as the released guide's own fill.sh prints them over the translation 573f6c76e684d67a… (all of the seat's roots in one cut). By AI agents, Wed Nov 11 2026. No macro, syntax, notation, axiom, sorry.
-/
import Derived.Test.YthgmbiaajgpaaaaChecked
import GoSem.Claim
import GoSem.ClaimJoined
import GoSem.ClaimMapViews
import Derived.JoinedTies
import Derived.KernelRfl
namespace Go.Proofs.Ythgmbiaajgpaaaa
/- THE CELL 'sum', in the pinned program and in every row, IS THE sha256 OF THE DUMP (.gsa) THAT YthgmbiaajgpaaaaProg.lean LOADS. Nothing in Lean hashes anything: it is a label: what it is worth is what the hold of that sum in a sandbox is worth. -/
noncomputable def Try.pinned : Pinned := { name := "ythgmbiaajgpaaaa", sum := "573f6c76e684d67a3c6e457c947f8e48ada50dd5bd54e5327c99323c69613c86", checked := Try.checked }
namespace Rows
def none {H : Type} : Left H := { results := [], args := [] }

/-- 'syllogistlaw.RightsCloses': WHATEVER THE INPUT: true; the input reads as it did. -/
def rightsClosesSpec : ChangeSpec := { name := "rightsCloses", fn := fun _ => fun
  | [d1, d2, d3] => { results := [.lit (.bool true)], args := [d1, d2, d3] }
  | _ => none }
def rightsClosesRow : OpenClaim := { program := "ythgmbiaajgpaaaa", sum := "573f6c76e684d67a3c6e457c947f8e48ada50dd5bd54e5327c99323c69613c86", func := "syllogist/syllogistlaw.RightsCloses", spec := "rightsCloses", unfollowed := true, recurses := true, apart := false }
def RightsClosesSaid : Prop := rightsClosesRow.holds Try.pinned (OpenSpec.ofChange rightsClosesSpec)

/-- ITS FALSE NEIGHBOUR: 'it returns false'. Refute it at one input. -/
def rightsClosesWrong : ChangeSpec := { name := "rightsCloses", fn := fun _ => fun
  | [d1, d2, d3] => { results := [.lit (.bool false)], args := [d1, d2, d3] }
  | _ => none }
def RightsClosesWrongFalsely : Prop := rightsClosesRow.holds Try.pinned (OpenSpec.ofChange rightsClosesWrong)

/-- 'syllogistlaw.RightsSafes': WHATEVER THE INPUT: true; the input reads as it did. -/
def rightsSafesSpec : ChangeSpec := { name := "rightsSafes", fn := fun _ => fun
  | [d1, d2, d3, d4, d5, d6] => { results := [.lit (.bool true)], args := [d1, d2, d3, d4, d5, d6] }
  | _ => none }
def rightsSafesRow : OpenClaim := { program := "ythgmbiaajgpaaaa", sum := "573f6c76e684d67a3c6e457c947f8e48ada50dd5bd54e5327c99323c69613c86", func := "syllogist/syllogistlaw.RightsSafes", spec := "rightsSafes", unfollowed := true, recurses := true, apart := false }
def RightsSafesSaid : Prop := rightsSafesRow.holds Try.pinned (OpenSpec.ofChange rightsSafesSpec)

/-- ITS FALSE NEIGHBOUR: 'it returns false'. Refute it at one input. -/
def rightsSafesWrong : ChangeSpec := { name := "rightsSafes", fn := fun _ => fun
  | [d1, d2, d3, d4, d5, d6] => { results := [.lit (.bool false)], args := [d1, d2, d3, d4, d5, d6] }
  | _ => none }
def RightsSafesWrongFalsely : Prop := rightsSafesRow.holds Try.pinned (OpenSpec.ofChange rightsSafesWrong)

/-- 'syllogistlaw.RightsSteps': WHATEVER THE INPUT: true; the input reads as it did. -/
def rightsStepsSpec : ChangeSpec := { name := "rightsSteps", fn := fun _ => fun
  | [d1, d2, d3, d4, d5, d6] => { results := [.lit (.bool true)], args := [d1, d2, d3, d4, d5, d6] }
  | _ => none }
def rightsStepsRow : OpenClaim := { program := "ythgmbiaajgpaaaa", sum := "573f6c76e684d67a3c6e457c947f8e48ada50dd5bd54e5327c99323c69613c86", func := "syllogist/syllogistlaw.RightsSteps", spec := "rightsSteps", unfollowed := true, recurses := true, apart := false }
def RightsStepsSaid : Prop := rightsStepsRow.holds Try.pinned (OpenSpec.ofChange rightsStepsSpec)

/-- ITS FALSE NEIGHBOUR: 'it returns false'. Refute it at one input. -/
def rightsStepsWrong : ChangeSpec := { name := "rightsSteps", fn := fun _ => fun
  | [d1, d2, d3, d4, d5, d6] => { results := [.lit (.bool false)], args := [d1, d2, d3, d4, d5, d6] }
  | _ => none }
def RightsStepsWrongFalsely : Prop := rightsStepsRow.holds Try.pinned (OpenSpec.ofChange rightsStepsWrong)

/-- 'syllogistkeep.RightsClose': WHATEVER THE INPUT: true; the input reads as it did. -/
def rightsCloseSpec : ChangeSpec := { name := "rightsClose", fn := fun _ => fun
  | [d1, d2, d3, d4] => { results := [.lit (.bool true)], args := [d1, d2, d3, d4] }
  | _ => none }
def rightsCloseRow : OpenClaim := { program := "ythgmbiaajgpaaaa", sum := "573f6c76e684d67a3c6e457c947f8e48ada50dd5bd54e5327c99323c69613c86", func := "syllogist/syllogistkeep.RightsClose", spec := "rightsClose", unfollowed := true, recurses := true, apart := false }
def RightsCloseSaid : Prop := rightsCloseRow.holds Try.pinned (OpenSpec.ofChange rightsCloseSpec)

/-- ITS FALSE NEIGHBOUR: 'it returns false'. Refute it at one input. -/
def rightsCloseWrong : ChangeSpec := { name := "rightsClose", fn := fun _ => fun
  | [d1, d2, d3, d4] => { results := [.lit (.bool false)], args := [d1, d2, d3, d4] }
  | _ => none }
def RightsCloseWrongFalsely : Prop := rightsCloseRow.holds Try.pinned (OpenSpec.ofChange rightsCloseWrong)

/-- 'syllogistkeep.RightsSafe': WHATEVER THE INPUT: true; the input reads as it did. -/
def rightsSafeSpec : ChangeSpec := { name := "rightsSafe", fn := fun _ => fun
  | [d1, d2, d3, d4, d5, d6] => { results := [.lit (.bool true)], args := [d1, d2, d3, d4, d5, d6] }
  | _ => none }
def rightsSafeRow : OpenClaim := { program := "ythgmbiaajgpaaaa", sum := "573f6c76e684d67a3c6e457c947f8e48ada50dd5bd54e5327c99323c69613c86", func := "syllogist/syllogistkeep.RightsSafe", spec := "rightsSafe", unfollowed := true, recurses := true, apart := false }
def RightsSafeSaid : Prop := rightsSafeRow.holds Try.pinned (OpenSpec.ofChange rightsSafeSpec)

/-- ITS FALSE NEIGHBOUR: 'it returns false'. Refute it at one input. -/
def rightsSafeWrong : ChangeSpec := { name := "rightsSafe", fn := fun _ => fun
  | [d1, d2, d3, d4, d5, d6] => { results := [.lit (.bool false)], args := [d1, d2, d3, d4, d5, d6] }
  | _ => none }
def RightsSafeWrongFalsely : Prop := rightsSafeRow.holds Try.pinned (OpenSpec.ofChange rightsSafeWrong)

/- THE SECOND FORM. 'bulk': how many values and letters a reading holds, each counted each time it is reached (what is shared counts as often as it is met; a slice's spare places count too). A statement '..UptoSaid' is the law's where the arguments, and the package variables that the reading takes, are together of bulk at most 1048576: NARROWER than '..Said'. Prove '..Said' where nothing that the law and all that it calls make is longer than what came in: it says more and counts as full. Else prove '..UptoSaid'. A law counts once. -/
mutual
def uptoBulk {H : Type} : DataW H → Nat
  | .lit (.string bytes) => bytes.length + 1
  | .lit _ => 1
  | .nil => 1
  | .ptr d => uptoBulk d + 1
  | .slice elems spare => uptoBulkAll elems + uptoBulkAll spare + 1
  | .agg parts => uptoBulkAll parts + 1
  | .iface _ d => uptoBulk d + 1
  | .map entries => uptoBulkEntries entries + 1
  | .held _ => 1
def uptoBulkAll {H : Type} : List (DataW H) → Nat
  | [] => 0
  | d :: r => uptoBulk d + uptoBulkAll r
def uptoBulkEntries {H : Type} : List (Lit × DataW H) → Nat
  | [] => 0
  | x :: r => uptoBulkEntry x + uptoBulkEntries r
def uptoBulkEntry {H : Type} : Lit × DataW H → Nat
  | (.string bytes, d) => bytes.length + uptoBulk d + 1
  | (_, d) => uptoBulk d + 1
 end
def uptoSmall : (H : Type) → List (DataW H) → Bool := fun _ ds => decide (uptoBulkAll ds ≤ 1048576)
def OpenSpec.upto (s : _root_.Go.ChangeSpec) : _root_.Go.OpenSpec := { _root_.Go.OpenSpec.ofChange s with cond := some uptoSmall }

/-- 'syllogistlaw.RightsCloses', WHERE WHAT IT READS IS OF BULK AT MOST 1048576: true; the input reads as it did. -/
def rightsClosesUptoRow : OpenClaim := { program := "ythgmbiaajgpaaaa", sum := "573f6c76e684d67a3c6e457c947f8e48ada50dd5bd54e5327c99323c69613c86", func := "syllogist/syllogistlaw.RightsCloses", spec := "rightsCloses", unfollowed := true, recurses := true, apart := false, narrowed := true }
def RightsClosesUptoSaid : Prop := rightsClosesUptoRow.holds Try.pinned (OpenSpec.upto rightsClosesSpec)

/-- 'syllogistlaw.RightsSafes', WHERE WHAT IT READS IS OF BULK AT MOST 1048576: true; the input reads as it did. -/
def rightsSafesUptoRow : OpenClaim := { program := "ythgmbiaajgpaaaa", sum := "573f6c76e684d67a3c6e457c947f8e48ada50dd5bd54e5327c99323c69613c86", func := "syllogist/syllogistlaw.RightsSafes", spec := "rightsSafes", unfollowed := true, recurses := true, apart := false, narrowed := true }
def RightsSafesUptoSaid : Prop := rightsSafesUptoRow.holds Try.pinned (OpenSpec.upto rightsSafesSpec)

/-- 'syllogistlaw.RightsSteps', WHERE WHAT IT READS IS OF BULK AT MOST 1048576: true; the input reads as it did. -/
def rightsStepsUptoRow : OpenClaim := { program := "ythgmbiaajgpaaaa", sum := "573f6c76e684d67a3c6e457c947f8e48ada50dd5bd54e5327c99323c69613c86", func := "syllogist/syllogistlaw.RightsSteps", spec := "rightsSteps", unfollowed := true, recurses := true, apart := false, narrowed := true }
def RightsStepsUptoSaid : Prop := rightsStepsUptoRow.holds Try.pinned (OpenSpec.upto rightsStepsSpec)

/-- 'syllogistkeep.RightsClose', WHERE WHAT IT READS IS OF BULK AT MOST 1048576: true; the input reads as it did. -/
def rightsCloseUptoRow : OpenClaim := { program := "ythgmbiaajgpaaaa", sum := "573f6c76e684d67a3c6e457c947f8e48ada50dd5bd54e5327c99323c69613c86", func := "syllogist/syllogistkeep.RightsClose", spec := "rightsClose", unfollowed := true, recurses := true, apart := false, narrowed := true }
def RightsCloseUptoSaid : Prop := rightsCloseUptoRow.holds Try.pinned (OpenSpec.upto rightsCloseSpec)

/-- 'syllogistkeep.RightsSafe', WHERE WHAT IT READS IS OF BULK AT MOST 1048576: true; the input reads as it did. -/
def rightsSafeUptoRow : OpenClaim := { program := "ythgmbiaajgpaaaa", sum := "573f6c76e684d67a3c6e457c947f8e48ada50dd5bd54e5327c99323c69613c86", func := "syllogist/syllogistkeep.RightsSafe", spec := "rightsSafe", unfollowed := true, recurses := true, apart := false, narrowed := true }
def RightsSafeUptoSaid : Prop := rightsSafeUptoRow.holds Try.pinned (OpenSpec.upto rightsSafeSpec)

end Rows
end Go.Proofs.Ythgmbiaajgpaaaa
