/-
  NARROWER THAN 'FOR EVERY INPUT', by the rows' own cells (each row's printed sentence says how): TwoReaches: laid · TwoStucks: laid · TwoSolve: laid · TwoTurn: laid.
  DERIVED. THE GIVEN ROWS OF THIS SEAT. 4 by the template 'for every input the law returns true; each argument reads behind the call as it read before'; 0 by the template 'total and deterministic' (their statements: YtekeeodnjlebcaaDoorTotals.lean).
  GIVEN WITH THE SEED: the statements are not yours to turn. If you find one false, say at which input.
  Laid BY PROGRAM, IN A SANDBOX (cutbox-rows.mjs): the forced cells as the released guide's own fill.sh prints them over the translation 974ae5958ce7c589… (all of the seat's roots in one cut). By AI agents, Wed Nov 11 2026. No macro, syntax, notation, axiom, sorry.
-/
import Derived.Test.YtekeeodnjlebcaaDoorChecked
import GoSem.Claim
import GoSem.ClaimJoined
import GoSem.ClaimMapViews
import Derived.JoinedTies
import Derived.KernelRfl
namespace Go.Proofs.YtekeeodnjlebcaaDoor
/- THE CELL 'sum', in the pinned program and in every row, IS THE sha256 OF THE DUMP (.gsa) THAT YtekeeodnjlebcaaDoorProg.lean LOADS. Nothing in Lean hashes anything: it is a label: what it is worth is what the hold of that sum in a sandbox is worth. -/
noncomputable def Tryd.pinned : Pinned := { name := "ytekeeodnjlebcaadoor", sum := "974ae5958ce7c589bd98f0c4e1c1567b82faf394429522d061f972d63e97255a", checked := Tryd.checked }
namespace Rows
def none {H : Type} : Left H := { results := [], args := [] }

/- WHAT THE LISTED PACKAGE-LEVEL VARIABLES READ AS WHEN THE CALL BEGINS. Each datum BY PROGRAM (the guide's laid-datum.mjs) off the statement by which the dump's own 'gosem.cut.vars' lays the variable. In a bare row this is a premise. The card (YtekeeodnjlebcaaDoorCards.lean) ties it to the program's text. -/
def laid_math_bits_deBruijn32tab {H : Type} : DataW H := .agg [.lit (.int .u8 0), .lit (.int .u8 1), .lit (.int .u8 28), .lit (.int .u8 2), .lit (.int .u8 29), .lit (.int .u8 14), .lit (.int .u8 24), .lit (.int .u8 3), .lit (.int .u8 30), .lit (.int .u8 22), .lit (.int .u8 20), .lit (.int .u8 15), .lit (.int .u8 25), .lit (.int .u8 17), .lit (.int .u8 4), .lit (.int .u8 8), .lit (.int .u8 31), .lit (.int .u8 27), .lit (.int .u8 13), .lit (.int .u8 23), .lit (.int .u8 21), .lit (.int .u8 19), .lit (.int .u8 16), .lit (.int .u8 7), .lit (.int .u8 26), .lit (.int .u8 12), .lit (.int .u8 18), .lit (.int .u8 6), .lit (.int .u8 11), .lit (.int .u8 5), .lit (.int .u8 10), .lit (.int .u8 9)]

/-- 'syllogistlaw.TwoReaches': WHATEVER THE INPUT: true; the input reads as it did. -/
def twoReachesSpec : ChangeSpec := { name := "twoReaches", fn := fun _ => fun
  | [d1, d2] => { results := [.lit (.bool true)], args := [d1, d2] }
  | _ => none }
def twoReachesRow : OpenClaim := { program := "ytekeeodnjlebcaadoor", sum := "974ae5958ce7c589bd98f0c4e1c1567b82faf394429522d061f972d63e97255a", func := "syllogist/syllogistlaw.TwoReaches", spec := "twoReaches", named := ["math/bits.deBruijn32tab"], apart := false, laid := [("math/bits.deBruijn32tab", laid_math_bits_deBruijn32tab)] }
def TwoReachesSaid : Prop := twoReachesRow.holds Tryd.pinned (OpenSpec.ofChange twoReachesSpec)

/-- ITS FALSE NEIGHBOUR: 'it returns false'. Refute it at one input. -/
def twoReachesWrong : ChangeSpec := { name := "twoReaches", fn := fun _ => fun
  | [d1, d2] => { results := [.lit (.bool false)], args := [d1, d2] }
  | _ => none }
def TwoReachesWrongFalsely : Prop := twoReachesRow.holds Tryd.pinned (OpenSpec.ofChange twoReachesWrong)

/-- 'syllogistlaw.TwoStucks': WHATEVER THE INPUT: true; the input reads as it did. -/
def twoStucksSpec : ChangeSpec := { name := "twoStucks", fn := fun _ => fun
  | [d1, d2] => { results := [.lit (.bool true)], args := [d1, d2] }
  | _ => none }
def twoStucksRow : OpenClaim := { program := "ytekeeodnjlebcaadoor", sum := "974ae5958ce7c589bd98f0c4e1c1567b82faf394429522d061f972d63e97255a", func := "syllogist/syllogistlaw.TwoStucks", spec := "twoStucks", named := ["math/bits.deBruijn32tab"], apart := false, laid := [("math/bits.deBruijn32tab", laid_math_bits_deBruijn32tab)] }
def TwoStucksSaid : Prop := twoStucksRow.holds Tryd.pinned (OpenSpec.ofChange twoStucksSpec)

/-- ITS FALSE NEIGHBOUR: 'it returns false'. Refute it at one input. -/
def twoStucksWrong : ChangeSpec := { name := "twoStucks", fn := fun _ => fun
  | [d1, d2] => { results := [.lit (.bool false)], args := [d1, d2] }
  | _ => none }
def TwoStucksWrongFalsely : Prop := twoStucksRow.holds Tryd.pinned (OpenSpec.ofChange twoStucksWrong)

/-- 'syllogistkeep.TwoSolve': WHATEVER THE INPUT: true; the input reads as it did. -/
def twoSolveSpec : ChangeSpec := { name := "twoSolve", fn := fun _ => fun
  | [d1, d2] => { results := [.lit (.bool true)], args := [d1, d2] }
  | _ => none }
def twoSolveRow : OpenClaim := { program := "ytekeeodnjlebcaadoor", sum := "974ae5958ce7c589bd98f0c4e1c1567b82faf394429522d061f972d63e97255a", func := "syllogist/syllogistkeep.TwoSolve", spec := "twoSolve", named := ["math/bits.deBruijn32tab"], apart := false, laid := [("math/bits.deBruijn32tab", laid_math_bits_deBruijn32tab)] }
def TwoSolveSaid : Prop := twoSolveRow.holds Tryd.pinned (OpenSpec.ofChange twoSolveSpec)

/-- ITS FALSE NEIGHBOUR: 'it returns false'. Refute it at one input. -/
def twoSolveWrong : ChangeSpec := { name := "twoSolve", fn := fun _ => fun
  | [d1, d2] => { results := [.lit (.bool false)], args := [d1, d2] }
  | _ => none }
def TwoSolveWrongFalsely : Prop := twoSolveRow.holds Tryd.pinned (OpenSpec.ofChange twoSolveWrong)

/-- 'syllogistkeep.TwoTurn': WHATEVER THE INPUT: true; the input reads as it did. -/
def twoTurnSpec : ChangeSpec := { name := "twoTurn", fn := fun _ => fun
  | [d1, d2, d3, d4] => { results := [.lit (.bool true)], args := [d1, d2, d3, d4] }
  | _ => none }
def twoTurnRow : OpenClaim := { program := "ytekeeodnjlebcaadoor", sum := "974ae5958ce7c589bd98f0c4e1c1567b82faf394429522d061f972d63e97255a", func := "syllogist/syllogistkeep.TwoTurn", spec := "twoTurn", named := ["math/bits.deBruijn32tab"], apart := false, laid := [("math/bits.deBruijn32tab", laid_math_bits_deBruijn32tab)] }
def TwoTurnSaid : Prop := twoTurnRow.holds Tryd.pinned (OpenSpec.ofChange twoTurnSpec)

/-- ITS FALSE NEIGHBOUR: 'it returns false'. Refute it at one input. -/
def twoTurnWrong : ChangeSpec := { name := "twoTurn", fn := fun _ => fun
  | [d1, d2, d3, d4] => { results := [.lit (.bool false)], args := [d1, d2, d3, d4] }
  | _ => none }
def TwoTurnWrongFalsely : Prop := twoTurnRow.holds Tryd.pinned (OpenSpec.ofChange twoTurnWrong)

/- THE SECOND FORM. 'bulk': how many values and letters a reading holds, each counted each time it is reached (what is shared counts as often as it is met; a slice's spare places count too). A statement '..UptoSaid' is the law's where the arguments, and the package variables that the reading takes, are together of bulk at most 1048576: NARROWER than '..Said'. Prove '..Said' where nothing that the law and all that it calls make is longer than what came in: it says more and counts as full. Else prove '..UptoSaid'. A law counts once. -/
mutual
def uptoBulk {H : Type} : DataW H → Nat
  | .lit (.string bytes) => bytes.length + 1
  | .lit _ => 1
  | .nil => 1
  | .ptr d => uptoBulk d + 1
  | .slice elems spare => uptoBulkAll elems + uptoBulkAll spare + 1
  | .agg parts => uptoBulkAll parts + 1
  | .iface _ d => uptoBulk d + 1
  | .map entries => uptoBulkEntries entries + 1
  | .held _ => 1
def uptoBulkAll {H : Type} : List (DataW H) → Nat
  | [] => 0
  | d :: r => uptoBulk d + uptoBulkAll r
def uptoBulkEntries {H : Type} : List (Lit × DataW H) → Nat
  | [] => 0
  | x :: r => uptoBulkEntry x + uptoBulkEntries r
def uptoBulkEntry {H : Type} : Lit × DataW H → Nat
  | (.string bytes, d) => bytes.length + uptoBulk d + 1
  | (_, d) => uptoBulk d + 1
 end
def uptoSmall : (H : Type) → List (DataW H) → Bool := fun _ ds => decide (uptoBulkAll ds ≤ 1048576)
def OpenSpec.upto (s : _root_.Go.ChangeSpec) : _root_.Go.OpenSpec := { _root_.Go.OpenSpec.ofChange s with cond := some uptoSmall }

/-- 'syllogistlaw.TwoReaches', WHERE WHAT IT READS IS OF BULK AT MOST 1048576: true; the input reads as it did. -/
def twoReachesUptoRow : OpenClaim := { program := "ytekeeodnjlebcaadoor", sum := "974ae5958ce7c589bd98f0c4e1c1567b82faf394429522d061f972d63e97255a", func := "syllogist/syllogistlaw.TwoReaches", spec := "twoReaches", named := ["math/bits.deBruijn32tab"], apart := false, laid := [("math/bits.deBruijn32tab", laid_math_bits_deBruijn32tab)], narrowed := true }
def TwoReachesUptoSaid : Prop := twoReachesUptoRow.holds Tryd.pinned (OpenSpec.upto twoReachesSpec)

/-- 'syllogistlaw.TwoStucks', WHERE WHAT IT READS IS OF BULK AT MOST 1048576: true; the input reads as it did. -/
def twoStucksUptoRow : OpenClaim := { program := "ytekeeodnjlebcaadoor", sum := "974ae5958ce7c589bd98f0c4e1c1567b82faf394429522d061f972d63e97255a", func := "syllogist/syllogistlaw.TwoStucks", spec := "twoStucks", named := ["math/bits.deBruijn32tab"], apart := false, laid := [("math/bits.deBruijn32tab", laid_math_bits_deBruijn32tab)], narrowed := true }
def TwoStucksUptoSaid : Prop := twoStucksUptoRow.holds Tryd.pinned (OpenSpec.upto twoStucksSpec)

/-- 'syllogistkeep.TwoSolve', WHERE WHAT IT READS IS OF BULK AT MOST 1048576: true; the input reads as it did. -/
def twoSolveUptoRow : OpenClaim := { program := "ytekeeodnjlebcaadoor", sum := "974ae5958ce7c589bd98f0c4e1c1567b82faf394429522d061f972d63e97255a", func := "syllogist/syllogistkeep.TwoSolve", spec := "twoSolve", named := ["math/bits.deBruijn32tab"], apart := false, laid := [("math/bits.deBruijn32tab", laid_math_bits_deBruijn32tab)], narrowed := true }
def TwoSolveUptoSaid : Prop := twoSolveUptoRow.holds Tryd.pinned (OpenSpec.upto twoSolveSpec)

/-- 'syllogistkeep.TwoTurn', WHERE WHAT IT READS IS OF BULK AT MOST 1048576: true; the input reads as it did. -/
def twoTurnUptoRow : OpenClaim := { program := "ytekeeodnjlebcaadoor", sum := "974ae5958ce7c589bd98f0c4e1c1567b82faf394429522d061f972d63e97255a", func := "syllogist/syllogistkeep.TwoTurn", spec := "twoTurn", named := ["math/bits.deBruijn32tab"], apart := false, laid := [("math/bits.deBruijn32tab", laid_math_bits_deBruijn32tab)], narrowed := true }
def TwoTurnUptoSaid : Prop := twoTurnUptoRow.holds Tryd.pinned (OpenSpec.upto twoTurnSpec)

end Rows
end Go.Proofs.YtekeeodnjlebcaaDoor
