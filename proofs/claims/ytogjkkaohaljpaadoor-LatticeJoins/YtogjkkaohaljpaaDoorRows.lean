/-
  NARROWER THAN 'FOR EVERY INPUT', by the rows' own cells (each row's printed sentence says how): LatticeJoins: laid · LatticeMeets: laid · LatticeIs: laid · LatticeShares: laid · LatticeModulars: laid · LatticeIrreducibles: laid · LatticeLaws: laid · LatticeModular: laid.
  DERIVED. THE GIVEN ROWS OF THIS SEAT. 8 by the template 'for every input the law returns true; each argument reads behind the call as it read before'; 0 by the template 'total and deterministic' (their statements: YtogjkkaohaljpaaDoorTotals.lean).
  GIVEN WITH THE SEED: the statements are not yours to turn. If you find one false, say at which input.
  Laid BY PROGRAM, IN A SANDBOX (cutbox-rows.mjs): the forced cells as the released guide's own fill.sh prints them over the translation 856dea4299f7bcf5… (all of the seat's roots in one cut). By AI agents, Wed Nov 11 2026. No macro, syntax, notation, axiom, sorry.
-/
import Derived.Test.YtogjkkaohaljpaaDoorChecked
import GoSem.Claim
import GoSem.ClaimJoined
import GoSem.ClaimMapViews
import Derived.JoinedTies
import Derived.KernelRfl
namespace Go.Proofs.YtogjkkaohaljpaaDoor
/- THE CELL 'sum', in the pinned program and in every row, IS THE sha256 OF THE DUMP (.gsa) THAT YtogjkkaohaljpaaDoorProg.lean LOADS. Nothing in Lean hashes anything: it is a label: what it is worth is what the hold of that sum in a sandbox is worth. -/
noncomputable def Tryd.pinned : Pinned := { name := "ytogjkkaohaljpaadoor", sum := "856dea4299f7bcf5e5b27ceded5b426795763caba05d8377b03f317587c76bef", checked := Tryd.checked }
namespace Rows
def none {H : Type} : Left H := { results := [], args := [] }

/- WHAT THE LISTED PACKAGE-LEVEL VARIABLES READ AS WHEN THE CALL BEGINS. Each datum BY PROGRAM (the guide's laid-datum.mjs) off the statement by which the dump's own 'gosem.cut.vars' lays the variable. In a bare row this is a premise. The card (YtogjkkaohaljpaaDoorCards.lean) ties it to the program's text. -/
def laid_math_bits_deBruijn32tab {H : Type} : DataW H := .agg [.lit (.int .u8 0), .lit (.int .u8 1), .lit (.int .u8 28), .lit (.int .u8 2), .lit (.int .u8 29), .lit (.int .u8 14), .lit (.int .u8 24), .lit (.int .u8 3), .lit (.int .u8 30), .lit (.int .u8 22), .lit (.int .u8 20), .lit (.int .u8 15), .lit (.int .u8 25), .lit (.int .u8 17), .lit (.int .u8 4), .lit (.int .u8 8), .lit (.int .u8 31), .lit (.int .u8 27), .lit (.int .u8 13), .lit (.int .u8 23), .lit (.int .u8 21), .lit (.int .u8 19), .lit (.int .u8 16), .lit (.int .u8 7), .lit (.int .u8 26), .lit (.int .u8 12), .lit (.int .u8 18), .lit (.int .u8 6), .lit (.int .u8 11), .lit (.int .u8 5), .lit (.int .u8 10), .lit (.int .u8 9)]

/-- 'syllogistlaw.LatticeJoins': WHATEVER THE INPUT: true; the input reads as it did. -/
def latticeJoinsSpec : ChangeSpec := { name := "latticeJoins", fn := fun _ => fun
  | [d1, d2, d3, d4] => { results := [.lit (.bool true)], args := [d1, d2, d3, d4] }
  | _ => none }
def latticeJoinsRow : OpenClaim := { program := "ytogjkkaohaljpaadoor", sum := "856dea4299f7bcf5e5b27ceded5b426795763caba05d8377b03f317587c76bef", func := "syllogist/syllogistlaw.LatticeJoins", spec := "latticeJoins", unfollowed := true, recurses := true, named := ["math/bits.deBruijn32tab"], apart := false, laid := [("math/bits.deBruijn32tab", laid_math_bits_deBruijn32tab)] }
def LatticeJoinsSaid : Prop := latticeJoinsRow.holds Tryd.pinned (OpenSpec.ofChange latticeJoinsSpec)

/-- ITS FALSE NEIGHBOUR: 'it returns false'. Refute it at one input. -/
def latticeJoinsWrong : ChangeSpec := { name := "latticeJoins", fn := fun _ => fun
  | [d1, d2, d3, d4] => { results := [.lit (.bool false)], args := [d1, d2, d3, d4] }
  | _ => none }
def LatticeJoinsWrongFalsely : Prop := latticeJoinsRow.holds Tryd.pinned (OpenSpec.ofChange latticeJoinsWrong)

/-- 'syllogistlaw.LatticeMeets': WHATEVER THE INPUT: true; the input reads as it did. -/
def latticeMeetsSpec : ChangeSpec := { name := "latticeMeets", fn := fun _ => fun
  | [d1, d2, d3, d4] => { results := [.lit (.bool true)], args := [d1, d2, d3, d4] }
  | _ => none }
def latticeMeetsRow : OpenClaim := { program := "ytogjkkaohaljpaadoor", sum := "856dea4299f7bcf5e5b27ceded5b426795763caba05d8377b03f317587c76bef", func := "syllogist/syllogistlaw.LatticeMeets", spec := "latticeMeets", unfollowed := true, recurses := true, named := ["math/bits.deBruijn32tab"], apart := false, laid := [("math/bits.deBruijn32tab", laid_math_bits_deBruijn32tab)] }
def LatticeMeetsSaid : Prop := latticeMeetsRow.holds Tryd.pinned (OpenSpec.ofChange latticeMeetsSpec)

/-- ITS FALSE NEIGHBOUR: 'it returns false'. Refute it at one input. -/
def latticeMeetsWrong : ChangeSpec := { name := "latticeMeets", fn := fun _ => fun
  | [d1, d2, d3, d4] => { results := [.lit (.bool false)], args := [d1, d2, d3, d4] }
  | _ => none }
def LatticeMeetsWrongFalsely : Prop := latticeMeetsRow.holds Tryd.pinned (OpenSpec.ofChange latticeMeetsWrong)

/-- 'syllogistlaw.LatticeIs': WHATEVER THE INPUT: true; the input reads as it did. -/
def latticeIsSpec : ChangeSpec := { name := "latticeIs", fn := fun _ => fun
  | [d1, d2] => { results := [.lit (.bool true)], args := [d1, d2] }
  | _ => none }
def latticeIsRow : OpenClaim := { program := "ytogjkkaohaljpaadoor", sum := "856dea4299f7bcf5e5b27ceded5b426795763caba05d8377b03f317587c76bef", func := "syllogist/syllogistlaw.LatticeIs", spec := "latticeIs", unfollowed := true, recurses := true, named := ["math/bits.deBruijn32tab"], apart := false, laid := [("math/bits.deBruijn32tab", laid_math_bits_deBruijn32tab)] }
def LatticeIsSaid : Prop := latticeIsRow.holds Tryd.pinned (OpenSpec.ofChange latticeIsSpec)

/-- ITS FALSE NEIGHBOUR: 'it returns false'. Refute it at one input. -/
def latticeIsWrong : ChangeSpec := { name := "latticeIs", fn := fun _ => fun
  | [d1, d2] => { results := [.lit (.bool false)], args := [d1, d2] }
  | _ => none }
def LatticeIsWrongFalsely : Prop := latticeIsRow.holds Tryd.pinned (OpenSpec.ofChange latticeIsWrong)

/-- 'syllogistlaw.LatticeShares': WHATEVER THE INPUT: true; the input reads as it did. -/
def latticeSharesSpec : ChangeSpec := { name := "latticeShares", fn := fun _ => fun
  | [d1, d2] => { results := [.lit (.bool true)], args := [d1, d2] }
  | _ => none }
def latticeSharesRow : OpenClaim := { program := "ytogjkkaohaljpaadoor", sum := "856dea4299f7bcf5e5b27ceded5b426795763caba05d8377b03f317587c76bef", func := "syllogist/syllogistlaw.LatticeShares", spec := "latticeShares", unfollowed := true, recurses := true, named := ["math/bits.deBruijn32tab"], apart := false, laid := [("math/bits.deBruijn32tab", laid_math_bits_deBruijn32tab)] }
def LatticeSharesSaid : Prop := latticeSharesRow.holds Tryd.pinned (OpenSpec.ofChange latticeSharesSpec)

/-- ITS FALSE NEIGHBOUR: 'it returns false'. Refute it at one input. -/
def latticeSharesWrong : ChangeSpec := { name := "latticeShares", fn := fun _ => fun
  | [d1, d2] => { results := [.lit (.bool false)], args := [d1, d2] }
  | _ => none }
def LatticeSharesWrongFalsely : Prop := latticeSharesRow.holds Tryd.pinned (OpenSpec.ofChange latticeSharesWrong)

/-- 'syllogistlaw.LatticeModulars': WHATEVER THE INPUT: true; the input reads as it did. -/
def latticeModularsSpec : ChangeSpec := { name := "latticeModulars", fn := fun _ => fun
  | [d1, d2] => { results := [.lit (.bool true)], args := [d1, d2] }
  | _ => none }
def latticeModularsRow : OpenClaim := { program := "ytogjkkaohaljpaadoor", sum := "856dea4299f7bcf5e5b27ceded5b426795763caba05d8377b03f317587c76bef", func := "syllogist/syllogistlaw.LatticeModulars", spec := "latticeModulars", unfollowed := true, recurses := true, named := ["math/bits.deBruijn32tab"], apart := false, laid := [("math/bits.deBruijn32tab", laid_math_bits_deBruijn32tab)] }
def LatticeModularsSaid : Prop := latticeModularsRow.holds Tryd.pinned (OpenSpec.ofChange latticeModularsSpec)

/-- ITS FALSE NEIGHBOUR: 'it returns false'. Refute it at one input. -/
def latticeModularsWrong : ChangeSpec := { name := "latticeModulars", fn := fun _ => fun
  | [d1, d2] => { results := [.lit (.bool false)], args := [d1, d2] }
  | _ => none }
def LatticeModularsWrongFalsely : Prop := latticeModularsRow.holds Tryd.pinned (OpenSpec.ofChange latticeModularsWrong)

/-- 'syllogistlaw.LatticeIrreducibles': WHATEVER THE INPUT: true; the input reads as it did. -/
def latticeIrreduciblesSpec : ChangeSpec := { name := "latticeIrreducibles", fn := fun _ => fun
  | [d1, d2] => { results := [.lit (.bool true)], args := [d1, d2] }
  | _ => none }
def latticeIrreduciblesRow : OpenClaim := { program := "ytogjkkaohaljpaadoor", sum := "856dea4299f7bcf5e5b27ceded5b426795763caba05d8377b03f317587c76bef", func := "syllogist/syllogistlaw.LatticeIrreducibles", spec := "latticeIrreducibles", unfollowed := true, recurses := true, named := ["math/bits.deBruijn32tab"], apart := false, laid := [("math/bits.deBruijn32tab", laid_math_bits_deBruijn32tab)] }
def LatticeIrreduciblesSaid : Prop := latticeIrreduciblesRow.holds Tryd.pinned (OpenSpec.ofChange latticeIrreduciblesSpec)

/-- ITS FALSE NEIGHBOUR: 'it returns false'. Refute it at one input. -/
def latticeIrreduciblesWrong : ChangeSpec := { name := "latticeIrreducibles", fn := fun _ => fun
  | [d1, d2] => { results := [.lit (.bool false)], args := [d1, d2] }
  | _ => none }
def LatticeIrreduciblesWrongFalsely : Prop := latticeIrreduciblesRow.holds Tryd.pinned (OpenSpec.ofChange latticeIrreduciblesWrong)

/-- 'syllogistkeep.LatticeLaws': WHATEVER THE INPUT: true; the input reads as it did. -/
def latticeLawsSpec : ChangeSpec := { name := "latticeLaws", fn := fun _ => fun
  | [d1, d2, d3, d4] => { results := [.lit (.bool true)], args := [d1, d2, d3, d4] }
  | _ => none }
def latticeLawsRow : OpenClaim := { program := "ytogjkkaohaljpaadoor", sum := "856dea4299f7bcf5e5b27ceded5b426795763caba05d8377b03f317587c76bef", func := "syllogist/syllogistkeep.LatticeLaws", spec := "latticeLaws", unfollowed := true, recurses := true, named := ["math/bits.deBruijn32tab"], apart := false, laid := [("math/bits.deBruijn32tab", laid_math_bits_deBruijn32tab)] }
def LatticeLawsSaid : Prop := latticeLawsRow.holds Tryd.pinned (OpenSpec.ofChange latticeLawsSpec)

/-- ITS FALSE NEIGHBOUR: 'it returns false'. Refute it at one input. -/
def latticeLawsWrong : ChangeSpec := { name := "latticeLaws", fn := fun _ => fun
  | [d1, d2, d3, d4] => { results := [.lit (.bool false)], args := [d1, d2, d3, d4] }
  | _ => none }
def LatticeLawsWrongFalsely : Prop := latticeLawsRow.holds Tryd.pinned (OpenSpec.ofChange latticeLawsWrong)

/-- 'syllogistkeep.LatticeModular': WHATEVER THE INPUT: true; the input reads as it did. -/
def latticeModularSpec : ChangeSpec := { name := "latticeModular", fn := fun _ => fun
  | [d1, d2] => { results := [.lit (.bool true)], args := [d1, d2] }
  | _ => none }
def latticeModularRow : OpenClaim := { program := "ytogjkkaohaljpaadoor", sum := "856dea4299f7bcf5e5b27ceded5b426795763caba05d8377b03f317587c76bef", func := "syllogist/syllogistkeep.LatticeModular", spec := "latticeModular", unfollowed := true, recurses := true, named := ["math/bits.deBruijn32tab"], apart := false, laid := [("math/bits.deBruijn32tab", laid_math_bits_deBruijn32tab)] }
def LatticeModularSaid : Prop := latticeModularRow.holds Tryd.pinned (OpenSpec.ofChange latticeModularSpec)

/-- ITS FALSE NEIGHBOUR: 'it returns false'. Refute it at one input. -/
def latticeModularWrong : ChangeSpec := { name := "latticeModular", fn := fun _ => fun
  | [d1, d2] => { results := [.lit (.bool false)], args := [d1, d2] }
  | _ => none }
def LatticeModularWrongFalsely : Prop := latticeModularRow.holds Tryd.pinned (OpenSpec.ofChange latticeModularWrong)

/- THE SECOND FORM. 'bulk': how many values and letters a reading holds, each counted each time it is reached (what is shared counts as often as it is met; a slice's spare places count too). A statement '..UptoSaid' is the law's where the arguments, and the package variables that the reading takes, are together of bulk at most 1048576: NARROWER than '..Said'. Prove '..Said' where nothing that the law and all that it calls make is longer than what came in: it says more and counts as full. Else prove '..UptoSaid'. A law counts once. -/
mutual
def uptoBulk {H : Type} : DataW H → Nat
  | .lit (.string bytes) => bytes.length + 1
  | .lit _ => 1
  | .nil => 1
  | .ptr d => uptoBulk d + 1
  | .slice elems spare => uptoBulkAll elems + uptoBulkAll spare + 1
  | .agg parts => uptoBulkAll parts + 1
  | .iface _ d => uptoBulk d + 1
  | .map entries => uptoBulkEntries entries + 1
  | .held _ => 1
def uptoBulkAll {H : Type} : List (DataW H) → Nat
  | [] => 0
  | d :: r => uptoBulk d + uptoBulkAll r
def uptoBulkEntries {H : Type} : List (Lit × DataW H) → Nat
  | [] => 0
  | x :: r => uptoBulkEntry x + uptoBulkEntries r
def uptoBulkEntry {H : Type} : Lit × DataW H → Nat
  | (.string bytes, d) => bytes.length + uptoBulk d + 1
  | (_, d) => uptoBulk d + 1
 end
def uptoSmall : (H : Type) → List (DataW H) → Bool := fun _ ds => decide (uptoBulkAll ds ≤ 1048576)
def OpenSpec.upto (s : _root_.Go.ChangeSpec) : _root_.Go.OpenSpec := { _root_.Go.OpenSpec.ofChange s with cond := some uptoSmall }

/-- 'syllogistlaw.LatticeJoins', WHERE WHAT IT READS IS OF BULK AT MOST 1048576: true; the input reads as it did. -/
def latticeJoinsUptoRow : OpenClaim := { program := "ytogjkkaohaljpaadoor", sum := "856dea4299f7bcf5e5b27ceded5b426795763caba05d8377b03f317587c76bef", func := "syllogist/syllogistlaw.LatticeJoins", spec := "latticeJoins", unfollowed := true, recurses := true, named := ["math/bits.deBruijn32tab"], apart := false, laid := [("math/bits.deBruijn32tab", laid_math_bits_deBruijn32tab)], narrowed := true }
def LatticeJoinsUptoSaid : Prop := latticeJoinsUptoRow.holds Tryd.pinned (OpenSpec.upto latticeJoinsSpec)

/-- 'syllogistlaw.LatticeMeets', WHERE WHAT IT READS IS OF BULK AT MOST 1048576: true; the input reads as it did. -/
def latticeMeetsUptoRow : OpenClaim := { program := "ytogjkkaohaljpaadoor", sum := "856dea4299f7bcf5e5b27ceded5b426795763caba05d8377b03f317587c76bef", func := "syllogist/syllogistlaw.LatticeMeets", spec := "latticeMeets", unfollowed := true, recurses := true, named := ["math/bits.deBruijn32tab"], apart := false, laid := [("math/bits.deBruijn32tab", laid_math_bits_deBruijn32tab)], narrowed := true }
def LatticeMeetsUptoSaid : Prop := latticeMeetsUptoRow.holds Tryd.pinned (OpenSpec.upto latticeMeetsSpec)

/-- 'syllogistlaw.LatticeIs', WHERE WHAT IT READS IS OF BULK AT MOST 1048576: true; the input reads as it did. -/
def latticeIsUptoRow : OpenClaim := { program := "ytogjkkaohaljpaadoor", sum := "856dea4299f7bcf5e5b27ceded5b426795763caba05d8377b03f317587c76bef", func := "syllogist/syllogistlaw.LatticeIs", spec := "latticeIs", unfollowed := true, recurses := true, named := ["math/bits.deBruijn32tab"], apart := false, laid := [("math/bits.deBruijn32tab", laid_math_bits_deBruijn32tab)], narrowed := true }
def LatticeIsUptoSaid : Prop := latticeIsUptoRow.holds Tryd.pinned (OpenSpec.upto latticeIsSpec)

/-- 'syllogistlaw.LatticeShares', WHERE WHAT IT READS IS OF BULK AT MOST 1048576: true; the input reads as it did. -/
def latticeSharesUptoRow : OpenClaim := { program := "ytogjkkaohaljpaadoor", sum := "856dea4299f7bcf5e5b27ceded5b426795763caba05d8377b03f317587c76bef", func := "syllogist/syllogistlaw.LatticeShares", spec := "latticeShares", unfollowed := true, recurses := true, named := ["math/bits.deBruijn32tab"], apart := false, laid := [("math/bits.deBruijn32tab", laid_math_bits_deBruijn32tab)], narrowed := true }
def LatticeSharesUptoSaid : Prop := latticeSharesUptoRow.holds Tryd.pinned (OpenSpec.upto latticeSharesSpec)

/-- 'syllogistlaw.LatticeModulars', WHERE WHAT IT READS IS OF BULK AT MOST 1048576: true; the input reads as it did. -/
def latticeModularsUptoRow : OpenClaim := { program := "ytogjkkaohaljpaadoor", sum := "856dea4299f7bcf5e5b27ceded5b426795763caba05d8377b03f317587c76bef", func := "syllogist/syllogistlaw.LatticeModulars", spec := "latticeModulars", unfollowed := true, recurses := true, named := ["math/bits.deBruijn32tab"], apart := false, laid := [("math/bits.deBruijn32tab", laid_math_bits_deBruijn32tab)], narrowed := true }
def LatticeModularsUptoSaid : Prop := latticeModularsUptoRow.holds Tryd.pinned (OpenSpec.upto latticeModularsSpec)

/-- 'syllogistlaw.LatticeIrreducibles', WHERE WHAT IT READS IS OF BULK AT MOST 1048576: true; the input reads as it did. -/
def latticeIrreduciblesUptoRow : OpenClaim := { program := "ytogjkkaohaljpaadoor", sum := "856dea4299f7bcf5e5b27ceded5b426795763caba05d8377b03f317587c76bef", func := "syllogist/syllogistlaw.LatticeIrreducibles", spec := "latticeIrreducibles", unfollowed := true, recurses := true, named := ["math/bits.deBruijn32tab"], apart := false, laid := [("math/bits.deBruijn32tab", laid_math_bits_deBruijn32tab)], narrowed := true }
def LatticeIrreduciblesUptoSaid : Prop := latticeIrreduciblesUptoRow.holds Tryd.pinned (OpenSpec.upto latticeIrreduciblesSpec)

/-- 'syllogistkeep.LatticeLaws', WHERE WHAT IT READS IS OF BULK AT MOST 1048576: true; the input reads as it did. -/
def latticeLawsUptoRow : OpenClaim := { program := "ytogjkkaohaljpaadoor", sum := "856dea4299f7bcf5e5b27ceded5b426795763caba05d8377b03f317587c76bef", func := "syllogist/syllogistkeep.LatticeLaws", spec := "latticeLaws", unfollowed := true, recurses := true, named := ["math/bits.deBruijn32tab"], apart := false, laid := [("math/bits.deBruijn32tab", laid_math_bits_deBruijn32tab)], narrowed := true }
def LatticeLawsUptoSaid : Prop := latticeLawsUptoRow.holds Tryd.pinned (OpenSpec.upto latticeLawsSpec)

/-- 'syllogistkeep.LatticeModular', WHERE WHAT IT READS IS OF BULK AT MOST 1048576: true; the input reads as it did. -/
def latticeModularUptoRow : OpenClaim := { program := "ytogjkkaohaljpaadoor", sum := "856dea4299f7bcf5e5b27ceded5b426795763caba05d8377b03f317587c76bef", func := "syllogist/syllogistkeep.LatticeModular", spec := "latticeModular", unfollowed := true, recurses := true, named := ["math/bits.deBruijn32tab"], apart := false, laid := [("math/bits.deBruijn32tab", laid_math_bits_deBruijn32tab)], narrowed := true }
def LatticeModularUptoSaid : Prop := latticeModularUptoRow.holds Tryd.pinned (OpenSpec.upto latticeModularSpec)

end Rows
end Go.Proofs.YtogjkkaohaljpaaDoor
