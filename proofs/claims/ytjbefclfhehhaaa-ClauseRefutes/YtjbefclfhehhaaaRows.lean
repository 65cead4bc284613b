/-
  No cell of these rows narrows 'for every input' (looked for: loops, veiled, ifaces, maps, wideKeys, modest, calm, conditions, laid).
  DERIVED. THE GIVEN ROWS OF THIS SEAT. 6 by the template 'for every input the law returns true; each argument reads behind the call as it read before'; 0 by the template 'total and deterministic' (their statements: YtjbefclfhehhaaaTotals.lean).
  GIVEN WITH THE SEED: the statements are not yours to turn. If you find one false, say at which input.
  Laid BY PROGRAM, IN A SANDBOX (cutbox-rows.mjs): the forced cells as the released guide's own fill.sh prints them over the translation a2d04817758f891e… (all of the seat's roots in one cut). By AI agents, Wed Nov 11 2026. No macro, syntax, notation, axiom, sorry.
-/
import Derived.Test.YtjbefclfhehhaaaChecked
import GoSem.Claim
import GoSem.ClaimJoined
import GoSem.ClaimMapViews
import Derived.JoinedTies
import Derived.KernelRfl
namespace Go.Proofs.Ytjbefclfhehhaaa
/- THE CELL 'sum', in the pinned program and in every row, IS THE sha256 OF THE DUMP (.gsa) THAT YtjbefclfhehhaaaProg.lean LOADS. Nothing in Lean hashes anything: it is a label: what it is worth is what the hold of that sum in a sandbox is worth. -/
noncomputable def Try.pinned : Pinned := { name := "ytjbefclfhehhaaa", sum := "a2d04817758f891e8918b5e793f8a1034320dd3604d455e11edbef3a7c6ebf65", checked := Try.checked }
namespace Rows
def none {H : Type} : Left H := { results := [], args := [] }

/-- 'syllogistlaw.ClauseSolves': WHATEVER THE INPUT: true; the input reads as it did. -/
def clauseSolvesSpec : ChangeSpec := { name := "clauseSolves", fn := fun _ => fun
  | [d1, d2] => { results := [.lit (.bool true)], args := [d1, d2] }
  | _ => none }
def clauseSolvesRow : OpenClaim := { program := "ytjbefclfhehhaaa", sum := "a2d04817758f891e8918b5e793f8a1034320dd3604d455e11edbef3a7c6ebf65", func := "syllogist/syllogistlaw.ClauseSolves", spec := "clauseSolves", plainKeys := false, apart := false }
def ClauseSolvesSaid : Prop := clauseSolvesRow.holds Try.pinned (OpenSpec.ofChange clauseSolvesSpec)

/-- ITS FALSE NEIGHBOUR: 'it returns false'. Refute it at one input. -/
def clauseSolvesWrong : ChangeSpec := { name := "clauseSolves", fn := fun _ => fun
  | [d1, d2] => { results := [.lit (.bool false)], args := [d1, d2] }
  | _ => none }
def ClauseSolvesWrongFalsely : Prop := clauseSolvesRow.holds Try.pinned (OpenSpec.ofChange clauseSolvesWrong)

/-- 'syllogistlaw.ClauseHorns': WHATEVER THE INPUT: true; the input reads as it did. -/
def clauseHornsSpec : ChangeSpec := { name := "clauseHorns", fn := fun _ => fun
  | [d1, d2] => { results := [.lit (.bool true)], args := [d1, d2] }
  | _ => none }
def clauseHornsRow : OpenClaim := { program := "ytjbefclfhehhaaa", sum := "a2d04817758f891e8918b5e793f8a1034320dd3604d455e11edbef3a7c6ebf65", func := "syllogist/syllogistlaw.ClauseHorns", spec := "clauseHorns", plainKeys := false, apart := false }
def ClauseHornsSaid : Prop := clauseHornsRow.holds Try.pinned (OpenSpec.ofChange clauseHornsSpec)

/-- ITS FALSE NEIGHBOUR: 'it returns false'. Refute it at one input. -/
def clauseHornsWrong : ChangeSpec := { name := "clauseHorns", fn := fun _ => fun
  | [d1, d2] => { results := [.lit (.bool false)], args := [d1, d2] }
  | _ => none }
def ClauseHornsWrongFalsely : Prop := clauseHornsRow.holds Try.pinned (OpenSpec.ofChange clauseHornsWrong)

/-- 'syllogistlaw.ClauseRefutes': WHATEVER THE INPUT: true; the input reads as it did. -/
def clauseRefutesSpec : ChangeSpec := { name := "clauseRefutes", fn := fun _ => fun
  | [d1, d2] => { results := [.lit (.bool true)], args := [d1, d2] }
  | _ => none }
def clauseRefutesRow : OpenClaim := { program := "ytjbefclfhehhaaa", sum := "a2d04817758f891e8918b5e793f8a1034320dd3604d455e11edbef3a7c6ebf65", func := "syllogist/syllogistlaw.ClauseRefutes", spec := "clauseRefutes", recurses := true, plainKeys := false, apart := false }
def ClauseRefutesSaid : Prop := clauseRefutesRow.holds Try.pinned (OpenSpec.ofChange clauseRefutesSpec)

/-- ITS FALSE NEIGHBOUR: 'it returns false'. Refute it at one input. -/
def clauseRefutesWrong : ChangeSpec := { name := "clauseRefutes", fn := fun _ => fun
  | [d1, d2] => { results := [.lit (.bool false)], args := [d1, d2] }
  | _ => none }
def ClauseRefutesWrongFalsely : Prop := clauseRefutesRow.holds Try.pinned (OpenSpec.ofChange clauseRefutesWrong)

/-- 'syllogistkeep.ClauseTwo': WHATEVER THE INPUT: true; the input reads as it did. -/
def clauseTwoSpec : ChangeSpec := { name := "clauseTwo", fn := fun _ => fun
  | [d1, d2] => { results := [.lit (.bool true)], args := [d1, d2] }
  | _ => none }
def clauseTwoRow : OpenClaim := { program := "ytjbefclfhehhaaa", sum := "a2d04817758f891e8918b5e793f8a1034320dd3604d455e11edbef3a7c6ebf65", func := "syllogist/syllogistkeep.ClauseTwo", spec := "clauseTwo", recurses := true, plainKeys := false, apart := false }
def ClauseTwoSaid : Prop := clauseTwoRow.holds Try.pinned (OpenSpec.ofChange clauseTwoSpec)

/-- ITS FALSE NEIGHBOUR: 'it returns false'. Refute it at one input. -/
def clauseTwoWrong : ChangeSpec := { name := "clauseTwo", fn := fun _ => fun
  | [d1, d2] => { results := [.lit (.bool false)], args := [d1, d2] }
  | _ => none }
def ClauseTwoWrongFalsely : Prop := clauseTwoRow.holds Try.pinned (OpenSpec.ofChange clauseTwoWrong)

/-- 'syllogistkeep.ClauseResolve': WHATEVER THE INPUT: true; the input reads as it did. -/
def clauseResolveSpec : ChangeSpec := { name := "clauseResolve", fn := fun _ => fun
  | [d1, d2, d3, d4] => { results := [.lit (.bool true)], args := [d1, d2, d3, d4] }
  | _ => none }
def clauseResolveRow : OpenClaim := { program := "ytjbefclfhehhaaa", sum := "a2d04817758f891e8918b5e793f8a1034320dd3604d455e11edbef3a7c6ebf65", func := "syllogist/syllogistkeep.ClauseResolve", spec := "clauseResolve", plainKeys := false, apart := false }
def ClauseResolveSaid : Prop := clauseResolveRow.holds Try.pinned (OpenSpec.ofChange clauseResolveSpec)

/-- ITS FALSE NEIGHBOUR: 'it returns false'. Refute it at one input. -/
def clauseResolveWrong : ChangeSpec := { name := "clauseResolve", fn := fun _ => fun
  | [d1, d2, d3, d4] => { results := [.lit (.bool false)], args := [d1, d2, d3, d4] }
  | _ => none }
def ClauseResolveWrongFalsely : Prop := clauseResolveRow.holds Try.pinned (OpenSpec.ofChange clauseResolveWrong)

/-- 'syllogistkeep.ClauseHorn': WHATEVER THE INPUT: true; the input reads as it did. -/
def clauseHornSpec : ChangeSpec := { name := "clauseHorn", fn := fun _ => fun
  | [d1, d2, d3, d4] => { results := [.lit (.bool true)], args := [d1, d2, d3, d4] }
  | _ => none }
def clauseHornRow : OpenClaim := { program := "ytjbefclfhehhaaa", sum := "a2d04817758f891e8918b5e793f8a1034320dd3604d455e11edbef3a7c6ebf65", func := "syllogist/syllogistkeep.ClauseHorn", spec := "clauseHorn", plainKeys := false, apart := false }
def ClauseHornSaid : Prop := clauseHornRow.holds Try.pinned (OpenSpec.ofChange clauseHornSpec)

/-- ITS FALSE NEIGHBOUR: 'it returns false'. Refute it at one input. -/
def clauseHornWrong : ChangeSpec := { name := "clauseHorn", fn := fun _ => fun
  | [d1, d2, d3, d4] => { results := [.lit (.bool false)], args := [d1, d2, d3, d4] }
  | _ => none }
def ClauseHornWrongFalsely : Prop := clauseHornRow.holds Try.pinned (OpenSpec.ofChange clauseHornWrong)

/- THE SECOND FORM. 'bulk': how many values and letters a reading holds, each counted each time it is reached (what is shared counts as often as it is met; a slice's spare places count too). A statement '..UptoSaid' is the law's where the arguments, and the package variables that the reading takes, are together of bulk at most 1048576: NARROWER than '..Said'. Prove '..Said' where nothing that the law and all that it calls make is longer than what came in: it says more and counts as full. Else prove '..UptoSaid'. A law counts once. -/
mutual
def uptoBulk {H : Type} : DataW H → Nat
  | .lit (.string bytes) => bytes.length + 1
  | .lit _ => 1
  | .nil => 1
  | .ptr d => uptoBulk d + 1
  | .slice elems spare => uptoBulkAll elems + uptoBulkAll spare + 1
  | .agg parts => uptoBulkAll parts + 1
  | .iface _ d => uptoBulk d + 1
  | .map entries => uptoBulkEntries entries + 1
  | .held _ => 1
def uptoBulkAll {H : Type} : List (DataW H) → Nat
  | [] => 0
  | d :: r => uptoBulk d + uptoBulkAll r
def uptoBulkEntries {H : Type} : List (Lit × DataW H) → Nat
  | [] => 0
  | x :: r => uptoBulkEntry x + uptoBulkEntries r
def uptoBulkEntry {H : Type} : Lit × DataW H → Nat
  | (.string bytes, d) => bytes.length + uptoBulk d + 1
  | (_, d) => uptoBulk d + 1
 end
def uptoSmall : (H : Type) → List (DataW H) → Bool := fun _ ds => decide (uptoBulkAll ds ≤ 1048576)
def OpenSpec.upto (s : _root_.Go.ChangeSpec) : _root_.Go.OpenSpec := { _root_.Go.OpenSpec.ofChange s with cond := some uptoSmall }

/-- 'syllogistlaw.ClauseSolves', WHERE WHAT IT READS IS OF BULK AT MOST 1048576: true; the input reads as it did. -/
def clauseSolvesUptoRow : OpenClaim := { program := "ytjbefclfhehhaaa", sum := "a2d04817758f891e8918b5e793f8a1034320dd3604d455e11edbef3a7c6ebf65", func := "syllogist/syllogistlaw.ClauseSolves", spec := "clauseSolves", plainKeys := false, apart := false, narrowed := true }
def ClauseSolvesUptoSaid : Prop := clauseSolvesUptoRow.holds Try.pinned (OpenSpec.upto clauseSolvesSpec)

/-- 'syllogistlaw.ClauseHorns', WHERE WHAT IT READS IS OF BULK AT MOST 1048576: true; the input reads as it did. -/
def clauseHornsUptoRow : OpenClaim := { program := "ytjbefclfhehhaaa", sum := "a2d04817758f891e8918b5e793f8a1034320dd3604d455e11edbef3a7c6ebf65", func := "syllogist/syllogistlaw.ClauseHorns", spec := "clauseHorns", plainKeys := false, apart := false, narrowed := true }
def ClauseHornsUptoSaid : Prop := clauseHornsUptoRow.holds Try.pinned (OpenSpec.upto clauseHornsSpec)

/-- 'syllogistlaw.ClauseRefutes', WHERE WHAT IT READS IS OF BULK AT MOST 1048576: true; the input reads as it did. -/
def clauseRefutesUptoRow : OpenClaim := { program := "ytjbefclfhehhaaa", sum := "a2d04817758f891e8918b5e793f8a1034320dd3604d455e11edbef3a7c6ebf65", func := "syllogist/syllogistlaw.ClauseRefutes", spec := "clauseRefutes", recurses := true, plainKeys := false, apart := false, narrowed := true }
def ClauseRefutesUptoSaid : Prop := clauseRefutesUptoRow.holds Try.pinned (OpenSpec.upto clauseRefutesSpec)

/-- 'syllogistkeep.ClauseTwo', WHERE WHAT IT READS IS OF BULK AT MOST 1048576: true; the input reads as it did. -/
def clauseTwoUptoRow : OpenClaim := { program := "ytjbefclfhehhaaa", sum := "a2d04817758f891e8918b5e793f8a1034320dd3604d455e11edbef3a7c6ebf65", func := "syllogist/syllogistkeep.ClauseTwo", spec := "clauseTwo", recurses := true, plainKeys := false, apart := false, narrowed := true }
def ClauseTwoUptoSaid : Prop := clauseTwoUptoRow.holds Try.pinned (OpenSpec.upto clauseTwoSpec)

/-- 'syllogistkeep.ClauseResolve', WHERE WHAT IT READS IS OF BULK AT MOST 1048576: true; the input reads as it did. -/
def clauseResolveUptoRow : OpenClaim := { program := "ytjbefclfhehhaaa", sum := "a2d04817758f891e8918b5e793f8a1034320dd3604d455e11edbef3a7c6ebf65", func := "syllogist/syllogistkeep.ClauseResolve", spec := "clauseResolve", plainKeys := false, apart := false, narrowed := true }
def ClauseResolveUptoSaid : Prop := clauseResolveUptoRow.holds Try.pinned (OpenSpec.upto clauseResolveSpec)

/-- 'syllogistkeep.ClauseHorn', WHERE WHAT IT READS IS OF BULK AT MOST 1048576: true; the input reads as it did. -/
def clauseHornUptoRow : OpenClaim := { program := "ytjbefclfhehhaaa", sum := "a2d04817758f891e8918b5e793f8a1034320dd3604d455e11edbef3a7c6ebf65", func := "syllogist/syllogistkeep.ClauseHorn", spec := "clauseHorn", plainKeys := false, apart := false, narrowed := true }
def ClauseHornUptoSaid : Prop := clauseHornUptoRow.holds Try.pinned (OpenSpec.upto clauseHornSpec)

end Rows
end Go.Proofs.Ytjbefclfhehhaaa
