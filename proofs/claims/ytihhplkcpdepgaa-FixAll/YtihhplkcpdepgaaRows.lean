/-
  No cell of these rows narrows 'for every input' (looked for: loops, veiled, ifaces, maps, wideKeys, modest, calm, conditions, laid).
  DERIVED. THE GIVEN ROWS OF THIS SEAT. 6 by the template 'for every input the law returns true; each argument reads behind the call as it read before'; 0 by the template 'total and deterministic' (their statements: YtihhplkcpdepgaaTotals.lean).
  GIVEN WITH THE SEED: the statements are not yours to turn. If you find one false, say at which input.
  Laid BY PROGRAM, IN A SANDBOX (cutbox-rows.mjs): the forced cells as the released guide's own fill.sh prints them over the translation 6fe09bd24904898a… (all of the seat's roots in one cut). By AI agents, Wed Nov 11 2026. No macro, syntax, notation, axiom, sorry.
-/
import Derived.Test.YtihhplkcpdepgaaChecked
import GoSem.Claim
import GoSem.ClaimJoined
import GoSem.ClaimMapViews
import Derived.JoinedTies
import Derived.KernelRfl
namespace Go.Proofs.Ytihhplkcpdepgaa
/- THE CELL 'sum', in the pinned program and in every row, IS THE sha256 OF THE DUMP (.gsa) THAT YtihhplkcpdepgaaProg.lean LOADS. Nothing in Lean hashes anything: it is a label: what it is worth is what the hold of that sum in a sandbox is worth. -/
noncomputable def Try.pinned : Pinned := { name := "ytihhplkcpdepgaa", sum := "6fe09bd24904898a29f67d1bf9b96e3fa9cd489ece848059ee494ae61e38c9a4", checked := Try.checked }
namespace Rows
def none {H : Type} : Left H := { results := [], args := [] }

/-- 'syllogistlaw.FixRises': WHATEVER THE INPUT: true; the input reads as it did. -/
def fixRisesSpec : ChangeSpec := { name := "fixRises", fn := fun _ => fun
  | [d1, d2] => { results := [.lit (.bool true)], args := [d1, d2] }
  | _ => none }
def fixRisesRow : OpenClaim := { program := "ytihhplkcpdepgaa", sum := "6fe09bd24904898a29f67d1bf9b96e3fa9cd489ece848059ee494ae61e38c9a4", func := "syllogist/syllogistlaw.FixRises", spec := "fixRises", unfollowed := true, recurses := true, apart := false }
def FixRisesSaid : Prop := fixRisesRow.holds Try.pinned (OpenSpec.ofChange fixRisesSpec)

/-- ITS FALSE NEIGHBOUR: 'it returns false'. Refute it at one input. -/
def fixRisesWrong : ChangeSpec := { name := "fixRises", fn := fun _ => fun
  | [d1, d2] => { results := [.lit (.bool false)], args := [d1, d2] }
  | _ => none }
def FixRisesWrongFalsely : Prop := fixRisesRow.holds Try.pinned (OpenSpec.ofChange fixRisesWrong)

/-- 'syllogistlaw.FixAlls': WHATEVER THE INPUT: true; the input reads as it did. -/
def fixAllsSpec : ChangeSpec := { name := "fixAlls", fn := fun _ => fun
  | [d1, d2] => { results := [.lit (.bool true)], args := [d1, d2] }
  | _ => none }
def fixAllsRow : OpenClaim := { program := "ytihhplkcpdepgaa", sum := "6fe09bd24904898a29f67d1bf9b96e3fa9cd489ece848059ee494ae61e38c9a4", func := "syllogist/syllogistlaw.FixAlls", spec := "fixAlls", unfollowed := true, recurses := true, apart := false }
def FixAllsSaid : Prop := fixAllsRow.holds Try.pinned (OpenSpec.ofChange fixAllsSpec)

/-- ITS FALSE NEIGHBOUR: 'it returns false'. Refute it at one input. -/
def fixAllsWrong : ChangeSpec := { name := "fixAlls", fn := fun _ => fun
  | [d1, d2] => { results := [.lit (.bool false)], args := [d1, d2] }
  | _ => none }
def FixAllsWrongFalsely : Prop := fixAllsRow.holds Try.pinned (OpenSpec.ofChange fixAllsWrong)

/-- 'syllogistlaw.FixLeasts': WHATEVER THE INPUT: true; the input reads as it did. -/
def fixLeastsSpec : ChangeSpec := { name := "fixLeasts", fn := fun _ => fun
  | [d1, d2] => { results := [.lit (.bool true)], args := [d1, d2] }
  | _ => none }
def fixLeastsRow : OpenClaim := { program := "ytihhplkcpdepgaa", sum := "6fe09bd24904898a29f67d1bf9b96e3fa9cd489ece848059ee494ae61e38c9a4", func := "syllogist/syllogistlaw.FixLeasts", spec := "fixLeasts", unfollowed := true, recurses := true, apart := false }
def FixLeastsSaid : Prop := fixLeastsRow.holds Try.pinned (OpenSpec.ofChange fixLeastsSpec)

/-- ITS FALSE NEIGHBOUR: 'it returns false'. Refute it at one input. -/
def fixLeastsWrong : ChangeSpec := { name := "fixLeasts", fn := fun _ => fun
  | [d1, d2] => { results := [.lit (.bool false)], args := [d1, d2] }
  | _ => none }
def FixLeastsWrongFalsely : Prop := fixLeastsRow.holds Try.pinned (OpenSpec.ofChange fixLeastsWrong)

/-- 'syllogistlaw.FixMosts': WHATEVER THE INPUT: true; the input reads as it did. -/
def fixMostsSpec : ChangeSpec := { name := "fixMosts", fn := fun _ => fun
  | [d1, d2] => { results := [.lit (.bool true)], args := [d1, d2] }
  | _ => none }
def fixMostsRow : OpenClaim := { program := "ytihhplkcpdepgaa", sum := "6fe09bd24904898a29f67d1bf9b96e3fa9cd489ece848059ee494ae61e38c9a4", func := "syllogist/syllogistlaw.FixMosts", spec := "fixMosts", unfollowed := true, recurses := true, apart := false }
def FixMostsSaid : Prop := fixMostsRow.holds Try.pinned (OpenSpec.ofChange fixMostsSpec)

/-- ITS FALSE NEIGHBOUR: 'it returns false'. Refute it at one input. -/
def fixMostsWrong : ChangeSpec := { name := "fixMosts", fn := fun _ => fun
  | [d1, d2] => { results := [.lit (.bool false)], args := [d1, d2] }
  | _ => none }
def FixMostsWrongFalsely : Prop := fixMostsRow.holds Try.pinned (OpenSpec.ofChange fixMostsWrong)

/-- 'syllogistkeep.FixTarski': WHATEVER THE INPUT: true; the input reads as it did. -/
def fixTarskiSpec : ChangeSpec := { name := "fixTarski", fn := fun _ => fun
  | [d1, d2, d3] => { results := [.lit (.bool true)], args := [d1, d2, d3] }
  | _ => none }
def fixTarskiRow : OpenClaim := { program := "ytihhplkcpdepgaa", sum := "6fe09bd24904898a29f67d1bf9b96e3fa9cd489ece848059ee494ae61e38c9a4", func := "syllogist/syllogistkeep.FixTarski", spec := "fixTarski", unfollowed := true, recurses := true, apart := false }
def FixTarskiSaid : Prop := fixTarskiRow.holds Try.pinned (OpenSpec.ofChange fixTarskiSpec)

/-- ITS FALSE NEIGHBOUR: 'it returns false'. Refute it at one input. -/
def fixTarskiWrong : ChangeSpec := { name := "fixTarski", fn := fun _ => fun
  | [d1, d2, d3] => { results := [.lit (.bool false)], args := [d1, d2, d3] }
  | _ => none }
def FixTarskiWrongFalsely : Prop := fixTarskiRow.holds Try.pinned (OpenSpec.ofChange fixTarskiWrong)

/-- 'syllogistkeep.FixAll': WHATEVER THE INPUT: true; the input reads as it did. -/
def fixAllSpec : ChangeSpec := { name := "fixAll", fn := fun _ => fun
  | [d1, d2, d3, d4] => { results := [.lit (.bool true)], args := [d1, d2, d3, d4] }
  | _ => none }
def fixAllRow : OpenClaim := { program := "ytihhplkcpdepgaa", sum := "6fe09bd24904898a29f67d1bf9b96e3fa9cd489ece848059ee494ae61e38c9a4", func := "syllogist/syllogistkeep.FixAll", spec := "fixAll", unfollowed := true, recurses := true, apart := false }
def FixAllSaid : Prop := fixAllRow.holds Try.pinned (OpenSpec.ofChange fixAllSpec)

/-- ITS FALSE NEIGHBOUR: 'it returns false'. Refute it at one input. -/
def fixAllWrong : ChangeSpec := { name := "fixAll", fn := fun _ => fun
  | [d1, d2, d3, d4] => { results := [.lit (.bool false)], args := [d1, d2, d3, d4] }
  | _ => none }
def FixAllWrongFalsely : Prop := fixAllRow.holds Try.pinned (OpenSpec.ofChange fixAllWrong)

/- THE SECOND FORM. 'bulk': how many values and letters a reading holds, each counted each time it is reached (what is shared counts as often as it is met; a slice's spare places count too). A statement '..UptoSaid' is the law's where the arguments, and the package variables that the reading takes, are together of bulk at most 1048576: NARROWER than '..Said'. Prove '..Said' where nothing that the law and all that it calls make is longer than what came in: it says more and counts as full. Else prove '..UptoSaid'. A law counts once. -/
mutual
def uptoBulk {H : Type} : DataW H → Nat
  | .lit (.string bytes) => bytes.length + 1
  | .lit _ => 1
  | .nil => 1
  | .ptr d => uptoBulk d + 1
  | .slice elems spare => uptoBulkAll elems + uptoBulkAll spare + 1
  | .agg parts => uptoBulkAll parts + 1
  | .iface _ d => uptoBulk d + 1
  | .map entries => uptoBulkEntries entries + 1
  | .held _ => 1
def uptoBulkAll {H : Type} : List (DataW H) → Nat
  | [] => 0
  | d :: r => uptoBulk d + uptoBulkAll r
def uptoBulkEntries {H : Type} : List (Lit × DataW H) → Nat
  | [] => 0
  | x :: r => uptoBulkEntry x + uptoBulkEntries r
def uptoBulkEntry {H : Type} : Lit × DataW H → Nat
  | (.string bytes, d) => bytes.length + uptoBulk d + 1
  | (_, d) => uptoBulk d + 1
 end
def uptoSmall : (H : Type) → List (DataW H) → Bool := fun _ ds => decide (uptoBulkAll ds ≤ 1048576)
def OpenSpec.upto (s : _root_.Go.ChangeSpec) : _root_.Go.OpenSpec := { _root_.Go.OpenSpec.ofChange s with cond := some uptoSmall }

/-- 'syllogistlaw.FixRises', WHERE WHAT IT READS IS OF BULK AT MOST 1048576: true; the input reads as it did. -/
def fixRisesUptoRow : OpenClaim := { program := "ytihhplkcpdepgaa", sum := "6fe09bd24904898a29f67d1bf9b96e3fa9cd489ece848059ee494ae61e38c9a4", func := "syllogist/syllogistlaw.FixRises", spec := "fixRises", unfollowed := true, recurses := true, apart := false, narrowed := true }
def FixRisesUptoSaid : Prop := fixRisesUptoRow.holds Try.pinned (OpenSpec.upto fixRisesSpec)

/-- 'syllogistlaw.FixAlls', WHERE WHAT IT READS IS OF BULK AT MOST 1048576: true; the input reads as it did. -/
def fixAllsUptoRow : OpenClaim := { program := "ytihhplkcpdepgaa", sum := "6fe09bd24904898a29f67d1bf9b96e3fa9cd489ece848059ee494ae61e38c9a4", func := "syllogist/syllogistlaw.FixAlls", spec := "fixAlls", unfollowed := true, recurses := true, apart := false, narrowed := true }
def FixAllsUptoSaid : Prop := fixAllsUptoRow.holds Try.pinned (OpenSpec.upto fixAllsSpec)

/-- 'syllogistlaw.FixLeasts', WHERE WHAT IT READS IS OF BULK AT MOST 1048576: true; the input reads as it did. -/
def fixLeastsUptoRow : OpenClaim := { program := "ytihhplkcpdepgaa", sum := "6fe09bd24904898a29f67d1bf9b96e3fa9cd489ece848059ee494ae61e38c9a4", func := "syllogist/syllogistlaw.FixLeasts", spec := "fixLeasts", unfollowed := true, recurses := true, apart := false, narrowed := true }
def FixLeastsUptoSaid : Prop := fixLeastsUptoRow.holds Try.pinned (OpenSpec.upto fixLeastsSpec)

/-- 'syllogistlaw.FixMosts', WHERE WHAT IT READS IS OF BULK AT MOST 1048576: true; the input reads as it did. -/
def fixMostsUptoRow : OpenClaim := { program := "ytihhplkcpdepgaa", sum := "6fe09bd24904898a29f67d1bf9b96e3fa9cd489ece848059ee494ae61e38c9a4", func := "syllogist/syllogistlaw.FixMosts", spec := "fixMosts", unfollowed := true, recurses := true, apart := false, narrowed := true }
def FixMostsUptoSaid : Prop := fixMostsUptoRow.holds Try.pinned (OpenSpec.upto fixMostsSpec)

/-- 'syllogistkeep.FixTarski', WHERE WHAT IT READS IS OF BULK AT MOST 1048576: true; the input reads as it did. -/
def fixTarskiUptoRow : OpenClaim := { program := "ytihhplkcpdepgaa", sum := "6fe09bd24904898a29f67d1bf9b96e3fa9cd489ece848059ee494ae61e38c9a4", func := "syllogist/syllogistkeep.FixTarski", spec := "fixTarski", unfollowed := true, recurses := true, apart := false, narrowed := true }
def FixTarskiUptoSaid : Prop := fixTarskiUptoRow.holds Try.pinned (OpenSpec.upto fixTarskiSpec)

/-- 'syllogistkeep.FixAll', WHERE WHAT IT READS IS OF BULK AT MOST 1048576: true; the input reads as it did. -/
def fixAllUptoRow : OpenClaim := { program := "ytihhplkcpdepgaa", sum := "6fe09bd24904898a29f67d1bf9b96e3fa9cd489ece848059ee494ae61e38c9a4", func := "syllogist/syllogistkeep.FixAll", spec := "fixAll", unfollowed := true, recurses := true, apart := false, narrowed := true }
def FixAllUptoSaid : Prop := fixAllUptoRow.holds Try.pinned (OpenSpec.upto fixAllSpec)

end Rows
end Go.Proofs.Ytihhplkcpdepgaa
