/-
  No cell of these rows narrows 'for every input' (looked for: loops, veiled, ifaces, maps, wideKeys, modest, calm, conditions, laid).
  DERIVED. THE GIVEN ROWS OF THIS SEAT. 8 by the template 'for every input the law returns true; each argument reads behind the call as it read before'; 0 by the template 'total and deterministic' (their statements: YtcebbhfpnkhlmaaTotals.lean).
  GIVEN WITH THE SEED: the statements are not yours to turn. If you find one false, say at which input.
  Laid BY PROGRAM, IN A SANDBOX (cutbox-rows.mjs): the forced cells as the released guide's own fill.sh prints them over the translation 50ec125ea69a8861… (all of the seat's roots in one cut). By AI agents, Wed Nov 11 2026. No macro, syntax, notation, axiom, sorry.
-/
import Derived.Test.YtcebbhfpnkhlmaaChecked
import GoSem.Claim
import GoSem.ClaimJoined
import GoSem.ClaimMapViews
import Derived.JoinedTies
import Derived.KernelRfl
namespace Go.Proofs.Ytcebbhfpnkhlmaa
/- THE CELL 'sum', in the pinned program and in every row, IS THE sha256 OF THE DUMP (.gsa) THAT YtcebbhfpnkhlmaaProg.lean LOADS. Nothing in Lean hashes anything: it is a label: what it is worth is what the hold of that sum in a sandbox is worth. -/
noncomputable def Try.pinned : Pinned := { name := "ytcebbhfpnkhlmaa", sum := "50ec125ea69a8861cc0cf9ef025d53f01963d90dfc40156d2e2986909d41a80a", checked := Try.checked }
namespace Rows
def none {H : Type} : Left H := { results := [], args := [] }

/-- 'syllogistlaw.BetweenFollows': WHATEVER THE INPUT: true; the input reads as it did. -/
def betweenFollowsSpec : ChangeSpec := { name := "betweenFollows", fn := fun _ => fun
  | [d1, d2, d3] => { results := [.lit (.bool true)], args := [d1, d2, d3] }
  | _ => none }
def betweenFollowsRow : OpenClaim := { program := "ytcebbhfpnkhlmaa", sum := "50ec125ea69a8861cc0cf9ef025d53f01963d90dfc40156d2e2986909d41a80a", func := "syllogist/syllogistlaw.BetweenFollows", spec := "betweenFollows", apart := false }
def BetweenFollowsSaid : Prop := betweenFollowsRow.holds Try.pinned (OpenSpec.ofChange betweenFollowsSpec)

/-- ITS FALSE NEIGHBOUR: 'it returns false'. Refute it at one input. -/
def betweenFollowsWrong : ChangeSpec := { name := "betweenFollows", fn := fun _ => fun
  | [d1, d2, d3] => { results := [.lit (.bool false)], args := [d1, d2, d3] }
  | _ => none }
def BetweenFollowsWrongFalsely : Prop := betweenFollowsRow.holds Try.pinned (OpenSpec.ofChange betweenFollowsWrong)

/-- 'syllogistlaw.BetweenLeasts': WHATEVER THE INPUT: true; the input reads as it did. -/
def betweenLeastsSpec : ChangeSpec := { name := "betweenLeasts", fn := fun _ => fun
  | [d1, d2, d3] => { results := [.lit (.bool true)], args := [d1, d2, d3] }
  | _ => none }
def betweenLeastsRow : OpenClaim := { program := "ytcebbhfpnkhlmaa", sum := "50ec125ea69a8861cc0cf9ef025d53f01963d90dfc40156d2e2986909d41a80a", func := "syllogist/syllogistlaw.BetweenLeasts", spec := "betweenLeasts", apart := false }
def BetweenLeastsSaid : Prop := betweenLeastsRow.holds Try.pinned (OpenSpec.ofChange betweenLeastsSpec)

/-- ITS FALSE NEIGHBOUR: 'it returns false'. Refute it at one input. -/
def betweenLeastsWrong : ChangeSpec := { name := "betweenLeasts", fn := fun _ => fun
  | [d1, d2, d3] => { results := [.lit (.bool false)], args := [d1, d2, d3] }
  | _ => none }
def BetweenLeastsWrongFalsely : Prop := betweenLeastsRow.holds Try.pinned (OpenSpec.ofChange betweenLeastsWrong)

/-- 'syllogistlaw.BetweenMosts': WHATEVER THE INPUT: true; the input reads as it did. -/
def betweenMostsSpec : ChangeSpec := { name := "betweenMosts", fn := fun _ => fun
  | [d1, d2, d3] => { results := [.lit (.bool true)], args := [d1, d2, d3] }
  | _ => none }
def betweenMostsRow : OpenClaim := { program := "ytcebbhfpnkhlmaa", sum := "50ec125ea69a8861cc0cf9ef025d53f01963d90dfc40156d2e2986909d41a80a", func := "syllogist/syllogistlaw.BetweenMosts", spec := "betweenMosts", apart := false }
def BetweenMostsSaid : Prop := betweenMostsRow.holds Try.pinned (OpenSpec.ofChange betweenMostsSpec)

/-- ITS FALSE NEIGHBOUR: 'it returns false'. Refute it at one input. -/
def betweenMostsWrong : ChangeSpec := { name := "betweenMosts", fn := fun _ => fun
  | [d1, d2, d3] => { results := [.lit (.bool false)], args := [d1, d2, d3] }
  | _ => none }
def BetweenMostsWrongFalsely : Prop := betweenMostsRow.holds Try.pinned (OpenSpec.ofChange betweenMostsWrong)

/-- 'syllogistlaw.BetweenTells': WHATEVER THE INPUT: true; the input reads as it did. -/
def betweenTellsSpec : ChangeSpec := { name := "betweenTells", fn := fun _ => fun
  | [d1, d2, d3, d4] => { results := [.lit (.bool true)], args := [d1, d2, d3, d4] }
  | _ => none }
def betweenTellsRow : OpenClaim := { program := "ytcebbhfpnkhlmaa", sum := "50ec125ea69a8861cc0cf9ef025d53f01963d90dfc40156d2e2986909d41a80a", func := "syllogist/syllogistlaw.BetweenTells", spec := "betweenTells", apart := false }
def BetweenTellsSaid : Prop := betweenTellsRow.holds Try.pinned (OpenSpec.ofChange betweenTellsSpec)

/-- ITS FALSE NEIGHBOUR: 'it returns false'. Refute it at one input. -/
def betweenTellsWrong : ChangeSpec := { name := "betweenTells", fn := fun _ => fun
  | [d1, d2, d3, d4] => { results := [.lit (.bool false)], args := [d1, d2, d3, d4] }
  | _ => none }
def BetweenTellsWrongFalsely : Prop := betweenTellsRow.holds Try.pinned (OpenSpec.ofChange betweenTellsWrong)

/-- 'syllogistlaw.BetweenTolds': WHATEVER THE INPUT: true; the input reads as it did. -/
def betweenToldsSpec : ChangeSpec := { name := "betweenTolds", fn := fun _ => fun
  | [d1, d2, d3] => { results := [.lit (.bool true)], args := [d1, d2, d3] }
  | _ => none }
def betweenToldsRow : OpenClaim := { program := "ytcebbhfpnkhlmaa", sum := "50ec125ea69a8861cc0cf9ef025d53f01963d90dfc40156d2e2986909d41a80a", func := "syllogist/syllogistlaw.BetweenTolds", spec := "betweenTolds", apart := false }
def BetweenToldsSaid : Prop := betweenToldsRow.holds Try.pinned (OpenSpec.ofChange betweenToldsSpec)

/-- ITS FALSE NEIGHBOUR: 'it returns false'. Refute it at one input. -/
def betweenToldsWrong : ChangeSpec := { name := "betweenTolds", fn := fun _ => fun
  | [d1, d2, d3] => { results := [.lit (.bool false)], args := [d1, d2, d3] }
  | _ => none }
def BetweenToldsWrongFalsely : Prop := betweenToldsRow.holds Try.pinned (OpenSpec.ofChange betweenToldsWrong)

/-- 'syllogistkeep.BetweenCraig': WHATEVER THE INPUT: true; the input reads as it did. -/
def betweenCraigSpec : ChangeSpec := { name := "betweenCraig", fn := fun _ => fun
  | [d1, d2, d3, d4, d5] => { results := [.lit (.bool true)], args := [d1, d2, d3, d4, d5] }
  | _ => none }
def betweenCraigRow : OpenClaim := { program := "ytcebbhfpnkhlmaa", sum := "50ec125ea69a8861cc0cf9ef025d53f01963d90dfc40156d2e2986909d41a80a", func := "syllogist/syllogistkeep.BetweenCraig", spec := "betweenCraig", apart := false }
def BetweenCraigSaid : Prop := betweenCraigRow.holds Try.pinned (OpenSpec.ofChange betweenCraigSpec)

/-- ITS FALSE NEIGHBOUR: 'it returns false'. Refute it at one input. -/
def betweenCraigWrong : ChangeSpec := { name := "betweenCraig", fn := fun _ => fun
  | [d1, d2, d3, d4, d5] => { results := [.lit (.bool false)], args := [d1, d2, d3, d4, d5] }
  | _ => none }
def BetweenCraigWrongFalsely : Prop := betweenCraigRow.holds Try.pinned (OpenSpec.ofChange betweenCraigWrong)

/-- 'syllogistkeep.BetweenDual': WHATEVER THE INPUT: true; the input reads as it did. -/
def betweenDualSpec : ChangeSpec := { name := "betweenDual", fn := fun _ => fun
  | [d1, d2, d3] => { results := [.lit (.bool true)], args := [d1, d2, d3] }
  | _ => none }
def betweenDualRow : OpenClaim := { program := "ytcebbhfpnkhlmaa", sum := "50ec125ea69a8861cc0cf9ef025d53f01963d90dfc40156d2e2986909d41a80a", func := "syllogist/syllogistkeep.BetweenDual", spec := "betweenDual", apart := false }
def BetweenDualSaid : Prop := betweenDualRow.holds Try.pinned (OpenSpec.ofChange betweenDualSpec)

/-- ITS FALSE NEIGHBOUR: 'it returns false'. Refute it at one input. -/
def betweenDualWrong : ChangeSpec := { name := "betweenDual", fn := fun _ => fun
  | [d1, d2, d3] => { results := [.lit (.bool false)], args := [d1, d2, d3] }
  | _ => none }
def BetweenDualWrongFalsely : Prop := betweenDualRow.holds Try.pinned (OpenSpec.ofChange betweenDualWrong)

/-- 'syllogistkeep.BetweenBeth': WHATEVER THE INPUT: true; the input reads as it did. -/
def betweenBethSpec : ChangeSpec := { name := "betweenBeth", fn := fun _ => fun
  | [d1, d2, d3] => { results := [.lit (.bool true)], args := [d1, d2, d3] }
  | _ => none }
def betweenBethRow : OpenClaim := { program := "ytcebbhfpnkhlmaa", sum := "50ec125ea69a8861cc0cf9ef025d53f01963d90dfc40156d2e2986909d41a80a", func := "syllogist/syllogistkeep.BetweenBeth", spec := "betweenBeth", apart := false }
def BetweenBethSaid : Prop := betweenBethRow.holds Try.pinned (OpenSpec.ofChange betweenBethSpec)

/-- ITS FALSE NEIGHBOUR: 'it returns false'. Refute it at one input. -/
def betweenBethWrong : ChangeSpec := { name := "betweenBeth", fn := fun _ => fun
  | [d1, d2, d3] => { results := [.lit (.bool false)], args := [d1, d2, d3] }
  | _ => none }
def BetweenBethWrongFalsely : Prop := betweenBethRow.holds Try.pinned (OpenSpec.ofChange betweenBethWrong)

/- THE SECOND FORM. 'bulk': how many values and letters a reading holds, each counted each time it is reached (what is shared counts as often as it is met; a slice's spare places count too). A statement '..UptoSaid' is the law's where the arguments, and the package variables that the reading takes, are together of bulk at most 1048576: NARROWER than '..Said'. Prove '..Said' where nothing that the law and all that it calls make is longer than what came in: it says more and counts as full. Else prove '..UptoSaid'. A law counts once. -/
mutual
def uptoBulk {H : Type} : DataW H → Nat
  | .lit (.string bytes) => bytes.length + 1
  | .lit _ => 1
  | .nil => 1
  | .ptr d => uptoBulk d + 1
  | .slice elems spare => uptoBulkAll elems + uptoBulkAll spare + 1
  | .agg parts => uptoBulkAll parts + 1
  | .iface _ d => uptoBulk d + 1
  | .map entries => uptoBulkEntries entries + 1
  | .held _ => 1
def uptoBulkAll {H : Type} : List (DataW H) → Nat
  | [] => 0
  | d :: r => uptoBulk d + uptoBulkAll r
def uptoBulkEntries {H : Type} : List (Lit × DataW H) → Nat
  | [] => 0
  | x :: r => uptoBulkEntry x + uptoBulkEntries r
def uptoBulkEntry {H : Type} : Lit × DataW H → Nat
  | (.string bytes, d) => bytes.length + uptoBulk d + 1
  | (_, d) => uptoBulk d + 1
 end
def uptoSmall : (H : Type) → List (DataW H) → Bool := fun _ ds => decide (uptoBulkAll ds ≤ 1048576)
def OpenSpec.upto (s : _root_.Go.ChangeSpec) : _root_.Go.OpenSpec := { _root_.Go.OpenSpec.ofChange s with cond := some uptoSmall }

/-- 'syllogistlaw.BetweenFollows', WHERE WHAT IT READS IS OF BULK AT MOST 1048576: true; the input reads as it did. -/
def betweenFollowsUptoRow : OpenClaim := { program := "ytcebbhfpnkhlmaa", sum := "50ec125ea69a8861cc0cf9ef025d53f01963d90dfc40156d2e2986909d41a80a", func := "syllogist/syllogistlaw.BetweenFollows", spec := "betweenFollows", apart := false, narrowed := true }
def BetweenFollowsUptoSaid : Prop := betweenFollowsUptoRow.holds Try.pinned (OpenSpec.upto betweenFollowsSpec)

/-- 'syllogistlaw.BetweenLeasts', WHERE WHAT IT READS IS OF BULK AT MOST 1048576: true; the input reads as it did. -/
def betweenLeastsUptoRow : OpenClaim := { program := "ytcebbhfpnkhlmaa", sum := "50ec125ea69a8861cc0cf9ef025d53f01963d90dfc40156d2e2986909d41a80a", func := "syllogist/syllogistlaw.BetweenLeasts", spec := "betweenLeasts", apart := false, narrowed := true }
def BetweenLeastsUptoSaid : Prop := betweenLeastsUptoRow.holds Try.pinned (OpenSpec.upto betweenLeastsSpec)

/-- 'syllogistlaw.BetweenMosts', WHERE WHAT IT READS IS OF BULK AT MOST 1048576: true; the input reads as it did. -/
def betweenMostsUptoRow : OpenClaim := { program := "ytcebbhfpnkhlmaa", sum := "50ec125ea69a8861cc0cf9ef025d53f01963d90dfc40156d2e2986909d41a80a", func := "syllogist/syllogistlaw.BetweenMosts", spec := "betweenMosts", apart := false, narrowed := true }
def BetweenMostsUptoSaid : Prop := betweenMostsUptoRow.holds Try.pinned (OpenSpec.upto betweenMostsSpec)

/-- 'syllogistlaw.BetweenTells', WHERE WHAT IT READS IS OF BULK AT MOST 1048576: true; the input reads as it did. -/
def betweenTellsUptoRow : OpenClaim := { program := "ytcebbhfpnkhlmaa", sum := "50ec125ea69a8861cc0cf9ef025d53f01963d90dfc40156d2e2986909d41a80a", func := "syllogist/syllogistlaw.BetweenTells", spec := "betweenTells", apart := false, narrowed := true }
def BetweenTellsUptoSaid : Prop := betweenTellsUptoRow.holds Try.pinned (OpenSpec.upto betweenTellsSpec)

/-- 'syllogistlaw.BetweenTolds', WHERE WHAT IT READS IS OF BULK AT MOST 1048576: true; the input reads as it did. -/
def betweenToldsUptoRow : OpenClaim := { program := "ytcebbhfpnkhlmaa", sum := "50ec125ea69a8861cc0cf9ef025d53f01963d90dfc40156d2e2986909d41a80a", func := "syllogist/syllogistlaw.BetweenTolds", spec := "betweenTolds", apart := false, narrowed := true }
def BetweenToldsUptoSaid : Prop := betweenToldsUptoRow.holds Try.pinned (OpenSpec.upto betweenToldsSpec)

/-- 'syllogistkeep.BetweenCraig', WHERE WHAT IT READS IS OF BULK AT MOST 1048576: true; the input reads as it did. -/
def betweenCraigUptoRow : OpenClaim := { program := "ytcebbhfpnkhlmaa", sum := "50ec125ea69a8861cc0cf9ef025d53f01963d90dfc40156d2e2986909d41a80a", func := "syllogist/syllogistkeep.BetweenCraig", spec := "betweenCraig", apart := false, narrowed := true }
def BetweenCraigUptoSaid : Prop := betweenCraigUptoRow.holds Try.pinned (OpenSpec.upto betweenCraigSpec)

/-- 'syllogistkeep.BetweenDual', WHERE WHAT IT READS IS OF BULK AT MOST 1048576: true; the input reads as it did. -/
def betweenDualUptoRow : OpenClaim := { program := "ytcebbhfpnkhlmaa", sum := "50ec125ea69a8861cc0cf9ef025d53f01963d90dfc40156d2e2986909d41a80a", func := "syllogist/syllogistkeep.BetweenDual", spec := "betweenDual", apart := false, narrowed := true }
def BetweenDualUptoSaid : Prop := betweenDualUptoRow.holds Try.pinned (OpenSpec.upto betweenDualSpec)

/-- 'syllogistkeep.BetweenBeth', WHERE WHAT IT READS IS OF BULK AT MOST 1048576: true; the input reads as it did. -/
def betweenBethUptoRow : OpenClaim := { program := "ytcebbhfpnkhlmaa", sum := "50ec125ea69a8861cc0cf9ef025d53f01963d90dfc40156d2e2986909d41a80a", func := "syllogist/syllogistkeep.BetweenBeth", spec := "betweenBeth", apart := false, narrowed := true }
def BetweenBethUptoSaid : Prop := betweenBethUptoRow.holds Try.pinned (OpenSpec.upto betweenBethSpec)

end Rows
end Go.Proofs.Ytcebbhfpnkhlmaa
