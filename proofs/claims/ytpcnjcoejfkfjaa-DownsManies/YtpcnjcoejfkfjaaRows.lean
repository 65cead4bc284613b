/-
  No cell of these rows narrows 'for every input' (looked for: loops, veiled, ifaces, maps, wideKeys, modest, calm, conditions, laid).
  DERIVED. THE GIVEN ROWS OF THIS SEAT. 6 by the template 'for every input the law returns true; each argument reads behind the call as it read before'; 0 by the template 'total and deterministic' (their statements: YtpcnjcoejfkfjaaTotals.lean).
  GIVEN WITH THE SEED: the statements are not yours to turn. If you find one false, say at which input.
  Laid BY PROGRAM, IN A SANDBOX (cutbox-rows.mjs): the forced cells as the released guide's own fill.sh prints them over the translation dba0e4a6a48b517c… (all of the seat's roots in one cut). By AI agents, Wed Nov 11 2026. No macro, syntax, notation, axiom, sorry.
-/
import Derived.Test.YtpcnjcoejfkfjaaChecked
import GoSem.Claim
import GoSem.ClaimJoined
import GoSem.ClaimMapViews
import Derived.JoinedTies
import Derived.KernelRfl
namespace Go.Proofs.Ytpcnjcoejfkfjaa
/- THE CELL 'sum', in the pinned program and in every row, IS THE sha256 OF THE DUMP (.gsa) THAT YtpcnjcoejfkfjaaProg.lean LOADS. Nothing in Lean hashes anything: it is a label: what it is worth is what the hold of that sum in a sandbox is worth. -/
noncomputable def Try.pinned : Pinned := { name := "ytpcnjcoejfkfjaa", sum := "dba0e4a6a48b517cc088dd07297b17e02530e351592eb46d1fde96f5b4f738fe", checked := Try.checked }
namespace Rows
def none {H : Type} : Left H := { results := [], args := [] }

/-- 'syllogistlaw.DownsAlls': WHATEVER THE INPUT: true; the input reads as it did. -/
def downsAllsSpec : ChangeSpec := { name := "downsAlls", fn := fun _ => fun
  | [d1, d2] => { results := [.lit (.bool true)], args := [d1, d2] }
  | _ => none }
def downsAllsRow : OpenClaim := { program := "ytpcnjcoejfkfjaa", sum := "dba0e4a6a48b517cc088dd07297b17e02530e351592eb46d1fde96f5b4f738fe", func := "syllogist/syllogistlaw.DownsAlls", spec := "downsAlls", apart := false }
def DownsAllsSaid : Prop := downsAllsRow.holds Try.pinned (OpenSpec.ofChange downsAllsSpec)

/-- ITS FALSE NEIGHBOUR: 'it returns false'. Refute it at one input. -/
def downsAllsWrong : ChangeSpec := { name := "downsAlls", fn := fun _ => fun
  | [d1, d2] => { results := [.lit (.bool false)], args := [d1, d2] }
  | _ => none }
def DownsAllsWrongFalsely : Prop := downsAllsRow.holds Try.pinned (OpenSpec.ofChange downsAllsWrong)

/-- 'syllogistlaw.DownsManies': WHATEVER THE INPUT: true; the input reads as it did. -/
def downsManiesSpec : ChangeSpec := { name := "downsManies", fn := fun _ => fun
  | [d1, d2] => { results := [.lit (.bool true)], args := [d1, d2] }
  | _ => none }
def downsManiesRow : OpenClaim := { program := "ytpcnjcoejfkfjaa", sum := "dba0e4a6a48b517cc088dd07297b17e02530e351592eb46d1fde96f5b4f738fe", func := "syllogist/syllogistlaw.DownsManies", spec := "downsManies", apart := false }
def DownsManiesSaid : Prop := downsManiesRow.holds Try.pinned (OpenSpec.ofChange downsManiesSpec)

/-- ITS FALSE NEIGHBOUR: 'it returns false'. Refute it at one input. -/
def downsManiesWrong : ChangeSpec := { name := "downsManies", fn := fun _ => fun
  | [d1, d2] => { results := [.lit (.bool false)], args := [d1, d2] }
  | _ => none }
def DownsManiesWrongFalsely : Prop := downsManiesRow.holds Try.pinned (OpenSpec.ofChange downsManiesWrong)

/-- 'syllogistlaw.DownsFills': WHATEVER THE INPUT: true; the input reads as it did. -/
def downsFillsSpec : ChangeSpec := { name := "downsFills", fn := fun _ => fun
  | [d1, d2, d3] => { results := [.lit (.bool true)], args := [d1, d2, d3] }
  | _ => none }
def downsFillsRow : OpenClaim := { program := "ytpcnjcoejfkfjaa", sum := "dba0e4a6a48b517cc088dd07297b17e02530e351592eb46d1fde96f5b4f738fe", func := "syllogist/syllogistlaw.DownsFills", spec := "downsFills", apart := false }
def DownsFillsSaid : Prop := downsFillsRow.holds Try.pinned (OpenSpec.ofChange downsFillsSpec)

/-- ITS FALSE NEIGHBOUR: 'it returns false'. Refute it at one input. -/
def downsFillsWrong : ChangeSpec := { name := "downsFills", fn := fun _ => fun
  | [d1, d2, d3] => { results := [.lit (.bool false)], args := [d1, d2, d3] }
  | _ => none }
def DownsFillsWrongFalsely : Prop := downsFillsRow.holds Try.pinned (OpenSpec.ofChange downsFillsWrong)

/-- 'syllogistlaw.DownsEdges': WHATEVER THE INPUT: true; the input reads as it did. -/
def downsEdgesSpec : ChangeSpec := { name := "downsEdges", fn := fun _ => fun
  | [d1, d2, d3] => { results := [.lit (.bool true)], args := [d1, d2, d3] }
  | _ => none }
def downsEdgesRow : OpenClaim := { program := "ytpcnjcoejfkfjaa", sum := "dba0e4a6a48b517cc088dd07297b17e02530e351592eb46d1fde96f5b4f738fe", func := "syllogist/syllogistlaw.DownsEdges", spec := "downsEdges", apart := false }
def DownsEdgesSaid : Prop := downsEdgesRow.holds Try.pinned (OpenSpec.ofChange downsEdgesSpec)

/-- ITS FALSE NEIGHBOUR: 'it returns false'. Refute it at one input. -/
def downsEdgesWrong : ChangeSpec := { name := "downsEdges", fn := fun _ => fun
  | [d1, d2, d3] => { results := [.lit (.bool false)], args := [d1, d2, d3] }
  | _ => none }
def DownsEdgesWrongFalsely : Prop := downsEdgesRow.holds Try.pinned (OpenSpec.ofChange downsEdgesWrong)

/-- 'syllogistkeep.DownsEdge': WHATEVER THE INPUT: true; the input reads as it did. -/
def downsEdgeSpec : ChangeSpec := { name := "downsEdge", fn := fun _ => fun
  | [d1, d2, d3] => { results := [.lit (.bool true)], args := [d1, d2, d3] }
  | _ => none }
def downsEdgeRow : OpenClaim := { program := "ytpcnjcoejfkfjaa", sum := "dba0e4a6a48b517cc088dd07297b17e02530e351592eb46d1fde96f5b4f738fe", func := "syllogist/syllogistkeep.DownsEdge", spec := "downsEdge", apart := false }
def DownsEdgeSaid : Prop := downsEdgeRow.holds Try.pinned (OpenSpec.ofChange downsEdgeSpec)

/-- ITS FALSE NEIGHBOUR: 'it returns false'. Refute it at one input. -/
def downsEdgeWrong : ChangeSpec := { name := "downsEdge", fn := fun _ => fun
  | [d1, d2, d3] => { results := [.lit (.bool false)], args := [d1, d2, d3] }
  | _ => none }
def DownsEdgeWrongFalsely : Prop := downsEdgeRow.holds Try.pinned (OpenSpec.ofChange downsEdgeWrong)

/-- 'syllogistkeep.DownsMany': WHATEVER THE INPUT: true; the input reads as it did. -/
def downsManySpec : ChangeSpec := { name := "downsMany", fn := fun _ => fun
  | [d1, d2] => { results := [.lit (.bool true)], args := [d1, d2] }
  | _ => none }
def downsManyRow : OpenClaim := { program := "ytpcnjcoejfkfjaa", sum := "dba0e4a6a48b517cc088dd07297b17e02530e351592eb46d1fde96f5b4f738fe", func := "syllogist/syllogistkeep.DownsMany", spec := "downsMany", apart := false }
def DownsManySaid : Prop := downsManyRow.holds Try.pinned (OpenSpec.ofChange downsManySpec)

/-- ITS FALSE NEIGHBOUR: 'it returns false'. Refute it at one input. -/
def downsManyWrong : ChangeSpec := { name := "downsMany", fn := fun _ => fun
  | [d1, d2] => { results := [.lit (.bool false)], args := [d1, d2] }
  | _ => none }
def DownsManyWrongFalsely : Prop := downsManyRow.holds Try.pinned (OpenSpec.ofChange downsManyWrong)

/- THE SECOND FORM. 'bulk': how many values and letters a reading holds, each counted each time it is reached (what is shared counts as often as it is met; a slice's spare places count too). A statement '..UptoSaid' is the law's where the arguments, and the package variables that the reading takes, are together of bulk at most 1048576: NARROWER than '..Said'. Prove '..Said' where nothing that the law and all that it calls make is longer than what came in: it says more and counts as full. Else prove '..UptoSaid'. A law counts once. -/
mutual
def uptoBulk {H : Type} : DataW H → Nat
  | .lit (.string bytes) => bytes.length + 1
  | .lit _ => 1
  | .nil => 1
  | .ptr d => uptoBulk d + 1
  | .slice elems spare => uptoBulkAll elems + uptoBulkAll spare + 1
  | .agg parts => uptoBulkAll parts + 1
  | .iface _ d => uptoBulk d + 1
  | .map entries => uptoBulkEntries entries + 1
  | .held _ => 1
def uptoBulkAll {H : Type} : List (DataW H) → Nat
  | [] => 0
  | d :: r => uptoBulk d + uptoBulkAll r
def uptoBulkEntries {H : Type} : List (Lit × DataW H) → Nat
  | [] => 0
  | x :: r => uptoBulkEntry x + uptoBulkEntries r
def uptoBulkEntry {H : Type} : Lit × DataW H → Nat
  | (.string bytes, d) => bytes.length + uptoBulk d + 1
  | (_, d) => uptoBulk d + 1
 end
def uptoSmall : (H : Type) → List (DataW H) → Bool := fun _ ds => decide (uptoBulkAll ds ≤ 1048576)
def OpenSpec.upto (s : _root_.Go.ChangeSpec) : _root_.Go.OpenSpec := { _root_.Go.OpenSpec.ofChange s with cond := some uptoSmall }

/-- 'syllogistlaw.DownsAlls', WHERE WHAT IT READS IS OF BULK AT MOST 1048576: true; the input reads as it did. -/
def downsAllsUptoRow : OpenClaim := { program := "ytpcnjcoejfkfjaa", sum := "dba0e4a6a48b517cc088dd07297b17e02530e351592eb46d1fde96f5b4f738fe", func := "syllogist/syllogistlaw.DownsAlls", spec := "downsAlls", apart := false, narrowed := true }
def DownsAllsUptoSaid : Prop := downsAllsUptoRow.holds Try.pinned (OpenSpec.upto downsAllsSpec)

/-- 'syllogistlaw.DownsManies', WHERE WHAT IT READS IS OF BULK AT MOST 1048576: true; the input reads as it did. -/
def downsManiesUptoRow : OpenClaim := { program := "ytpcnjcoejfkfjaa", sum := "dba0e4a6a48b517cc088dd07297b17e02530e351592eb46d1fde96f5b4f738fe", func := "syllogist/syllogistlaw.DownsManies", spec := "downsManies", apart := false, narrowed := true }
def DownsManiesUptoSaid : Prop := downsManiesUptoRow.holds Try.pinned (OpenSpec.upto downsManiesSpec)

/-- 'syllogistlaw.DownsFills', WHERE WHAT IT READS IS OF BULK AT MOST 1048576: true; the input reads as it did. -/
def downsFillsUptoRow : OpenClaim := { program := "ytpcnjcoejfkfjaa", sum := "dba0e4a6a48b517cc088dd07297b17e02530e351592eb46d1fde96f5b4f738fe", func := "syllogist/syllogistlaw.DownsFills", spec := "downsFills", apart := false, narrowed := true }
def DownsFillsUptoSaid : Prop := downsFillsUptoRow.holds Try.pinned (OpenSpec.upto downsFillsSpec)

/-- 'syllogistlaw.DownsEdges', WHERE WHAT IT READS IS OF BULK AT MOST 1048576: true; the input reads as it did. -/
def downsEdgesUptoRow : OpenClaim := { program := "ytpcnjcoejfkfjaa", sum := "dba0e4a6a48b517cc088dd07297b17e02530e351592eb46d1fde96f5b4f738fe", func := "syllogist/syllogistlaw.DownsEdges", spec := "downsEdges", apart := false, narrowed := true }
def DownsEdgesUptoSaid : Prop := downsEdgesUptoRow.holds Try.pinned (OpenSpec.upto downsEdgesSpec)

/-- 'syllogistkeep.DownsEdge', WHERE WHAT IT READS IS OF BULK AT MOST 1048576: true; the input reads as it did. -/
def downsEdgeUptoRow : OpenClaim := { program := "ytpcnjcoejfkfjaa", sum := "dba0e4a6a48b517cc088dd07297b17e02530e351592eb46d1fde96f5b4f738fe", func := "syllogist/syllogistkeep.DownsEdge", spec := "downsEdge", apart := false, narrowed := true }
def DownsEdgeUptoSaid : Prop := downsEdgeUptoRow.holds Try.pinned (OpenSpec.upto downsEdgeSpec)

/-- 'syllogistkeep.DownsMany', WHERE WHAT IT READS IS OF BULK AT MOST 1048576: true; the input reads as it did. -/
def downsManyUptoRow : OpenClaim := { program := "ytpcnjcoejfkfjaa", sum := "dba0e4a6a48b517cc088dd07297b17e02530e351592eb46d1fde96f5b4f738fe", func := "syllogist/syllogistkeep.DownsMany", spec := "downsMany", apart := false, narrowed := true }
def DownsManyUptoSaid : Prop := downsManyUptoRow.holds Try.pinned (OpenSpec.upto downsManySpec)

end Rows
end Go.Proofs.Ytpcnjcoejfkfjaa
