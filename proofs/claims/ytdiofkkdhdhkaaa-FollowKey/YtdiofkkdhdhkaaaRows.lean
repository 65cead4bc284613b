/-
  No cell of these rows narrows 'for every input' (looked for: loops, veiled, ifaces, maps, wideKeys, modest, calm, conditions, laid).
  DERIVED. THE GIVEN ROWS OF THIS SEAT. 9 by the template 'for every input the law returns true; each argument reads behind the call as it read before'; 0 by the template 'total and deterministic' (their statements: YtdiofkkdhdhkaaaTotals.lean).
  GIVEN WITH THE SEED: the statements are not yours to turn. If you find one false, say at which input.
  Laid BY PROGRAM, IN A SANDBOX (cutbox-rows.mjs): the forced cells as the released guide's own fill.sh prints them over the translation 211441dfbb87cccd… (all of the seat's roots in one cut). By AI agents, Wed Nov 11 2026. No macro, syntax, notation, axiom, sorry.
-/
import Derived.Test.YtdiofkkdhdhkaaaChecked
import GoSem.Claim
import GoSem.ClaimJoined
import GoSem.ClaimMapViews
import Derived.JoinedTies
import Derived.KernelRfl
namespace Go.Proofs.Ytdiofkkdhdhkaaa
/- THE CELL 'sum', in the pinned program and in every row, IS THE sha256 OF THE DUMP (.gsa) THAT YtdiofkkdhdhkaaaProg.lean LOADS. Nothing in Lean hashes anything: it is a label: what it is worth is what the hold of that sum in a sandbox is worth. -/
noncomputable def Try.pinned : Pinned := { name := "ytdiofkkdhdhkaaa", sum := "211441dfbb87cccd289ed319e76a46df5b4095b603e198e297f58a0cdb5d0f66", checked := Try.checked }
namespace Rows
def none {H : Type} : Left H := { results := [], args := [] }

/-- 'syllogistlaw.FollowCloses': WHATEVER THE INPUT: true; the input reads as it did. -/
def followClosesSpec : ChangeSpec := { name := "followCloses", fn := fun _ => fun
  | [d1, d2, d3] => { results := [.lit (.bool true)], args := [d1, d2, d3] }
  | _ => none }
def followClosesRow : OpenClaim := { program := "ytdiofkkdhdhkaaa", sum := "211441dfbb87cccd289ed319e76a46df5b4095b603e198e297f58a0cdb5d0f66", func := "syllogist/syllogistlaw.FollowCloses", spec := "followCloses", unfollowed := true, recurses := true, apart := false }
def FollowClosesSaid : Prop := followClosesRow.holds Try.pinned (OpenSpec.ofChange followClosesSpec)

/-- ITS FALSE NEIGHBOUR: 'it returns false'. Refute it at one input. -/
def followClosesWrong : ChangeSpec := { name := "followCloses", fn := fun _ => fun
  | [d1, d2, d3] => { results := [.lit (.bool false)], args := [d1, d2, d3] }
  | _ => none }
def FollowClosesWrongFalsely : Prop := followClosesRow.holds Try.pinned (OpenSpec.ofChange followClosesWrong)

/-- 'syllogistlaw.FollowDoes': WHATEVER THE INPUT: true; the input reads as it did. -/
def followDoesSpec : ChangeSpec := { name := "followDoes", fn := fun _ => fun
  | [d1, d2, d3] => { results := [.lit (.bool true)], args := [d1, d2, d3] }
  | _ => none }
def followDoesRow : OpenClaim := { program := "ytdiofkkdhdhkaaa", sum := "211441dfbb87cccd289ed319e76a46df5b4095b603e198e297f58a0cdb5d0f66", func := "syllogist/syllogistlaw.FollowDoes", spec := "followDoes", unfollowed := true, recurses := true, apart := false }
def FollowDoesSaid : Prop := followDoesRow.holds Try.pinned (OpenSpec.ofChange followDoesSpec)

/-- ITS FALSE NEIGHBOUR: 'it returns false'. Refute it at one input. -/
def followDoesWrong : ChangeSpec := { name := "followDoes", fn := fun _ => fun
  | [d1, d2, d3] => { results := [.lit (.bool false)], args := [d1, d2, d3] }
  | _ => none }
def FollowDoesWrongFalsely : Prop := followDoesRow.holds Try.pinned (OpenSpec.ofChange followDoesWrong)

/-- 'syllogistlaw.FollowCloseds': WHATEVER THE INPUT: true; the input reads as it did. -/
def followClosedsSpec : ChangeSpec := { name := "followCloseds", fn := fun _ => fun
  | [d1, d2] => { results := [.lit (.bool true)], args := [d1, d2] }
  | _ => none }
def followClosedsRow : OpenClaim := { program := "ytdiofkkdhdhkaaa", sum := "211441dfbb87cccd289ed319e76a46df5b4095b603e198e297f58a0cdb5d0f66", func := "syllogist/syllogistlaw.FollowCloseds", spec := "followCloseds", unfollowed := true, recurses := true, apart := false }
def FollowClosedsSaid : Prop := followClosedsRow.holds Try.pinned (OpenSpec.ofChange followClosedsSpec)

/-- ITS FALSE NEIGHBOUR: 'it returns false'. Refute it at one input. -/
def followClosedsWrong : ChangeSpec := { name := "followCloseds", fn := fun _ => fun
  | [d1, d2] => { results := [.lit (.bool false)], args := [d1, d2] }
  | _ => none }
def FollowClosedsWrongFalsely : Prop := followClosedsRow.holds Try.pinned (OpenSpec.ofChange followClosedsWrong)

/-- 'syllogistlaw.FollowKeys': WHATEVER THE INPUT: true; the input reads as it did. -/
def followKeysSpec : ChangeSpec := { name := "followKeys", fn := fun _ => fun
  | [d1, d2] => { results := [.lit (.bool true)], args := [d1, d2] }
  | _ => none }
def followKeysRow : OpenClaim := { program := "ytdiofkkdhdhkaaa", sum := "211441dfbb87cccd289ed319e76a46df5b4095b603e198e297f58a0cdb5d0f66", func := "syllogist/syllogistlaw.FollowKeys", spec := "followKeys", unfollowed := true, recurses := true, apart := false }
def FollowKeysSaid : Prop := followKeysRow.holds Try.pinned (OpenSpec.ofChange followKeysSpec)

/-- ITS FALSE NEIGHBOUR: 'it returns false'. Refute it at one input. -/
def followKeysWrong : ChangeSpec := { name := "followKeys", fn := fun _ => fun
  | [d1, d2] => { results := [.lit (.bool false)], args := [d1, d2] }
  | _ => none }
def FollowKeysWrongFalsely : Prop := followKeysRow.holds Try.pinned (OpenSpec.ofChange followKeysWrong)

/-- 'syllogistlaw.FollowLeasts': WHATEVER THE INPUT: true; the input reads as it did. -/
def followLeastsSpec : ChangeSpec := { name := "followLeasts", fn := fun _ => fun
  | [d1, d2] => { results := [.lit (.bool true)], args := [d1, d2] }
  | _ => none }
def followLeastsRow : OpenClaim := { program := "ytdiofkkdhdhkaaa", sum := "211441dfbb87cccd289ed319e76a46df5b4095b603e198e297f58a0cdb5d0f66", func := "syllogist/syllogistlaw.FollowLeasts", spec := "followLeasts", unfollowed := true, recurses := true, apart := false }
def FollowLeastsSaid : Prop := followLeastsRow.holds Try.pinned (OpenSpec.ofChange followLeastsSpec)

/-- ITS FALSE NEIGHBOUR: 'it returns false'. Refute it at one input. -/
def followLeastsWrong : ChangeSpec := { name := "followLeasts", fn := fun _ => fun
  | [d1, d2] => { results := [.lit (.bool false)], args := [d1, d2] }
  | _ => none }
def FollowLeastsWrongFalsely : Prop := followLeastsRow.holds Try.pinned (OpenSpec.ofChange followLeastsWrong)

/-- 'syllogistkeep.FollowClose': WHATEVER THE INPUT: true; the input reads as it did. -/
def followCloseSpec : ChangeSpec := { name := "followClose", fn := fun _ => fun
  | [d1, d2, d3, d4] => { results := [.lit (.bool true)], args := [d1, d2, d3, d4] }
  | _ => none }
def followCloseRow : OpenClaim := { program := "ytdiofkkdhdhkaaa", sum := "211441dfbb87cccd289ed319e76a46df5b4095b603e198e297f58a0cdb5d0f66", func := "syllogist/syllogistkeep.FollowClose", spec := "followClose", unfollowed := true, recurses := true, apart := false }
def FollowCloseSaid : Prop := followCloseRow.holds Try.pinned (OpenSpec.ofChange followCloseSpec)

/-- ITS FALSE NEIGHBOUR: 'it returns false'. Refute it at one input. -/
def followCloseWrong : ChangeSpec := { name := "followClose", fn := fun _ => fun
  | [d1, d2, d3, d4] => { results := [.lit (.bool false)], args := [d1, d2, d3, d4] }
  | _ => none }
def FollowCloseWrongFalsely : Prop := followCloseRow.holds Try.pinned (OpenSpec.ofChange followCloseWrong)

/-- 'syllogistkeep.FollowArmstrong': WHATEVER THE INPUT: true; the input reads as it did. -/
def followArmstrongSpec : ChangeSpec := { name := "followArmstrong", fn := fun _ => fun
  | [d1, d2, d3, d4, d5] => { results := [.lit (.bool true)], args := [d1, d2, d3, d4, d5] }
  | _ => none }
def followArmstrongRow : OpenClaim := { program := "ytdiofkkdhdhkaaa", sum := "211441dfbb87cccd289ed319e76a46df5b4095b603e198e297f58a0cdb5d0f66", func := "syllogist/syllogistkeep.FollowArmstrong", spec := "followArmstrong", unfollowed := true, recurses := true, apart := false }
def FollowArmstrongSaid : Prop := followArmstrongRow.holds Try.pinned (OpenSpec.ofChange followArmstrongSpec)

/-- ITS FALSE NEIGHBOUR: 'it returns false'. Refute it at one input. -/
def followArmstrongWrong : ChangeSpec := { name := "followArmstrong", fn := fun _ => fun
  | [d1, d2, d3, d4, d5] => { results := [.lit (.bool false)], args := [d1, d2, d3, d4, d5] }
  | _ => none }
def FollowArmstrongWrongFalsely : Prop := followArmstrongRow.holds Try.pinned (OpenSpec.ofChange followArmstrongWrong)

/-- 'syllogistkeep.FollowMeet': WHATEVER THE INPUT: true; the input reads as it did. -/
def followMeetSpec : ChangeSpec := { name := "followMeet", fn := fun _ => fun
  | [d1, d2, d3, d4] => { results := [.lit (.bool true)], args := [d1, d2, d3, d4] }
  | _ => none }
def followMeetRow : OpenClaim := { program := "ytdiofkkdhdhkaaa", sum := "211441dfbb87cccd289ed319e76a46df5b4095b603e198e297f58a0cdb5d0f66", func := "syllogist/syllogistkeep.FollowMeet", spec := "followMeet", unfollowed := true, recurses := true, apart := false }
def FollowMeetSaid : Prop := followMeetRow.holds Try.pinned (OpenSpec.ofChange followMeetSpec)

/-- ITS FALSE NEIGHBOUR: 'it returns false'. Refute it at one input. -/
def followMeetWrong : ChangeSpec := { name := "followMeet", fn := fun _ => fun
  | [d1, d2, d3, d4] => { results := [.lit (.bool false)], args := [d1, d2, d3, d4] }
  | _ => none }
def FollowMeetWrongFalsely : Prop := followMeetRow.holds Try.pinned (OpenSpec.ofChange followMeetWrong)

/-- 'syllogistkeep.FollowKey': WHATEVER THE INPUT: true; the input reads as it did. -/
def followKeySpec : ChangeSpec := { name := "followKey", fn := fun _ => fun
  | [d1, d2] => { results := [.lit (.bool true)], args := [d1, d2] }
  | _ => none }
def followKeyRow : OpenClaim := { program := "ytdiofkkdhdhkaaa", sum := "211441dfbb87cccd289ed319e76a46df5b4095b603e198e297f58a0cdb5d0f66", func := "syllogist/syllogistkeep.FollowKey", spec := "followKey", unfollowed := true, recurses := true, apart := false }
def FollowKeySaid : Prop := followKeyRow.holds Try.pinned (OpenSpec.ofChange followKeySpec)

/-- ITS FALSE NEIGHBOUR: 'it returns false'. Refute it at one input. -/
def followKeyWrong : ChangeSpec := { name := "followKey", fn := fun _ => fun
  | [d1, d2] => { results := [.lit (.bool false)], args := [d1, d2] }
  | _ => none }
def FollowKeyWrongFalsely : Prop := followKeyRow.holds Try.pinned (OpenSpec.ofChange followKeyWrong)

/- THE SECOND FORM. 'bulk': how many values and letters a reading holds, each counted each time it is reached (what is shared counts as often as it is met; a slice's spare places count too). A statement '..UptoSaid' is the law's where the arguments, and the package variables that the reading takes, are together of bulk at most 1048576: NARROWER than '..Said'. Prove '..Said' where nothing that the law and all that it calls make is longer than what came in: it says more and counts as full. Else prove '..UptoSaid'. A law counts once. -/
mutual
def uptoBulk {H : Type} : DataW H → Nat
  | .lit (.string bytes) => bytes.length + 1
  | .lit _ => 1
  | .nil => 1
  | .ptr d => uptoBulk d + 1
  | .slice elems spare => uptoBulkAll elems + uptoBulkAll spare + 1
  | .agg parts => uptoBulkAll parts + 1
  | .iface _ d => uptoBulk d + 1
  | .map entries => uptoBulkEntries entries + 1
  | .held _ => 1
def uptoBulkAll {H : Type} : List (DataW H) → Nat
  | [] => 0
  | d :: r => uptoBulk d + uptoBulkAll r
def uptoBulkEntries {H : Type} : List (Lit × DataW H) → Nat
  | [] => 0
  | x :: r => uptoBulkEntry x + uptoBulkEntries r
def uptoBulkEntry {H : Type} : Lit × DataW H → Nat
  | (.string bytes, d) => bytes.length + uptoBulk d + 1
  | (_, d) => uptoBulk d + 1
 end
def uptoSmall : (H : Type) → List (DataW H) → Bool := fun _ ds => decide (uptoBulkAll ds ≤ 1048576)
def OpenSpec.upto (s : _root_.Go.ChangeSpec) : _root_.Go.OpenSpec := { _root_.Go.OpenSpec.ofChange s with cond := some uptoSmall }

/-- 'syllogistlaw.FollowCloses', WHERE WHAT IT READS IS OF BULK AT MOST 1048576: true; the input reads as it did. -/
def followClosesUptoRow : OpenClaim := { program := "ytdiofkkdhdhkaaa", sum := "211441dfbb87cccd289ed319e76a46df5b4095b603e198e297f58a0cdb5d0f66", func := "syllogist/syllogistlaw.FollowCloses", spec := "followCloses", unfollowed := true, recurses := true, apart := false, narrowed := true }
def FollowClosesUptoSaid : Prop := followClosesUptoRow.holds Try.pinned (OpenSpec.upto followClosesSpec)

/-- 'syllogistlaw.FollowDoes', WHERE WHAT IT READS IS OF BULK AT MOST 1048576: true; the input reads as it did. -/
def followDoesUptoRow : OpenClaim := { program := "ytdiofkkdhdhkaaa", sum := "211441dfbb87cccd289ed319e76a46df5b4095b603e198e297f58a0cdb5d0f66", func := "syllogist/syllogistlaw.FollowDoes", spec := "followDoes", unfollowed := true, recurses := true, apart := false, narrowed := true }
def FollowDoesUptoSaid : Prop := followDoesUptoRow.holds Try.pinned (OpenSpec.upto followDoesSpec)

/-- 'syllogistlaw.FollowCloseds', WHERE WHAT IT READS IS OF BULK AT MOST 1048576: true; the input reads as it did. -/
def followClosedsUptoRow : OpenClaim := { program := "ytdiofkkdhdhkaaa", sum := "211441dfbb87cccd289ed319e76a46df5b4095b603e198e297f58a0cdb5d0f66", func := "syllogist/syllogistlaw.FollowCloseds", spec := "followCloseds", unfollowed := true, recurses := true, apart := false, narrowed := true }
def FollowClosedsUptoSaid : Prop := followClosedsUptoRow.holds Try.pinned (OpenSpec.upto followClosedsSpec)

/-- 'syllogistlaw.FollowKeys', WHERE WHAT IT READS IS OF BULK AT MOST 1048576: true; the input reads as it did. -/
def followKeysUptoRow : OpenClaim := { program := "ytdiofkkdhdhkaaa", sum := "211441dfbb87cccd289ed319e76a46df5b4095b603e198e297f58a0cdb5d0f66", func := "syllogist/syllogistlaw.FollowKeys", spec := "followKeys", unfollowed := true, recurses := true, apart := false, narrowed := true }
def FollowKeysUptoSaid : Prop := followKeysUptoRow.holds Try.pinned (OpenSpec.upto followKeysSpec)

/-- 'syllogistlaw.FollowLeasts', WHERE WHAT IT READS IS OF BULK AT MOST 1048576: true; the input reads as it did. -/
def followLeastsUptoRow : OpenClaim := { program := "ytdiofkkdhdhkaaa", sum := "211441dfbb87cccd289ed319e76a46df5b4095b603e198e297f58a0cdb5d0f66", func := "syllogist/syllogistlaw.FollowLeasts", spec := "followLeasts", unfollowed := true, recurses := true, apart := false, narrowed := true }
def FollowLeastsUptoSaid : Prop := followLeastsUptoRow.holds Try.pinned (OpenSpec.upto followLeastsSpec)

/-- 'syllogistkeep.FollowClose', WHERE WHAT IT READS IS OF BULK AT MOST 1048576: true; the input reads as it did. -/
def followCloseUptoRow : OpenClaim := { program := "ytdiofkkdhdhkaaa", sum := "211441dfbb87cccd289ed319e76a46df5b4095b603e198e297f58a0cdb5d0f66", func := "syllogist/syllogistkeep.FollowClose", spec := "followClose", unfollowed := true, recurses := true, apart := false, narrowed := true }
def FollowCloseUptoSaid : Prop := followCloseUptoRow.holds Try.pinned (OpenSpec.upto followCloseSpec)

/-- 'syllogistkeep.FollowArmstrong', WHERE WHAT IT READS IS OF BULK AT MOST 1048576: true; the input reads as it did. -/
def followArmstrongUptoRow : OpenClaim := { program := "ytdiofkkdhdhkaaa", sum := "211441dfbb87cccd289ed319e76a46df5b4095b603e198e297f58a0cdb5d0f66", func := "syllogist/syllogistkeep.FollowArmstrong", spec := "followArmstrong", unfollowed := true, recurses := true, apart := false, narrowed := true }
def FollowArmstrongUptoSaid : Prop := followArmstrongUptoRow.holds Try.pinned (OpenSpec.upto followArmstrongSpec)

/-- 'syllogistkeep.FollowMeet', WHERE WHAT IT READS IS OF BULK AT MOST 1048576: true; the input reads as it did. -/
def followMeetUptoRow : OpenClaim := { program := "ytdiofkkdhdhkaaa", sum := "211441dfbb87cccd289ed319e76a46df5b4095b603e198e297f58a0cdb5d0f66", func := "syllogist/syllogistkeep.FollowMeet", spec := "followMeet", unfollowed := true, recurses := true, apart := false, narrowed := true }
def FollowMeetUptoSaid : Prop := followMeetUptoRow.holds Try.pinned (OpenSpec.upto followMeetSpec)

/-- 'syllogistkeep.FollowKey', WHERE WHAT IT READS IS OF BULK AT MOST 1048576: true; the input reads as it did. -/
def followKeyUptoRow : OpenClaim := { program := "ytdiofkkdhdhkaaa", sum := "211441dfbb87cccd289ed319e76a46df5b4095b603e198e297f58a0cdb5d0f66", func := "syllogist/syllogistkeep.FollowKey", spec := "followKey", unfollowed := true, recurses := true, apart := false, narrowed := true }
def FollowKeyUptoSaid : Prop := followKeyUptoRow.holds Try.pinned (OpenSpec.upto followKeySpec)

end Rows
end Go.Proofs.Ytdiofkkdhdhkaaa
