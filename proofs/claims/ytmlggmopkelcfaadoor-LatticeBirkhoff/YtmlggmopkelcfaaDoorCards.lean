/-
  DERIVED. GIVEN WITH THE SEED: THE CARDS: each row of YtmlggmopkelcfaaDoorRows.lean that lists a variable, with what it lists TIED to the program's text (the seventh form; the later family's looks); each row that meets fmt, with fmt's text TOLD by the authors' own Lean function (tested against real Go, not proved from fmt's source: count such statements apart). THE CARD IS WHAT COUNTS. Prove the row's statement (the work); the ties are given (YtmlggmopkelcfaaDoorTie.lean); close each card by the builder's one call (the guide's Derived/Test/ToyasCard.lean, 'card_holds'). Laid BY PROGRAM, IN A SANDBOX (cutbox-door.mjs). By AI agents, Wed Nov 11 2026. No macro, syntax, notation, axiom, sorry.
-/
import Derived.Test.YtmlggmopkelcfaaDoorRows
import GoSem.ClaimSeven
namespace Go.Proofs.YtmlggmopkelcfaaDoor
namespace Rows

/-- THE TIED CARD OF 'syllogistkeep.LatticeBirkhoff'. -/
def latticeBirkhoffCard : Claim7 := { stood := { row := latticeBirkhoffRow, standIns := [], harness := (true, "e979d07e70ee3aefad2cd5757dcd1b20d542e137bb699f32c4cfa023c1cce753"), looks := false }, kinds := [], alts := [], laidByText := true, laidKinds := [.data], laidTests := true, laidLooks := .later }
def LatticeBirkhoffCardSaid : Prop := Claim7.holds Tryd.pinned (.plain (OpenSpec.ofChange latticeBirkhoffSpec)) latticeBirkhoffCard

/-- THE SECOND FORM's CARD OF 'syllogistkeep.LatticeBirkhoff'. -/
def latticeBirkhoffUptoCard : Claim7 := { stood := { row := latticeBirkhoffUptoRow, standIns := [], harness := (true, "e979d07e70ee3aefad2cd5757dcd1b20d542e137bb699f32c4cfa023c1cce753"), looks := false }, kinds := [], alts := [], laidByText := true, laidKinds := [.data], laidTests := true, laidLooks := .later }
def LatticeBirkhoffUptoCardSaid : Prop := Claim7.holds Tryd.pinned (.plain (OpenSpec.upto latticeBirkhoffSpec)) latticeBirkhoffUptoCard
end Rows
end Go.Proofs.YtmlggmopkelcfaaDoor
