/-
  DERIVED. GIVEN WITH THE SEED: THE CARDS: each row of YtekeeodnjlebcaaDoorRows.lean that lists a variable, with what it lists TIED to the program's text (the seventh form; the later family's looks); each row that meets fmt, with fmt's text TOLD by the authors' own Lean function (tested against real Go, not proved from fmt's source: count such statements apart). THE CARD IS WHAT COUNTS. Prove the row's statement (the work); the ties are given (YtekeeodnjlebcaaDoorTie.lean); close each card by the builder's one call (the guide's Derived/Test/ToyasCard.lean, 'card_holds'). Laid BY PROGRAM, IN A SANDBOX (cutbox-door.mjs). By AI agents, Wed Nov 11 2026. No macro, syntax, notation, axiom, sorry.
-/
import Derived.Test.YtekeeodnjlebcaaDoorRows
import GoSem.ClaimSeven
namespace Go.Proofs.YtekeeodnjlebcaaDoor
namespace Rows

/-- THE TIED CARD OF 'syllogistlaw.TwoReaches'. -/
def twoReachesCard : Claim7 := { stood := { row := twoReachesRow, standIns := [], harness := (true, "3f43d6adc41a2fa48c17d3ea2331d1c5b6fc0f2f85c5a4ac800e6a40d30d3ddc"), looks := false }, kinds := [], alts := [], laidByText := true, laidKinds := [.data], laidTests := true, laidLooks := .later }
def TwoReachesCardSaid : Prop := Claim7.holds Tryd.pinned (.plain (OpenSpec.ofChange twoReachesSpec)) twoReachesCard

/-- THE TIED CARD OF 'syllogistlaw.TwoStucks'. -/
def twoStucksCard : Claim7 := { stood := { row := twoStucksRow, standIns := [], harness := (true, "3f43d6adc41a2fa48c17d3ea2331d1c5b6fc0f2f85c5a4ac800e6a40d30d3ddc"), looks := false }, kinds := [], alts := [], laidByText := true, laidKinds := [.data], laidTests := true, laidLooks := .later }
def TwoStucksCardSaid : Prop := Claim7.holds Tryd.pinned (.plain (OpenSpec.ofChange twoStucksSpec)) twoStucksCard

/-- THE TIED CARD OF 'syllogistkeep.TwoSolve'. -/
def twoSolveCard : Claim7 := { stood := { row := twoSolveRow, standIns := [], harness := (true, "3f43d6adc41a2fa48c17d3ea2331d1c5b6fc0f2f85c5a4ac800e6a40d30d3ddc"), looks := false }, kinds := [], alts := [], laidByText := true, laidKinds := [.data], laidTests := true, laidLooks := .later }
def TwoSolveCardSaid : Prop := Claim7.holds Tryd.pinned (.plain (OpenSpec.ofChange twoSolveSpec)) twoSolveCard

/-- THE TIED CARD OF 'syllogistkeep.TwoTurn'. -/
def twoTurnCard : Claim7 := { stood := { row := twoTurnRow, standIns := [], harness := (true, "3f43d6adc41a2fa48c17d3ea2331d1c5b6fc0f2f85c5a4ac800e6a40d30d3ddc"), looks := false }, kinds := [], alts := [], laidByText := true, laidKinds := [.data], laidTests := true, laidLooks := .later }
def TwoTurnCardSaid : Prop := Claim7.holds Tryd.pinned (.plain (OpenSpec.ofChange twoTurnSpec)) twoTurnCard

/-- THE SECOND FORM's CARD OF 'syllogistlaw.TwoReaches'. -/
def twoReachesUptoCard : Claim7 := { stood := { row := twoReachesUptoRow, standIns := [], harness := (true, "3f43d6adc41a2fa48c17d3ea2331d1c5b6fc0f2f85c5a4ac800e6a40d30d3ddc"), looks := false }, kinds := [], alts := [], laidByText := true, laidKinds := [.data], laidTests := true, laidLooks := .later }
def TwoReachesUptoCardSaid : Prop := Claim7.holds Tryd.pinned (.plain (OpenSpec.upto twoReachesSpec)) twoReachesUptoCard

/-- THE SECOND FORM's CARD OF 'syllogistlaw.TwoStucks'. -/
def twoStucksUptoCard : Claim7 := { stood := { row := twoStucksUptoRow, standIns := [], harness := (true, "3f43d6adc41a2fa48c17d3ea2331d1c5b6fc0f2f85c5a4ac800e6a40d30d3ddc"), looks := false }, kinds := [], alts := [], laidByText := true, laidKinds := [.data], laidTests := true, laidLooks := .later }
def TwoStucksUptoCardSaid : Prop := Claim7.holds Tryd.pinned (.plain (OpenSpec.upto twoStucksSpec)) twoStucksUptoCard

/-- THE SECOND FORM's CARD OF 'syllogistkeep.TwoSolve'. -/
def twoSolveUptoCard : Claim7 := { stood := { row := twoSolveUptoRow, standIns := [], harness := (true, "3f43d6adc41a2fa48c17d3ea2331d1c5b6fc0f2f85c5a4ac800e6a40d30d3ddc"), looks := false }, kinds := [], alts := [], laidByText := true, laidKinds := [.data], laidTests := true, laidLooks := .later }
def TwoSolveUptoCardSaid : Prop := Claim7.holds Tryd.pinned (.plain (OpenSpec.upto twoSolveSpec)) twoSolveUptoCard

/-- THE SECOND FORM's CARD OF 'syllogistkeep.TwoTurn'. -/
def twoTurnUptoCard : Claim7 := { stood := { row := twoTurnUptoRow, standIns := [], harness := (true, "3f43d6adc41a2fa48c17d3ea2331d1c5b6fc0f2f85c5a4ac800e6a40d30d3ddc"), looks := false }, kinds := [], alts := [], laidByText := true, laidKinds := [.data], laidTests := true, laidLooks := .later }
def TwoTurnUptoCardSaid : Prop := Claim7.holds Tryd.pinned (.plain (OpenSpec.upto twoTurnSpec)) twoTurnUptoCard
end Rows
end Go.Proofs.YtekeeodnjlebcaaDoor
