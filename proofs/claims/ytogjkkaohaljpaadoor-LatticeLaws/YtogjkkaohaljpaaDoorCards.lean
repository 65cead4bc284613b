/-
  DERIVED. GIVEN WITH THE SEED: THE CARDS: each row of YtogjkkaohaljpaaDoorRows.lean that lists a variable, with what it lists TIED to the program's text (the seventh form; the later family's looks); each row that meets fmt, with fmt's text TOLD by the authors' own Lean function (tested against real Go, not proved from fmt's source: count such statements apart). THE CARD IS WHAT COUNTS. Prove the row's statement (the work); the ties are given (YtogjkkaohaljpaaDoorTie.lean); close each card by the builder's one call (the guide's Derived/Test/ToyasCard.lean, 'card_holds'). Laid BY PROGRAM, IN A SANDBOX (cutbox-door.mjs). By AI agents, Wed Nov 11 2026. No macro, syntax, notation, axiom, sorry.
-/
import Derived.Test.YtogjkkaohaljpaaDoorRows
import GoSem.ClaimSeven
namespace Go.Proofs.YtogjkkaohaljpaaDoor
namespace Rows

/-- THE TIED CARD OF 'syllogistlaw.LatticeJoins'. -/
def latticeJoinsCard : Claim7 := { stood := { row := latticeJoinsRow, standIns := [], harness := (true, "b8416e34ff3d55ee7c0158226a3fe0276cf5867291ae22a591c6e74103c047d6"), looks := false }, kinds := [], alts := [], laidByText := true, laidKinds := [.data], laidTests := true, laidLooks := .later }
def LatticeJoinsCardSaid : Prop := Claim7.holds Tryd.pinned (.plain (OpenSpec.ofChange latticeJoinsSpec)) latticeJoinsCard

/-- THE TIED CARD OF 'syllogistlaw.LatticeMeets'. -/
def latticeMeetsCard : Claim7 := { stood := { row := latticeMeetsRow, standIns := [], harness := (true, "b8416e34ff3d55ee7c0158226a3fe0276cf5867291ae22a591c6e74103c047d6"), looks := false }, kinds := [], alts := [], laidByText := true, laidKinds := [.data], laidTests := true, laidLooks := .later }
def LatticeMeetsCardSaid : Prop := Claim7.holds Tryd.pinned (.plain (OpenSpec.ofChange latticeMeetsSpec)) latticeMeetsCard

/-- THE TIED CARD OF 'syllogistlaw.LatticeIs'. -/
def latticeIsCard : Claim7 := { stood := { row := latticeIsRow, standIns := [], harness := (true, "b8416e34ff3d55ee7c0158226a3fe0276cf5867291ae22a591c6e74103c047d6"), looks := false }, kinds := [], alts := [], laidByText := true, laidKinds := [.data], laidTests := true, laidLooks := .later }
def LatticeIsCardSaid : Prop := Claim7.holds Tryd.pinned (.plain (OpenSpec.ofChange latticeIsSpec)) latticeIsCard

/-- THE TIED CARD OF 'syllogistlaw.LatticeShares'. -/
def latticeSharesCard : Claim7 := { stood := { row := latticeSharesRow, standIns := [], harness := (true, "b8416e34ff3d55ee7c0158226a3fe0276cf5867291ae22a591c6e74103c047d6"), looks := false }, kinds := [], alts := [], laidByText := true, laidKinds := [.data], laidTests := true, laidLooks := .later }
def LatticeSharesCardSaid : Prop := Claim7.holds Tryd.pinned (.plain (OpenSpec.ofChange latticeSharesSpec)) latticeSharesCard

/-- THE TIED CARD OF 'syllogistlaw.LatticeModulars'. -/
def latticeModularsCard : Claim7 := { stood := { row := latticeModularsRow, standIns := [], harness := (true, "b8416e34ff3d55ee7c0158226a3fe0276cf5867291ae22a591c6e74103c047d6"), looks := false }, kinds := [], alts := [], laidByText := true, laidKinds := [.data], laidTests := true, laidLooks := .later }
def LatticeModularsCardSaid : Prop := Claim7.holds Tryd.pinned (.plain (OpenSpec.ofChange latticeModularsSpec)) latticeModularsCard

/-- THE TIED CARD OF 'syllogistlaw.LatticeIrreducibles'. -/
def latticeIrreduciblesCard : Claim7 := { stood := { row := latticeIrreduciblesRow, standIns := [], harness := (true, "b8416e34ff3d55ee7c0158226a3fe0276cf5867291ae22a591c6e74103c047d6"), looks := false }, kinds := [], alts := [], laidByText := true, laidKinds := [.data], laidTests := true, laidLooks := .later }
def LatticeIrreduciblesCardSaid : Prop := Claim7.holds Tryd.pinned (.plain (OpenSpec.ofChange latticeIrreduciblesSpec)) latticeIrreduciblesCard

/-- THE TIED CARD OF 'syllogistkeep.LatticeLaws'. -/
def latticeLawsCard : Claim7 := { stood := { row := latticeLawsRow, standIns := [], harness := (true, "b8416e34ff3d55ee7c0158226a3fe0276cf5867291ae22a591c6e74103c047d6"), looks := false }, kinds := [], alts := [], laidByText := true, laidKinds := [.data], laidTests := true, laidLooks := .later }
def LatticeLawsCardSaid : Prop := Claim7.holds Tryd.pinned (.plain (OpenSpec.ofChange latticeLawsSpec)) latticeLawsCard

/-- THE TIED CARD OF 'syllogistkeep.LatticeModular'. -/
def latticeModularCard : Claim7 := { stood := { row := latticeModularRow, standIns := [], harness := (true, "b8416e34ff3d55ee7c0158226a3fe0276cf5867291ae22a591c6e74103c047d6"), looks := false }, kinds := [], alts := [], laidByText := true, laidKinds := [.data], laidTests := true, laidLooks := .later }
def LatticeModularCardSaid : Prop := Claim7.holds Tryd.pinned (.plain (OpenSpec.ofChange latticeModularSpec)) latticeModularCard

/-- THE SECOND FORM's CARD OF 'syllogistlaw.LatticeJoins'. -/
def latticeJoinsUptoCard : Claim7 := { stood := { row := latticeJoinsUptoRow, standIns := [], harness := (true, "b8416e34ff3d55ee7c0158226a3fe0276cf5867291ae22a591c6e74103c047d6"), looks := false }, kinds := [], alts := [], laidByText := true, laidKinds := [.data], laidTests := true, laidLooks := .later }
def LatticeJoinsUptoCardSaid : Prop := Claim7.holds Tryd.pinned (.plain (OpenSpec.upto latticeJoinsSpec)) latticeJoinsUptoCard

/-- THE SECOND FORM's CARD OF 'syllogistlaw.LatticeMeets'. -/
def latticeMeetsUptoCard : Claim7 := { stood := { row := latticeMeetsUptoRow, standIns := [], harness := (true, "b8416e34ff3d55ee7c0158226a3fe0276cf5867291ae22a591c6e74103c047d6"), looks := false }, kinds := [], alts := [], laidByText := true, laidKinds := [.data], laidTests := true, laidLooks := .later }
def LatticeMeetsUptoCardSaid : Prop := Claim7.holds Tryd.pinned (.plain (OpenSpec.upto latticeMeetsSpec)) latticeMeetsUptoCard

/-- THE SECOND FORM's CARD OF 'syllogistlaw.LatticeIs'. -/
def latticeIsUptoCard : Claim7 := { stood := { row := latticeIsUptoRow, standIns := [], harness := (true, "b8416e34ff3d55ee7c0158226a3fe0276cf5867291ae22a591c6e74103c047d6"), looks := false }, kinds := [], alts := [], laidByText := true, laidKinds := [.data], laidTests := true, laidLooks := .later }
def LatticeIsUptoCardSaid : Prop := Claim7.holds Tryd.pinned (.plain (OpenSpec.upto latticeIsSpec)) latticeIsUptoCard

/-- THE SECOND FORM's CARD OF 'syllogistlaw.LatticeShares'. -/
def latticeSharesUptoCard : Claim7 := { stood := { row := latticeSharesUptoRow, standIns := [], harness := (true, "b8416e34ff3d55ee7c0158226a3fe0276cf5867291ae22a591c6e74103c047d6"), looks := false }, kinds := [], alts := [], laidByText := true, laidKinds := [.data], laidTests := true, laidLooks := .later }
def LatticeSharesUptoCardSaid : Prop := Claim7.holds Tryd.pinned (.plain (OpenSpec.upto latticeSharesSpec)) latticeSharesUptoCard

/-- THE SECOND FORM's CARD OF 'syllogistlaw.LatticeModulars'. -/
def latticeModularsUptoCard : Claim7 := { stood := { row := latticeModularsUptoRow, standIns := [], harness := (true, "b8416e34ff3d55ee7c0158226a3fe0276cf5867291ae22a591c6e74103c047d6"), looks := false }, kinds := [], alts := [], laidByText := true, laidKinds := [.data], laidTests := true, laidLooks := .later }
def LatticeModularsUptoCardSaid : Prop := Claim7.holds Tryd.pinned (.plain (OpenSpec.upto latticeModularsSpec)) latticeModularsUptoCard

/-- THE SECOND FORM's CARD OF 'syllogistlaw.LatticeIrreducibles'. -/
def latticeIrreduciblesUptoCard : Claim7 := { stood := { row := latticeIrreduciblesUptoRow, standIns := [], harness := (true, "b8416e34ff3d55ee7c0158226a3fe0276cf5867291ae22a591c6e74103c047d6"), looks := false }, kinds := [], alts := [], laidByText := true, laidKinds := [.data], laidTests := true, laidLooks := .later }
def LatticeIrreduciblesUptoCardSaid : Prop := Claim7.holds Tryd.pinned (.plain (OpenSpec.upto latticeIrreduciblesSpec)) latticeIrreduciblesUptoCard

/-- THE SECOND FORM's CARD OF 'syllogistkeep.LatticeLaws'. -/
def latticeLawsUptoCard : Claim7 := { stood := { row := latticeLawsUptoRow, standIns := [], harness := (true, "b8416e34ff3d55ee7c0158226a3fe0276cf5867291ae22a591c6e74103c047d6"), looks := false }, kinds := [], alts := [], laidByText := true, laidKinds := [.data], laidTests := true, laidLooks := .later }
def LatticeLawsUptoCardSaid : Prop := Claim7.holds Tryd.pinned (.plain (OpenSpec.upto latticeLawsSpec)) latticeLawsUptoCard

/-- THE SECOND FORM's CARD OF 'syllogistkeep.LatticeModular'. -/
def latticeModularUptoCard : Claim7 := { stood := { row := latticeModularUptoRow, standIns := [], harness := (true, "b8416e34ff3d55ee7c0158226a3fe0276cf5867291ae22a591c6e74103c047d6"), looks := false }, kinds := [], alts := [], laidByText := true, laidKinds := [.data], laidTests := true, laidLooks := .later }
def LatticeModularUptoCardSaid : Prop := Claim7.holds Tryd.pinned (.plain (OpenSpec.upto latticeModularSpec)) latticeModularUptoCard
end Rows
end Go.Proofs.YtogjkkaohaljpaaDoor
