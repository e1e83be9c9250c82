/-
  DERIVED. GIVEN WITH THE SEED: THE CARDS: each row of YtagnlogakjajjaaDoorRows.lean that lists a variable, with what it lists TIED to the program's text (the seventh form; the later family's looks); each row that meets fmt, with fmt's text TOLD by the authors' own Lean function (tested against real Go, not proved from fmt's source: count such statements apart). THE CARD IS WHAT COUNTS. Prove the row's statement (the work); the ties are given (YtagnlogakjajjaaDoorTie.lean); close each card by the builder's one call (the guide's Derived/Test/ToyasCard.lean, 'card_holds'). Laid BY PROGRAM, IN A SANDBOX (cutbox-door.mjs). By AI agents, Wed Nov 11 2026. No macro, syntax, notation, axiom, sorry.
-/
import Derived.Test.YtagnlogakjajjaaDoorRows
import GoSem.ClaimSeven
namespace Go.Proofs.YtagnlogakjajjaaDoor
namespace Rows

/-- THE TIED CARD OF 'taximeterlaw05.RealParts'. -/
def realPartsCard : Claim7 := { stood := { row := realPartsRow, standIns := [], harness := (true, "5b23703c124f1b1e4f0ebc9c3828e8bfc7f3b1c0f9508e543ee121f159ff3a0b"), looks := false }, kinds := [], alts := [], laidByText := true, laidKinds := [.data], laidTests := true, laidLooks := .later }
def RealPartsCardSaid : Prop := Claim7.holds Tryd.pinned (.plain (OpenSpec.ofChange realPartsSpec)) realPartsCard

/-- THE SECOND FORM's CARD OF 'taximeterlaw05.RealParts'. -/
def realPartsUptoCard : Claim7 := { stood := { row := realPartsUptoRow, standIns := [], harness := (true, "5b23703c124f1b1e4f0ebc9c3828e8bfc7f3b1c0f9508e543ee121f159ff3a0b"), looks := false }, kinds := [], alts := [], laidByText := true, laidKinds := [.data], laidTests := true, laidLooks := .later }
def RealPartsUptoCardSaid : Prop := Claim7.holds Tryd.pinned (.plain (OpenSpec.upto realPartsSpec)) realPartsUptoCard
end Rows
end Go.Proofs.YtagnlogakjajjaaDoor
