/-
  DERIVED. GIVEN WITH THE SEED: THE CARDS: each row of YtcofhjkmpkfbfaaDoorRows.lean that lists a variable, with what it lists TIED to the program's text (the seventh form; the later family's looks); each row that meets fmt, with fmt's text TOLD by the authors' own Lean function (tested against real Go, not proved from fmt's source: count such statements apart). THE CARD IS WHAT COUNTS. Prove the row's statement (the work); the ties are given (YtcofhjkmpkfbfaaDoorTie.lean); close each card by the builder's one call (the guide's Derived/Test/ToyasCard.lean, 'card_holds'). Laid BY PROGRAM, IN A SANDBOX (cutbox-door.mjs). By AI agents, Wed Nov 11 2026. No macro, syntax, notation, axiom, sorry.
-/
import Derived.Test.YtcofhjkmpkfbfaaDoorRows
import GoSem.ClaimSeven
namespace Go.Proofs.YtcofhjkmpkfbfaaDoor
namespace Rows

/-- THE TIED CARD OF 'taximeterlaw08.LineWord'. -/
def lineWordCard : Claim7 := { stood := { row := lineWordRow, standIns := [], harness := (true, "3d21a0b641c6776d065ca53de01bc50aa743ac44f05ea22491b6ed7bb0fcfd19"), looks := true }, kinds := [], alts := [], laidByText := true, laidKinds := [.data, .data, .data, .data, .sentinel, .sentinel, .pinned], laidTests := true, laidLooks := .later }
def LineWordCardSaid : Prop := Claim7.holds Tryd.pinned (.plain (OpenSpec.ofChange lineWordSpec)) lineWordCard

/-- THE SECOND FORM's CARD OF 'taximeterlaw08.LineWord'. -/
def lineWordUptoCard : Claim7 := { stood := { row := lineWordUptoRow, standIns := [], harness := (true, "3d21a0b641c6776d065ca53de01bc50aa743ac44f05ea22491b6ed7bb0fcfd19"), looks := true }, kinds := [], alts := [], laidByText := true, laidKinds := [.data, .data, .data, .data, .sentinel, .sentinel, .pinned], laidTests := true, laidLooks := .later }
def LineWordUptoCardSaid : Prop := Claim7.holds Tryd.pinned (.plain (OpenSpec.upto lineWordSpec)) lineWordUptoCard
end Rows
end Go.Proofs.YtcofhjkmpkfbfaaDoor
