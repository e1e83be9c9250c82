/-
  The reference's parts.
-/
import Derived.Test.YtolpggmcjengcaaDoorReal3
import Derived.Test.YtolpggmcjengcaaDoorRealQ
namespace Go.Proofs.YtolpggmcjengcaaDoor
open Go.RowKit
set_option linter.unusedVariables false

def partsM (b : Nat) : Nat := if cls b = 5 then odd (mg (rung b)) else 0
def partsE (b : Nat) : Int := if cls b = 5 then -1074 + (pl (rung b) : Int) + (tz (mg (rung b)) : Int) else 0
def partsI (b : Nat) : Bool := decide (cls b = 3 ∨ cls b = 4 ∨ cls b = 5)

theorem cls5 {b : Nat} (hb : b < 18446744073709551616) (h : cls b = 5) : 0 < b ∧ b < 9218868437227405312 ∧ rung b = b := by
  rcases cls_where hb with h' | h' | h' | h' | h' | h' | h' | h' <;> first | omega | (refine ⟨by omega, by omega, ?_⟩; unfold rung; omega)
end Go.Proofs.YtolpggmcjengcaaDoor
