/-
  Package name: targets' names.
-/
import Derived.Test.YtolpggmcjengcaaDoorName2
namespace Go.Proofs.YtolpggmcjengcaaDoor
open Go.RowKit
set_option linter.unusedVariables false

/-- Whether a text may be a target's name. -/
def inHost (r : Nat) : Bool := inTen r || decide (r = 46) || decide (r = 58)
theorem inHost_high (r : Nat) (h : 128 ≤ r) : inHost r = false := by
  unfold inHost
  rw [inTen_high r h, decide_eq_false (by omega), decide_eq_false (by omega)]
  rfl
def targetL (l : List UInt8) : Bool := decide (l.length ≤ 24) && madeL inTen inHost l
end Go.Proofs.YtolpggmcjengcaaDoor
