/-
  The walk of RealClasses.
-/
import Derived.Test.YtagnlogakjajjaaAwake05
import Derived.Test.YtagnlogakjajjaaReal3
namespace Go.Proofs.Ytagnlogakjajjaa
open Go.RowKit
set_option linter.unusedVariables false

theorem realClasses_go (b : Nat) (w : World) (hb : b < 18446744073709551616) : Calls Try.prog 3 #[.int .u64 (b : Int)] w fun e w' => e = .returned (.bool true) ∧ Below w.heap.size w w' := by
  go_enter Try.func3, Try.ntmps3
  go_wp2_with fail
  refine (class_any b w hb).mono ?_
  rintro e' w1 ⟨rfl, rfl⟩
  go_wp2_with fail
  refine (rclass_any b w hb).mono ?_
  rintro e' w1 ⟨rfl, rfl⟩
  go_wp2_with fail
  refine (canon_any b w hb).mono ?_
  rintro e' w1 ⟨rfl, rfl⟩
  go_wp2_with fail
  refine (rcanon_any b w hb).mono ?_
  rintro e' w1 ⟨rfl, rfl⟩
  go_wp2_with fail
  refine (awake05_any w).mono ?_
  rintro e' w1 ⟨rfl, rfl⟩
  go_wp2_with fail
  go_ret
  exact ⟨rfl, Below.refl _ _⟩
end Go.Proofs.Ytagnlogakjajjaa
