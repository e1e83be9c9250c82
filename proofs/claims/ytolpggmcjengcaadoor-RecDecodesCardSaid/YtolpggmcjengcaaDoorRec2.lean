/-
  rec.Has.
-/
import Derived.Test.YtolpggmcjengcaaDoorLRec11
namespace Go.Proofs.YtolpggmcjengcaaDoor
open Go.RowKit
set_option linter.unusedVariables false

set_option maxRecDepth 100000 in
theorem has_law : HasLaw := by
  intro k w hk
  by_cases h1 : k = 1
  · subst h1
    go_enter Tryd.func7, Tryd.ntmps7
    go_wp2_with fail
    go_ret3
    exact ⟨rfl, Below.refl _ _⟩
  by_cases h2 : k = 2
  · subst h2
    clear h1
    go_enter Tryd.func7, Tryd.ntmps7
    go_wp2_with fail
    go_ret3
    exact ⟨rfl, Below.refl _ _⟩
  by_cases h3 : k = 3
  · subst h3
    clear h1 h2
    go_enter Tryd.func7, Tryd.ntmps7
    go_wp2_with fail
    go_ret3
    exact ⟨rfl, Below.refl _ _⟩
  by_cases h4 : k = 4
  · subst h4
    clear h1 h2 h3
    go_enter Tryd.func7, Tryd.ntmps7
    go_wp2_with fail
    go_ret3
    exact ⟨rfl, Below.refl _ _⟩
  have HF : Hid (hasLe k = false ∧ hasNu k = false ∧ hasBi k = false) := by
    refine ⟨?_, ?_, ?_⟩
    · unfold hasLe; rw [decide_eq_false_iff_not]; omega
    · unfold hasNu; rw [decide_eq_false_iff_not]; omega
    · unfold hasBi; rw [decide_eq_false_iff_not]; omega
  have g1 : (k == 1) = false := beq_eq_false_iff_ne.2 h1
  have g2 : (k == 2) = false := beq_eq_false_iff_ne.2 h2
  have g3 : (k == 3) = false := beq_eq_false_iff_ne.2 h3
  have g4 : (k == 4) = false := beq_eq_false_iff_ne.2 h4
  clear h1 h2 h3 h4
  go_enter Tryd.func7, Tryd.ntmps7
  go_wp2_with fail
  go_ret3
  exact ⟨by rw [HF.out.1, HF.out.2.1, HF.out.2.2]; rfl, Below.refl _ _⟩
end Go.Proofs.YtolpggmcjengcaaDoor
