/-
  Whether package real answers at all: the document's examples.
-/
import Derived.Test.YtagnlogakjajjaaDoorReal4
namespace Go.Proofs.YtagnlogakjajjaaDoor
open Go.RowKit
set_option linter.unusedVariables false

theorem pick_ex : pickN 4602678819172646912 3 = 1 := by
  have h1 : rung 4602678819172646912 = 4602678819172646912 := by decide
  have h2 : mg 4602678819172646912 = 4503599627370496 := by decide
  have h3 : pl 4602678819172646912 = exps := by decide
  have h4 : frN 4602678819172646912 = 4503599627370496 := by
    unfold frN val sc
    rw [h2, h3, Nat.mul_div_cancel _ (Nat.two_pow_pos exps)]
  unfold pickN
  rw [if_neg (by omega), if_neg (by decide), h1, if_neg (by omega), h4]
  decide
theorem cls_ex : cls 9218868437227405312 = 6 := by decide
theorem key_ex1 : keyN 9223372036854775808 = 9223372036854775807 := by decide
theorem key_ex2 : keyN 0 = 9223372036854775808 := by decide

theorem awake05_any (w : World) : Calls Tryd.prog 6 #[] w fun e w' => e = .returned (.bool true) ∧ w = w' := by
  have HP := Lib.hid pick_ex
  have HC := Lib.hid cls_ex
  have HK1 := Lib.hid key_ex1
  have HK2 := Lib.hid key_ex2
  go_enter Tryd.func6, Tryd.ntmps6
  go_wp2_with fail
  refine (pick_any 4602678819172646912 w (by omega) 3 (by omega)).mono ?_
  rintro e' w1 ⟨rfl, rfl⟩
  rw [HP.out]
  go_wp2_with fail
  refine (class_any 9218868437227405312 w (by omega)).mono ?_
  rintro e' w1 ⟨rfl, rfl⟩
  rw [HC.out]
  go_wp2_with fail
  refine (key_any 9223372036854775808 w (by omega)).mono ?_
  rintro e' w1 ⟨rfl, rfl⟩
  rw [HK1.out]
  go_wp2_with fail
  refine (key_any 0 w (by omega)).mono ?_
  rintro e' w1 ⟨rfl, rfl⟩
  rw [HK2.out]
  go_wp2_with fail
  go_ret
  exact ⟨rfl, rfl⟩
end Go.Proofs.YtagnlogakjajjaaDoor
