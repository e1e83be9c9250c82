/-
  The walk of PriceAdds.
-/
import Derived.Test.YtgefjlamlgmijaaDoorPrice2
namespace Go.Proofs.YtgefjlamlgmijaaDoor
open Go.RowKit
set_option linter.unusedVariables false

theorem priceAdds_go (a b : Nat) (w : World) (hT : Dbj w) (ha : a < 18446744073709551616) (hb : b < 18446744073709551616) : Calls Tryd.prog 5 #[.int .u64 (a : Int), .int .u64 (b : Int)] w fun e w' => e = .returned (.bool true) ∧ Below w.heap.size w w' := by
  have HA := Lib.hid (add_any a b w ha hb)
  have HR := Lib.hid (radd_any a b w ha hb)
  have HO := Lib.hid (over_any a b w ha hb)
  have HW := Lib.hid (awake06_any w hT)
  have ho : overB a b = decide ((18446744073709551615 : Int) - (b : Int) < (a : Int)) := by
    unfold overB
    rw [Bool.eq_iff_iff, decide_eq_true_iff, decide_eq_true_iff]
    omega
  obtain ⟨s, hs⟩ : ∃ s, addN a b = s := ⟨_, rfl⟩
  rw [hs] at HA HR
  rw [ho] at HO
  clear hs ho hT
  go_enter Tryd.func5, Tryd.ntmps5
  go_wp2_with fail
  refine (HA.out).mono ?_
  rintro e' w1 ⟨rfl, rfl⟩
  go_wp2_with fail
  refine (HR.out).mono ?_
  rintro e' w1 ⟨rfl, rfl⟩
  go_wp2_with fail
  refine (HO.out).mono ?_
  rintro e' w1 ⟨rfl, rfl⟩
  go_wp2_with fail
  refine (HW.out).mono ?_
  rintro e' w1 ⟨rfl, q, rfl⟩
  go_wp2_with fail
  go_ret
  exact ⟨rfl, below_drewN (Below.refl _ _) q⟩
end Go.Proofs.YtgefjlamlgmijaaDoor
