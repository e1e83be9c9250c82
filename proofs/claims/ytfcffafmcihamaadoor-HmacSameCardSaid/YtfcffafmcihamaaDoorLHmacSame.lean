import Derived.Test.YtfcffafmcihamaaDoorAwake04
import Derived.Test.YtfcffafmcihamaaDoorSame
namespace Go.Proofs.YtfcffafmcihamaaDoor
open Go.RowKit
set_option linter.unusedVariables false

set_option maxHeartbeats 1600000 in
theorem hmacSame_go (A1 A2 : Option Addr) (n1 n2 c1 c2 : Nat) (l1 l2 : List UInt8) (w : World) (hn1 : Hid (l1.length = n1)) (hn2 : Hid (l2.length = n2)) (hL1 : Bs w w.heap.size A1 l1) (hL2 : Bs w w.heap.size A2 l2) (hK : Kons w) :
    Calls Tryd.prog 4 #[.slice A1 n1 c1, .slice A2 n2 c2] w fun e w' => e = .returned (.bool true) ∧ Below w.heap.size w w' := by
  by_cases hbig : 500 < n1 ∨ 500 < n2
  · have hbb : (500 : Int) < (n1 : Int) ∨ (¬ (500 : Int) < (n1 : Int) ∧ (500 : Int) < (n2 : Int)) := by omega
    clear hbig
    rcases hbb with hb | ⟨hb, hb'⟩
    all_goals
      go_enter Tryd.func4, Tryd.ntmps4
      go_wp2_with fail
      refine (awake04_any _ hK).mono ?_
      rintro e w1 ⟨rfl, hb⟩
      go_wp2_with fail
      go_ret
      exact ⟨rfl, hb⟩
  have g1 : ¬ (500 : Int) < (n1 : Int) := by omega
  have g2 : ¬ (500 : Int) < (n2 : Int) := by omega
  have m1 : l1.length ≤ maxLen := by rw [hn1.out]; unfold maxLen; omega
  have m2 : l2.length ≤ maxLen := by rw [hn2.out]; unfold maxLen; omega
  clear hbig
  go_enter Tryd.func4, Tryd.ntmps4
  go_wp2_with fail
  refine (hsame_any A1 A2 n1 n2 c1 c2 l1 l2 _ w hn1 hn2 hL1 hL2 (by rw [← hn1.out]; exact m1) (by rw [← hn2.out]; exact m2)).mono ?_
  rintro e w1 ⟨rfl, q1, rfl⟩
  go_wp2_with fail
  refine (same_any A1 A2 n1 n2 c1 c2 l1 l2 _ _ hn1.out hn2.out (hL1.drewN q1) (hL2.drewN q1) m1 m2).mono ?_
  rintro e w1 ⟨rfl, q2, rfl⟩
  go_wp2_with fail
  obtain ⟨d, hd⟩ : ∃ d, decide (l1 = l2) = d := ⟨_, rfl⟩
  rw [hd]
  clear hd
  go_wp2_with fail
  refine (hsame_any A1 A1 n1 n1 c1 c1 l1 l1 _ (w.drewN (q1 + q2)) hn1 hn1 (hL1.drewN _) (hL1.drewN _) (by rw [← hn1.out]; exact m1) (by rw [← hn1.out]; exact m1)).mono ?_
  rintro e w1 ⟨rfl, q3, rfl⟩
  rw [decide_eq_true (rfl : l1 = l1)]
  have hb := below_drewN (Below.refl w.heap.size w) (q1 + q2 + q3)
  go_wp2_with fail
  refine (awake04_any _ (hK.below hb)).mono ?_
  rintro e w1 ⟨rfl, hb1⟩
  go_wp2_with fail
  go_ret
  exact ⟨rfl, hb.trans (hb1.mono hb.size)⟩
end Go.Proofs.YtfcffafmcihamaaDoor
