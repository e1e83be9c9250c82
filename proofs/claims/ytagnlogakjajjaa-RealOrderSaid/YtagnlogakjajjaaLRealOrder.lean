/-
  The walk of RealOrder.
-/
import Derived.Test.YtagnlogakjajjaaAwake05
import Derived.Test.YtagnlogakjajjaaReal3
namespace Go.Proofs.Ytagnlogakjajjaa
open Go.RowKit
set_option linter.unusedVariables false

set_option maxHeartbeats 800000 in
theorem realOrder_both (a b : Nat) (w : World) (ha : a < 18446744073709551616) (hb : b < 18446744073709551616) (h : a ≠ b) (hc : cls a = 0) (hd : cls b = 0) (h1 : ¬ keyN a < keyN b) (h2 : ¬ keyN b < keyN a) : Calls Try.prog 4 #[.int .u64 (a : Int), .int .u64 (b : Int)] w fun e w' => e = .returned (.bool true) ∧ Below w.heap.size w w' := by
  have HA : Hid (aheadB a b = false) := by show _ = _; rw [ahead_key ha hb]; simp [h1]
  have H1 : Hid (decide (keyN a < keyN b) = false) := by show _ = _; simp [h1]
  have H2 : Hid (decide (keyN b < keyN a) = false) := by show _ = _; simp [h2]
  have hab : ((a : Int) == (b : Int)) = false := by rw [beq_eq_false_iff_ne]; omega
  have HC := Lib.hid hc
  have HD := Lib.hid hd
  clear hc hd h
  go_enter Try.func4, Try.ntmps4
  go_wp2_with fail
  refine (less_any a b w ha hb).mono ?_
  rintro e' w1 ⟨rfl, rfl⟩
  rw [H1.out]
  go_wp2_with fail
  refine (less_any b a w hb ha).mono ?_
  rintro e' w1 ⟨rfl, rfl⟩
  rw [H2.out]
  go_wp2_with fail
  refine (rclass_any a w ha).mono ?_
  rintro e' w1 ⟨rfl, rfl⟩
  rw [HC.out]
  go_wp2_with fail
  refine (rclass_any b w hb).mono ?_
  rintro e' w1 ⟨rfl, rfl⟩
  rw [HD.out]
  go_wp2_with fail
  refine (rless_any a b w ha hb).mono ?_
  rintro e' w1 ⟨rfl, rfl⟩
  rw [HA.out]
  go_wp2_with fail
  refine (key_any a w ha).mono ?_
  rintro e' w1 ⟨rfl, rfl⟩
  go_wp2_with fail
  refine (key_any b w hb).mono ?_
  rintro e' w1 ⟨rfl, rfl⟩
  go_wp2_with fail
  refine (key_any b w hb).mono ?_
  rintro e' w1 ⟨rfl, rfl⟩
  go_wp2_with fail
  refine (key_any a w ha).mono ?_
  rintro e' w1 ⟨rfl, rfl⟩
  go_wp2_with fail
  refine (awake05_any w).mono ?_
  rintro e' w1 ⟨rfl, rfl⟩
  go_wp2_with fail
  go_ret
  exact ⟨rfl, Below.refl _ _⟩
set_option maxHeartbeats 800000 in
theorem realOrder_a0 (a b : Nat) (w : World) (ha : a < 18446744073709551616) (hb : b < 18446744073709551616) (h : a ≠ b) (hc : cls a ≠ 0) (h1 : keyN a < keyN b) (h2 : ¬ keyN b < keyN a) : Calls Try.prog 4 #[.int .u64 (a : Int), .int .u64 (b : Int)] w fun e w' => e = .returned (.bool true) ∧ Below w.heap.size w w' := by
  have HA : Hid (aheadB a b = true) := by show _ = _; rw [ahead_key ha hb]; simp [h1]
  have H1 : Hid (decide (keyN a < keyN b) = true) := by show _ = _; simp [h1]
  have H2 : Hid (decide (keyN b < keyN a) = false) := by show _ = _; simp [h2]
  have hab : ((a : Int) == (b : Int)) = false := by rw [beq_eq_false_iff_ne]; omega
  have hc0 : ((cls a : Int) == 0) = false := by rw [beq_eq_false_iff_ne]; omega
  clear hc h
  go_enter Try.func4, Try.ntmps4
  go_wp2_with fail
  refine (less_any a b w ha hb).mono ?_
  rintro e' w1 ⟨rfl, rfl⟩
  rw [H1.out]
  go_wp2_with fail
  refine (less_any b a w hb ha).mono ?_
  rintro e' w1 ⟨rfl, rfl⟩
  rw [H2.out]
  go_wp2_with fail
  refine (rclass_any a w ha).mono ?_
  rintro e' w1 ⟨rfl, rfl⟩
  go_wp2_with fail
  refine (rless_any a b w ha hb).mono ?_
  rintro e' w1 ⟨rfl, rfl⟩
  rw [HA.out]
  go_wp2_with fail
  refine (key_any a w ha).mono ?_
  rintro e' w1 ⟨rfl, rfl⟩
  go_wp2_with fail
  refine (key_any b w hb).mono ?_
  rintro e' w1 ⟨rfl, rfl⟩
  go_wp2_with fail
  refine (key_any b w hb).mono ?_
  rintro e' w1 ⟨rfl, rfl⟩
  go_wp2_with fail
  refine (key_any a w ha).mono ?_
  rintro e' w1 ⟨rfl, rfl⟩
  go_wp2_with fail
  refine (awake05_any w).mono ?_
  rintro e' w1 ⟨rfl, rfl⟩
  go_wp2_with fail
  go_ret
  exact ⟨rfl, Below.refl _ _⟩
set_option maxHeartbeats 800000 in
theorem realOrder_b0 (a b : Nat) (w : World) (ha : a < 18446744073709551616) (hb : b < 18446744073709551616) (h : a ≠ b) (hc : cls a = 0) (hd : cls b ≠ 0) (h1 : keyN a < keyN b) (h2 : ¬ keyN b < keyN a) : Calls Try.prog 4 #[.int .u64 (a : Int), .int .u64 (b : Int)] w fun e w' => e = .returned (.bool true) ∧ Below w.heap.size w w' := by
  have HA : Hid (aheadB a b = true) := by show _ = _; rw [ahead_key ha hb]; simp [h1]
  have H1 : Hid (decide (keyN a < keyN b) = true) := by show _ = _; simp [h1]
  have H2 : Hid (decide (keyN b < keyN a) = false) := by show _ = _; simp [h2]
  have hab : ((a : Int) == (b : Int)) = false := by rw [beq_eq_false_iff_ne]; omega
  have HC := Lib.hid hc
  have hd0 : ((cls b : Int) == 0) = false := by rw [beq_eq_false_iff_ne]; omega
  clear hc hd h
  go_enter Try.func4, Try.ntmps4
  go_wp2_with fail
  refine (less_any a b w ha hb).mono ?_
  rintro e' w1 ⟨rfl, rfl⟩
  rw [H1.out]
  go_wp2_with fail
  refine (less_any b a w hb ha).mono ?_
  rintro e' w1 ⟨rfl, rfl⟩
  rw [H2.out]
  go_wp2_with fail
  refine (rclass_any a w ha).mono ?_
  rintro e' w1 ⟨rfl, rfl⟩
  rw [HC.out]
  go_wp2_with fail
  refine (rclass_any b w hb).mono ?_
  rintro e' w1 ⟨rfl, rfl⟩
  go_wp2_with fail
  refine (rless_any a b w ha hb).mono ?_
  rintro e' w1 ⟨rfl, rfl⟩
  rw [HA.out]
  go_wp2_with fail
  refine (key_any a w ha).mono ?_
  rintro e' w1 ⟨rfl, rfl⟩
  go_wp2_with fail
  refine (key_any b w hb).mono ?_
  rintro e' w1 ⟨rfl, rfl⟩
  go_wp2_with fail
  refine (key_any b w hb).mono ?_
  rintro e' w1 ⟨rfl, rfl⟩
  go_wp2_with fail
  refine (key_any a w ha).mono ?_
  rintro e' w1 ⟨rfl, rfl⟩
  go_wp2_with fail
  refine (awake05_any w).mono ?_
  rintro e' w1 ⟨rfl, rfl⟩
  go_wp2_with fail
  go_ret
  exact ⟨rfl, Below.refl _ _⟩
set_option maxHeartbeats 800000 in
theorem realOrder_a1 (a b : Nat) (w : World) (ha : a < 18446744073709551616) (hb : b < 18446744073709551616) (h : a ≠ b) (hc : cls a ≠ 0) (h1 : ¬ keyN a < keyN b) (h2 : keyN b < keyN a) : Calls Try.prog 4 #[.int .u64 (a : Int), .int .u64 (b : Int)] w fun e w' => e = .returned (.bool true) ∧ Below w.heap.size w w' := by
  have HA : Hid (aheadB a b = false) := by show _ = _; rw [ahead_key ha hb]; simp [h1]
  have H1 : Hid (decide (keyN a < keyN b) = false) := by show _ = _; simp [h1]
  have H2 : Hid (decide (keyN b < keyN a) = true) := by show _ = _; simp [h2]
  have hab : ((a : Int) == (b : Int)) = false := by rw [beq_eq_false_iff_ne]; omega
  have hc0 : ((cls a : Int) == 0) = false := by rw [beq_eq_false_iff_ne]; omega
  clear hc h
  go_enter Try.func4, Try.ntmps4
  go_wp2_with fail
  refine (less_any a b w ha hb).mono ?_
  rintro e' w1 ⟨rfl, rfl⟩
  rw [H1.out]
  go_wp2_with fail
  refine (less_any b a w hb ha).mono ?_
  rintro e' w1 ⟨rfl, rfl⟩
  rw [H2.out]
  go_wp2_with fail
  refine (rclass_any a w ha).mono ?_
  rintro e' w1 ⟨rfl, rfl⟩
  go_wp2_with fail
  refine (rless_any a b w ha hb).mono ?_
  rintro e' w1 ⟨rfl, rfl⟩
  rw [HA.out]
  go_wp2_with fail
  refine (key_any a w ha).mono ?_
  rintro e' w1 ⟨rfl, rfl⟩
  go_wp2_with fail
  refine (key_any b w hb).mono ?_
  rintro e' w1 ⟨rfl, rfl⟩
  go_wp2_with fail
  refine (key_any b w hb).mono ?_
  rintro e' w1 ⟨rfl, rfl⟩
  go_wp2_with fail
  refine (key_any a w ha).mono ?_
  rintro e' w1 ⟨rfl, rfl⟩
  go_wp2_with fail
  refine (awake05_any w).mono ?_
  rintro e' w1 ⟨rfl, rfl⟩
  go_wp2_with fail
  go_ret
  exact ⟨rfl, Below.refl _ _⟩
set_option maxHeartbeats 800000 in
theorem realOrder_b1 (a b : Nat) (w : World) (ha : a < 18446744073709551616) (hb : b < 18446744073709551616) (h : a ≠ b) (hc : cls a = 0) (hd : cls b ≠ 0) (h1 : ¬ keyN a < keyN b) (h2 : keyN b < keyN a) : Calls Try.prog 4 #[.int .u64 (a : Int), .int .u64 (b : Int)] w fun e w' => e = .returned (.bool true) ∧ Below w.heap.size w w' := by
  have HA : Hid (aheadB a b = false) := by show _ = _; rw [ahead_key ha hb]; simp [h1]
  have H1 : Hid (decide (keyN a < keyN b) = false) := by show _ = _; simp [h1]
  have H2 : Hid (decide (keyN b < keyN a) = true) := by show _ = _; simp [h2]
  have hab : ((a : Int) == (b : Int)) = false := by rw [beq_eq_false_iff_ne]; omega
  have HC := Lib.hid hc
  have hd0 : ((cls b : Int) == 0) = false := by rw [beq_eq_false_iff_ne]; omega
  clear hc hd h
  go_enter Try.func4, Try.ntmps4
  go_wp2_with fail
  refine (less_any a b w ha hb).mono ?_
  rintro e' w1 ⟨rfl, rfl⟩
  rw [H1.out]
  go_wp2_with fail
  refine (less_any b a w hb ha).mono ?_
  rintro e' w1 ⟨rfl, rfl⟩
  rw [H2.out]
  go_wp2_with fail
  refine (rclass_any a w ha).mono ?_
  rintro e' w1 ⟨rfl, rfl⟩
  rw [HC.out]
  go_wp2_with fail
  refine (rclass_any b w hb).mono ?_
  rintro e' w1 ⟨rfl, rfl⟩
  go_wp2_with fail
  refine (rless_any a b w ha hb).mono ?_
  rintro e' w1 ⟨rfl, rfl⟩
  rw [HA.out]
  go_wp2_with fail
  refine (key_any a w ha).mono ?_
  rintro e' w1 ⟨rfl, rfl⟩
  go_wp2_with fail
  refine (key_any b w hb).mono ?_
  rintro e' w1 ⟨rfl, rfl⟩
  go_wp2_with fail
  refine (key_any b w hb).mono ?_
  rintro e' w1 ⟨rfl, rfl⟩
  go_wp2_with fail
  refine (key_any a w ha).mono ?_
  rintro e' w1 ⟨rfl, rfl⟩
  go_wp2_with fail
  refine (awake05_any w).mono ?_
  rintro e' w1 ⟨rfl, rfl⟩
  go_wp2_with fail
  go_ret
  exact ⟨rfl, Below.refl _ _⟩
set_option maxHeartbeats 800000 in
theorem realOrder_same (a : Nat) (w : World) (ha : a < 18446744073709551616)   (h1 : ¬ keyN a < keyN a) (h2 : ¬ keyN a < keyN a) : Calls Try.prog 4 #[.int .u64 (a : Int), .int .u64 (a : Int)] w fun e w' => e = .returned (.bool true) ∧ Below w.heap.size w w' := by
  have HA : Hid (aheadB a a = false) := by show _ = _; rw [ahead_key ha ha]; simp [h1]
  have H1 : Hid (decide (keyN a < keyN a) = false) := by show _ = _; simp [h1]
  have H2 : Hid (decide (keyN a < keyN a) = false) := by show _ = _; simp [h2]
  go_enter Try.func4, Try.ntmps4
  go_wp2_with fail
  refine (less_any a a w ha ha).mono ?_
  rintro e' w1 ⟨rfl, rfl⟩
  rw [H1.out]
  go_wp2_with fail
  refine (less_any a a w ha ha).mono ?_
  rintro e' w1 ⟨rfl, rfl⟩
  rw [H2.out]
  go_wp2_with fail
  refine (rless_any a a w ha ha).mono ?_
  rintro e' w1 ⟨rfl, rfl⟩
  rw [HA.out]
  go_wp2_with fail
  refine (key_any a w ha).mono ?_
  rintro e' w1 ⟨rfl, rfl⟩
  go_wp2_with fail
  refine (key_any a w ha).mono ?_
  rintro e' w1 ⟨rfl, rfl⟩
  go_wp2_with fail
  refine (key_any a w ha).mono ?_
  rintro e' w1 ⟨rfl, rfl⟩
  go_wp2_with fail
  refine (key_any a w ha).mono ?_
  rintro e' w1 ⟨rfl, rfl⟩
  go_wp2_with fail
  refine (awake05_any w).mono ?_
  rintro e' w1 ⟨rfl, rfl⟩
  go_wp2_with fail
  go_ret
  exact ⟨rfl, Below.refl _ _⟩
theorem realOrder_go (a b : Nat) (w : World) (ha : a < 18446744073709551616) (hb : b < 18446744073709551616) : Calls Try.prog 4 #[.int .u64 (a : Int), .int .u64 (b : Int)] w fun e w' => e = .returned (.bool true) ∧ Below w.heap.size w w' := by
  have hs := key_same ha hb
  by_cases hab : a = b
  · subst hab
    exact realOrder_same a w ha (by omega) (by omega)
  · by_cases hc : cls a = 0
    · by_cases hd : cls b = 0
      · have := hs.2 (.inr ⟨hc, hd⟩)
        exact realOrder_both a b w ha hb hab hc hd (by omega) (by omega)
      · have hn : keyN a ≠ keyN b := fun h => by rcases hs.1 h with h | h <;> omega
        by_cases hl : keyN a < keyN b
        · exact realOrder_b0 a b w ha hb hab hc hd hl (by omega)
        · exact realOrder_b1 a b w ha hb hab hc hd hl (by omega)
    · have hn : keyN a ≠ keyN b := fun h => by rcases hs.1 h with h | h <;> omega
      by_cases hl : keyN a < keyN b
      · exact realOrder_a0 a b w ha hb hab hc hl (by omega)
      · exact realOrder_a1 a b w ha hb hab hc hl (by omega)
end Go.Proofs.Ytagnlogakjajjaa
