/-
  The walk of RealPicks.
-/
import Derived.Test.YtagnlogakjajjaaAwake05
import Derived.Test.YtagnlogakjajjaaReal7
namespace Go.Proofs.Ytagnlogakjajjaa
open Go.RowKit
set_option linter.unusedVariables false

theorem pick_range (b : Nat) (n : Int) (h : 1 ≤ n) : 0 ≤ pickN b n ∧ pickN b n < n := by
  unfold pickN
  rw [if_neg (by omega)]
  split
  · omega
  · split
    · omega
    · rename_i h2
      have hf := fr_lt (show rung b < 4607182418800017408 by omega)
      obtain ⟨m, rfl⟩ : ∃ m : Nat, n = m := ⟨n.toNat, by omega⟩
      rw [Int.toNat_natCast]
      have h3 : frN (rung b) * m < 9007199254740992 * m := Nat.mul_lt_mul_of_pos_right hf (by omega)
      have h4 := Nat.div_lt_of_lt_mul h3
      omega
theorem pick_rises {a b : Nat} (n : Int) (ha : a < 18446744073709551616) (hb : b < 18446744073709551616) (hc : cls a ≠ 0) (hd : cls b ≠ 0) (h : keyN a < keyN b) : pickN a n ≤ pickN b n := by
  by_cases hn : n < 1
  · unfold pickN
    rw [if_pos hn, if_pos hn]
    exact Int.le_refl _
  · have hr := pick_range b n (by omega)
    have hr2 := pick_range a n (by omega)
    have nb : nanB b = false := by rcases cls_cases b with h | h | h | h | h | h | h <;> first | exact h.2.1 | exact absurd h.1 hd
    have na : nanB a = false := by rcases cls_cases a with h | h | h | h | h | h | h <;> first | exact h.2.1 | exact absurd h.1 hc
    unfold keyN at h
    rw [na, nb] at h
    simp only [Bool.false_eq_true, if_false] at h
    have ea := ng_iff ha
    have eb := ng_iff hb
    cases ga : ngB a
    · rw [ga] at ea h
      have ea' := of_decide_eq_false ea.symm
      cases gb : ngB b
      · rw [gb] at eb h
        have eb' := of_decide_eq_false eb.symm
        simp only [Bool.false_eq_true, if_false] at h
        have r1 : rung a = a := by unfold rung; omega
        have r2 : rung b = b := by unfold rung; omega
        by_cases h1 : 4607182418800017408 ≤ rung b
        · have : pickN b n = n - 1 := by
            unfold pickN
            rw [if_neg hn, nb, gb, decide_eq_false (show ¬ rung b = 0 by omega), if_neg (by simp), if_pos h1]
          omega
        · by_cases h0 : rung a = 0
          · have : pickN a n = 0 := by
              unfold pickN
              rw [if_neg hn, if_pos (by simp [h0])]
            omega
          · have e1 : pickN a n = ((frN (rung a) * n.toNat / 9007199254740992 : Nat) : Int) := by
              unfold pickN
              rw [if_neg hn, na, ga, decide_eq_false h0, if_neg (by simp), if_neg (by omega)]
            have e2 : pickN b n = ((frN (rung b) * n.toNat / 9007199254740992 : Nat) : Int) := by
              unfold pickN
              rw [if_neg hn, nb, gb, decide_eq_false (show ¬ rung b = 0 by omega), if_neg (by simp), if_neg h1]
            have h5 : frN (rung a) * n.toNat / 9007199254740992 ≤ frN (rung b) * n.toNat / 9007199254740992 := Nat.div_le_div_right (Nat.mul_le_mul_right _ (fr_le (by omega)))
            rw [e1, e2]
            exact Int.ofNat_le.2 h5
      · rw [gb] at eb h
        have eb' := of_decide_eq_true eb.symm
        simp only [Bool.false_eq_true, if_false, if_true] at h
        omega
    · have : pickN a n = 0 := by
        unfold pickN
        rw [if_neg hn, if_pos (by simp [ga])]
      omega

theorem realPicks_great (a b : Nat) (n : Int) (w : World) (ha : a < 18446744073709551616) (hb : b < 18446744073709551616) (hn0 : -9223372036854775808 ≤ n) (h : 1125899906842624 < n) : Calls Try.prog 5 #[.int .u64 (a : Int), .int .u64 (b : Int), .int .i64 n] w fun e w' => e = .returned (.bool true) ∧ Below w.heap.size w w' := by
  go_enter Try.func5, Try.ntmps5
  go_wp2_with fail
  refine (awake05_any w).mono ?_
  rintro e' w1 ⟨rfl, rfl⟩
  go_wp2_with fail
  go_ret
  exact ⟨rfl, Below.refl _ _⟩
set_option maxHeartbeats 800000 in
theorem realPicks_a (a b : Nat) (n : Int) (w : World) (ha : a < 18446744073709551616) (hb : b < 18446744073709551616) (hn0 : -9223372036854775808 ≤ n) (h : n ≤ 1125899906842624) (P Q : Int) (HP : Hid (pickN a n = P)) (HQ : Hid (pickN b n = Q)) (hr : n < 1 ∨ (1 ≤ n ∧ 0 ≤ P ∧ P < n)) (hc : cls a = 0) : Calls Try.prog 5 #[.int .u64 (a : Int), .int .u64 (b : Int), .int .i64 n] w fun e w' => e = .returned (.bool true) ∧ Below w.heap.size w w' := by
  rcases hr with hr | ⟨hr, hp0, hp1⟩
  all_goals
    have HC := Lib.hid hc
    clear hc
    have hng : ¬ 1125899906842624 < n := by omega
    go_enter Try.func5, Try.ntmps5
    go_wp2_with fail
    refine (pick_any a w ha n (by omega)).mono ?_
    rintro e' w1 ⟨rfl, rfl⟩
    rw [HP.out]
    go_wp2_with fail
    refine (pick_any b w hb n (by omega)).mono ?_
    rintro e' w1 ⟨rfl, rfl⟩
    rw [HQ.out]
    go_wp2_with fail
    refine (rpick_any a n w ha h).mono ?_
    rintro e' w1 ⟨rfl, rfl⟩
    rw [HP.out]
    go_wp2_with fail
    refine (rpick_any b n w hb h).mono ?_
    rintro e' w1 ⟨rfl, rfl⟩
    rw [HQ.out]
    go_wp2_with fail
    refine (rclass_any a w ha).mono ?_
    rintro e' w1 ⟨rfl, rfl⟩
    rw [HC.out]
    go_wp2_with fail
    refine (awake05_any w).mono ?_
    rintro e' w1 ⟨rfl, rfl⟩
    go_wp2_with fail
    go_ret
    exact ⟨rfl, Below.refl _ _⟩
set_option maxHeartbeats 800000 in
theorem realPicks_b (a b : Nat) (n : Int) (w : World) (ha : a < 18446744073709551616) (hb : b < 18446744073709551616) (hn0 : -9223372036854775808 ≤ n) (h : n ≤ 1125899906842624) (P Q : Int) (HP : Hid (pickN a n = P)) (HQ : Hid (pickN b n = Q)) (hr : n < 1 ∨ (1 ≤ n ∧ 0 ≤ P ∧ P < n)) (hc : cls a ≠ 0) (hd : cls b = 0) : Calls Try.prog 5 #[.int .u64 (a : Int), .int .u64 (b : Int), .int .i64 n] w fun e w' => e = .returned (.bool true) ∧ Below w.heap.size w w' := by
  rcases hr with hr | ⟨hr, hp0, hp1⟩
  all_goals
    have hc0 : ((cls a : Int) == 0) = false := by rw [beq_eq_false_iff_ne]; omega
    clear hc
    have HD := Lib.hid hd
    clear hd
    have hng : ¬ 1125899906842624 < n := by omega
    go_enter Try.func5, Try.ntmps5
    go_wp2_with fail
    refine (pick_any a w ha n (by omega)).mono ?_
    rintro e' w1 ⟨rfl, rfl⟩
    rw [HP.out]
    go_wp2_with fail
    refine (pick_any b w hb n (by omega)).mono ?_
    rintro e' w1 ⟨rfl, rfl⟩
    rw [HQ.out]
    go_wp2_with fail
    refine (rpick_any a n w ha h).mono ?_
    rintro e' w1 ⟨rfl, rfl⟩
    rw [HP.out]
    go_wp2_with fail
    refine (rpick_any b n w hb h).mono ?_
    rintro e' w1 ⟨rfl, rfl⟩
    rw [HQ.out]
    go_wp2_with fail
    refine (rclass_any a w ha).mono ?_
    rintro e' w1 ⟨rfl, rfl⟩
    go_wp2_with fail
    refine (rclass_any b w hb).mono ?_
    rintro e' w1 ⟨rfl, rfl⟩
    rw [HD.out]
    go_wp2_with fail
    refine (awake05_any w).mono ?_
    rintro e' w1 ⟨rfl, rfl⟩
    go_wp2_with fail
    go_ret
    exact ⟨rfl, Below.refl _ _⟩
set_option maxHeartbeats 800000 in
theorem realPicks_c (a b : Nat) (n : Int) (w : World) (ha : a < 18446744073709551616) (hb : b < 18446744073709551616) (hn0 : -9223372036854775808 ≤ n) (h : n ≤ 1125899906842624) (P Q : Int) (HP : Hid (pickN a n = P)) (HQ : Hid (pickN b n = Q)) (hr : n < 1 ∨ (1 ≤ n ∧ 0 ≤ P ∧ P < n)) (hc : cls a ≠ 0) (hd : cls b ≠ 0) (HA : Hid (aheadB a b = false)) : Calls Try.prog 5 #[.int .u64 (a : Int), .int .u64 (b : Int), .int .i64 n] w fun e w' => e = .returned (.bool true) ∧ Below w.heap.size w w' := by
  rcases hr with hr | ⟨hr, hp0, hp1⟩
  all_goals
    have hc0 : ((cls a : Int) == 0) = false := by rw [beq_eq_false_iff_ne]; omega
    clear hc
    have hd0 : ((cls b : Int) == 0) = false := by rw [beq_eq_false_iff_ne]; omega
    clear hd
    have hng : ¬ 1125899906842624 < n := by omega
    go_enter Try.func5, Try.ntmps5
    go_wp2_with fail
    refine (pick_any a w ha n (by omega)).mono ?_
    rintro e' w1 ⟨rfl, rfl⟩
    rw [HP.out]
    go_wp2_with fail
    refine (pick_any b w hb n (by omega)).mono ?_
    rintro e' w1 ⟨rfl, rfl⟩
    rw [HQ.out]
    go_wp2_with fail
    refine (rpick_any a n w ha h).mono ?_
    rintro e' w1 ⟨rfl, rfl⟩
    rw [HP.out]
    go_wp2_with fail
    refine (rpick_any b n w hb h).mono ?_
    rintro e' w1 ⟨rfl, rfl⟩
    rw [HQ.out]
    go_wp2_with fail
    refine (rclass_any a w ha).mono ?_
    rintro e' w1 ⟨rfl, rfl⟩
    go_wp2_with fail
    refine (rclass_any b w hb).mono ?_
    rintro e' w1 ⟨rfl, rfl⟩
    go_wp2_with fail
    refine (rless_any a b w ha hb).mono ?_
    rintro e' w1 ⟨rfl, rfl⟩
    rw [HA.out]
    go_wp2_with fail
    refine (awake05_any w).mono ?_
    rintro e' w1 ⟨rfl, rfl⟩
    go_wp2_with fail
    go_ret
    exact ⟨rfl, Below.refl _ _⟩
set_option maxHeartbeats 800000 in
theorem realPicks_d (a b : Nat) (n : Int) (w : World) (ha : a < 18446744073709551616) (hb : b < 18446744073709551616) (hn0 : -9223372036854775808 ≤ n) (h : n ≤ 1125899906842624) (P Q : Int) (HP : Hid (pickN a n = P)) (HQ : Hid (pickN b n = Q)) (hr : n < 1 ∨ (1 ≤ n ∧ 0 ≤ P ∧ P < n)) (hc : cls a ≠ 0) (hd : cls b ≠ 0) (HA : Hid (aheadB a b = true)) (hpq : P ≤ Q) : Calls Try.prog 5 #[.int .u64 (a : Int), .int .u64 (b : Int), .int .i64 n] w fun e w' => e = .returned (.bool true) ∧ Below w.heap.size w w' := by
  rcases hr with hr | ⟨hr, hp0, hp1⟩
  all_goals
    have hc0 : ((cls a : Int) == 0) = false := by rw [beq_eq_false_iff_ne]; omega
    clear hc
    have hd0 : ((cls b : Int) == 0) = false := by rw [beq_eq_false_iff_ne]; omega
    clear hd
    have hng : ¬ 1125899906842624 < n := by omega
    go_enter Try.func5, Try.ntmps5
    go_wp2_with fail
    refine (pick_any a w ha n (by omega)).mono ?_
    rintro e' w1 ⟨rfl, rfl⟩
    rw [HP.out]
    go_wp2_with fail
    refine (pick_any b w hb n (by omega)).mono ?_
    rintro e' w1 ⟨rfl, rfl⟩
    rw [HQ.out]
    go_wp2_with fail
    refine (rpick_any a n w ha h).mono ?_
    rintro e' w1 ⟨rfl, rfl⟩
    rw [HP.out]
    go_wp2_with fail
    refine (rpick_any b n w hb h).mono ?_
    rintro e' w1 ⟨rfl, rfl⟩
    rw [HQ.out]
    go_wp2_with fail
    refine (rclass_any a w ha).mono ?_
    rintro e' w1 ⟨rfl, rfl⟩
    go_wp2_with fail
    refine (rclass_any b w hb).mono ?_
    rintro e' w1 ⟨rfl, rfl⟩
    go_wp2_with fail
    refine (rless_any a b w ha hb).mono ?_
    rintro e' w1 ⟨rfl, rfl⟩
    rw [HA.out]
    go_wp2_with fail
    refine (awake05_any w).mono ?_
    rintro e' w1 ⟨rfl, rfl⟩
    go_wp2_with fail
    go_ret
    exact ⟨rfl, Below.refl _ _⟩
theorem realPicks_go (a b : Nat) (n : Int) (w : World) (ha : a < 18446744073709551616) (hb : b < 18446744073709551616) (hn0 : -9223372036854775808 ≤ n) : Calls Try.prog 5 #[.int .u64 (a : Int), .int .u64 (b : Int), .int .i64 n] w fun e w' => e = .returned (.bool true) ∧ Below w.heap.size w w' := by
  by_cases h : 1125899906842624 < n
  · exact realPicks_great a b n w ha hb hn0 h
  · have hr : n < 1 ∨ (1 ≤ n ∧ 0 ≤ pickN a n ∧ pickN a n < n) := by
      by_cases h1 : n < 1
      · exact .inl h1
      · exact .inr ⟨by omega, pick_range a n (by omega)⟩
    by_cases hc : cls a = 0
    · exact realPicks_a a b n w ha hb hn0 (by omega) _ _ (Lib.hid rfl) (Lib.hid rfl) hr hc
    · by_cases hd : cls b = 0
      · exact realPicks_b a b n w ha hb hn0 (by omega) _ _ (Lib.hid rfl) (Lib.hid rfl) hr hc hd
      · cases hA : aheadB a b
        · exact realPicks_c a b n w ha hb hn0 (by omega) _ _ (Lib.hid rfl) (Lib.hid rfl) hr hc hd (Lib.hid hA)
        · have hk : keyN a < keyN b := by rw [ahead_key ha hb] at hA; exact of_decide_eq_true hA
          exact realPicks_d a b n w ha hb hn0 (by omega) _ _ (Lib.hid rfl) (Lib.hid rfl) hr hc hd (Lib.hid hA) (pick_rises n ha hb hc hd hk)
end Go.Proofs.Ytagnlogakjajjaa
