/-
  The reference's Pick.
-/
import Derived.Test.YtagnlogakjajjaaReal4
import Derived.Test.YtagnlogakjajjaaReal5
namespace Go.Proofs.Ytagnlogakjajjaa
open Go.RowKit
set_option linter.unusedVariables false

theorem exps_eq : exps = 1021 := rfl
theorem sc_pow (s q : Nat) (h : s + q = exps + 53) : 2 ^ s * 2 ^ q = sc * 9007199254740992 := by
  rw [← Nat.pow_add, h, ← sc_eq]
theorem val_odd {r : Nat} (h0 : 0 < r) : val r = odd (mg r) * 2 ^ (pl r + tz (mg r)) := by
  obtain ⟨k, -, hm, -⟩ := odd_spec (mg_pos h0) (mg_lt r)
  unfold val
  rw [Nat.pow_add, Nat.mul_comm (2 ^ pl r), ← Nat.mul_assoc, Nat.mul_comm (odd _)]
  rw [← hm]
/-- Is it 1 or more: by the odd part and its place. -/
theorem one_high {r : Nat} (h0 : 0 < r) (h : exps + 53 ≤ pl r + tz (mg r)) : 4607182418800017408 ≤ r := by
  apply Nat.le_of_not_lt
  intro hlt
  have h1 := val_lt hlt
  rw [val_one _ rfl, val_odd h0] at h1
  have h3 : 2 ^ (exps + 53) ≤ 2 ^ (pl r + tz (mg r)) := Nat.pow_le_pow_right (by omega) h
  have h4 := Nat.le_mul_of_pos_left (2 ^ (pl r + tz (mg r))) (odd_pos (mg_pos h0) (mg_lt r))
  have h2 := sc_eq 53
  rw [← h2, Nat.mul_comm sc, show (2 : Nat) ^ 53 = 9007199254740992 from rfl] at h3
  exact Nat.lt_irrefl _ (Nat.lt_of_le_of_lt (Nat.le_trans h3 h4) h1)
theorem one_low {r : Nat} (h0 : 0 < r) (q : Nat) (h : pl r + tz (mg r) + q = exps + 53) : 4607182418800017408 ≤ r ↔ 2 ^ q ≤ odd (mg r) := by
  have h2 := sc_pow _ q h
  have hp := Nat.two_pow_pos (pl r + tz (mg r))
  have h3 : val 4607182418800017408 ≤ val r ↔ 2 ^ q ≤ odd (mg r) := by
    rw [val_one _ rfl, val_odd h0, Nat.mul_comm _ sc, ← h2, Nat.mul_comm]
    exact Nat.mul_le_mul_right_iff hp
  rw [← h3]
  refine ⟨val_le, fun h => ?_⟩
  apply Nat.le_of_not_lt
  intro hlt
  have := val_lt hlt
  exact Nat.lt_irrefl _ (Nat.lt_of_le_of_lt h this)
theorem fr_kq {r : Nat} (h0 : 0 < r) (q : Nat) (h : pl r + tz (mg r) + q = exps + 53) : frN r = odd (mg r) * 9007199254740992 / 2 ^ q := by
  have h2 := sc_pow _ q h
  have hs : 0 < sc := Nat.two_pow_pos _
  unfold frN
  rw [val_odd h0]
  generalize odd (mg r) = M at *
  generalize pl r + tz (mg r) = s at *
  rw [← Nat.mul_div_mul_right (M * 2 ^ s) sc (Nat.two_pow_pos q), Nat.mul_assoc, h2, Nat.mul_left_comm, Nat.mul_div_mul_left _ _ hs]

theorem rpick_low (b : Nat) (n : Int) (w : World) (h : n < 1) : Calls Try.prog 15 #[.int .u64 (b : Int), .int .i64 n] w fun e w' => e = .returned (.int .i64 (pickN b n)) ∧ w = w' := by
  have HK : Hid (pickN b n = -1) := by show _ = _; simp [pickN, h]
  go_enter Try.func15, Try.ntmps15
  go_wp2_with fail
  go_ret
  exact ⟨by rw [HK.out]; rfl, rfl⟩
theorem cls6 {b : Nat} (hb : b < 18446744073709551616) (h : cls b = 6) : b = 9218868437227405312 := by
  rcases cls_where hb with h' | h' | h' | h' | h' | h' | h' | h' <;> omega
theorem rpick_0 (b : Nat) (n : Int) (w : World) (hb : b < 18446744073709551616) (h : 1 ≤ n) (hi : n ≤ 1125899906842624) (hc : cls b = 0) : Calls Try.prog 15 #[.int .u64 (b : Int), .int .i64 n] w fun e w' => e = .returned (.int .i64 (pickN b n)) ∧ w = w' := by
  have hn1 : ¬ n < 1 := by omega
  have HK : Hid (pickN b n = 0) := by
    show _ = _
    unfold pickN
    rw [if_neg hn1, if_pos ?_]
    revert hc
    unfold cls
    cases nanB b <;> cases infB b <;> cases ngB b <;> simp <;> (try split) <;> simp_all
  have HM : Hid (partsM b = 0) := by show _ = _; simp [partsM, hc]
  have HI : Hid (partsI b = false) := by show _ = _; simp [partsI, hc]
  have HC := Lib.hid hc
  clear hc
  go_enter Try.func15, Try.ntmps15
  go_wp2_with fail
  refine (rparts_any b w hb).mono ?_
  rintro e' w1 ⟨rfl, rfl⟩
  rw [HM.out, HI.out]
  go_wp2_with fail
  refine (rclass_any b w hb).mono ?_
  rintro e' w1 ⟨rfl, rfl⟩
  rw [HC.out]
  go_wp2_with fail
  go_ret
  exact ⟨by rw [HK.out]; rfl, rfl⟩
theorem rpick_1 (b : Nat) (n : Int) (w : World) (hb : b < 18446744073709551616) (h : 1 ≤ n) (hi : n ≤ 1125899906842624) (hc : cls b = 1) : Calls Try.prog 15 #[.int .u64 (b : Int), .int .i64 n] w fun e w' => e = .returned (.int .i64 (pickN b n)) ∧ w = w' := by
  have hn1 : ¬ n < 1 := by omega
  have HK : Hid (pickN b n = 0) := by
    show _ = _
    unfold pickN
    rw [if_neg hn1, if_pos ?_]
    revert hc
    unfold cls
    cases nanB b <;> cases infB b <;> cases ngB b <;> simp <;> (try split) <;> simp_all
  have HM : Hid (partsM b = 0) := by show _ = _; simp [partsM, hc]
  have HI : Hid (partsI b = false) := by show _ = _; simp [partsI, hc]
  have HC := Lib.hid hc
  clear hc
  go_enter Try.func15, Try.ntmps15
  go_wp2_with fail
  refine (rparts_any b w hb).mono ?_
  rintro e' w1 ⟨rfl, rfl⟩
  rw [HM.out, HI.out]
  go_wp2_with fail
  refine (rclass_any b w hb).mono ?_
  rintro e' w1 ⟨rfl, rfl⟩
  rw [HC.out]
  go_wp2_with fail
  go_ret
  exact ⟨by rw [HK.out]; rfl, rfl⟩
theorem rpick_2 (b : Nat) (n : Int) (w : World) (hb : b < 18446744073709551616) (h : 1 ≤ n) (hi : n ≤ 1125899906842624) (hc : cls b = 2) : Calls Try.prog 15 #[.int .u64 (b : Int), .int .i64 n] w fun e w' => e = .returned (.int .i64 (pickN b n)) ∧ w = w' := by
  have hn1 : ¬ n < 1 := by omega
  have HK : Hid (pickN b n = 0) := by
    show _ = _
    unfold pickN
    rw [if_neg hn1, if_pos ?_]
    revert hc
    unfold cls
    cases nanB b <;> cases infB b <;> cases ngB b <;> simp <;> (try split) <;> simp_all
  have HM : Hid (partsM b = 0) := by show _ = _; simp [partsM, hc]
  have HI : Hid (partsI b = false) := by show _ = _; simp [partsI, hc]
  have HC := Lib.hid hc
  clear hc
  go_enter Try.func15, Try.ntmps15
  go_wp2_with fail
  refine (rparts_any b w hb).mono ?_
  rintro e' w1 ⟨rfl, rfl⟩
  rw [HM.out, HI.out]
  go_wp2_with fail
  refine (rclass_any b w hb).mono ?_
  rintro e' w1 ⟨rfl, rfl⟩
  rw [HC.out]
  go_wp2_with fail
  go_ret
  exact ⟨by rw [HK.out]; rfl, rfl⟩
theorem rpick_3 (b : Nat) (n : Int) (w : World) (hb : b < 18446744073709551616) (h : 1 ≤ n) (hi : n ≤ 1125899906842624) (hc : cls b = 3) : Calls Try.prog 15 #[.int .u64 (b : Int), .int .i64 n] w fun e w' => e = .returned (.int .i64 (pickN b n)) ∧ w = w' := by
  have hn1 : ¬ n < 1 := by omega
  have HK : Hid (pickN b n = 0) := by
    show _ = _
    unfold pickN
    rw [if_neg hn1, if_pos ?_]
    revert hc
    unfold cls
    cases nanB b <;> cases infB b <;> cases ngB b <;> simp <;> (try split) <;> simp_all
  have HM : Hid (partsM b = 0) := by show _ = _; simp [partsM, hc]
  have HI : Hid (partsI b = true) := by show _ = _; simp [partsI, hc]
  have HC := Lib.hid hc
  clear hc
  go_enter Try.func15, Try.ntmps15
  go_wp2_with fail
  refine (rparts_any b w hb).mono ?_
  rintro e' w1 ⟨rfl, rfl⟩
  rw [HM.out, HI.out]
  go_wp2_with fail
  refine (rclass_any b w hb).mono ?_
  rintro e' w1 ⟨rfl, rfl⟩
  rw [HC.out]
  go_wp2_with fail
  go_ret
  exact ⟨by rw [HK.out]; rfl, rfl⟩
theorem rpick_4 (b : Nat) (n : Int) (w : World) (hb : b < 18446744073709551616) (h : 1 ≤ n) (hi : n ≤ 1125899906842624) (hc : cls b = 4) : Calls Try.prog 15 #[.int .u64 (b : Int), .int .i64 n] w fun e w' => e = .returned (.int .i64 (pickN b n)) ∧ w = w' := by
  have hn1 : ¬ n < 1 := by omega
  have HK : Hid (pickN b n = 0) := by
    show _ = _
    unfold pickN
    rw [if_neg hn1, if_pos ?_]
    revert hc
    unfold cls
    cases nanB b <;> cases infB b <;> cases ngB b <;> simp <;> (try split) <;> simp_all
  have HM : Hid (partsM b = 0) := by show _ = _; simp [partsM, hc]
  have HI : Hid (partsI b = true) := by show _ = _; simp [partsI, hc]
  have HC := Lib.hid hc
  clear hc
  go_enter Try.func15, Try.ntmps15
  go_wp2_with fail
  refine (rparts_any b w hb).mono ?_
  rintro e' w1 ⟨rfl, rfl⟩
  rw [HM.out, HI.out]
  go_wp2_with fail
  refine (rclass_any b w hb).mono ?_
  rintro e' w1 ⟨rfl, rfl⟩
  rw [HC.out]
  go_wp2_with fail
  go_ret
  exact ⟨by rw [HK.out]; rfl, rfl⟩
theorem rpick_6 (b : Nat) (n : Int) (w : World) (hb : b < 18446744073709551616) (h : 1 ≤ n) (hi : n ≤ 1125899906842624) (hc : cls b = 6) : Calls Try.prog 15 #[.int .u64 (b : Int), .int .i64 n] w fun e w' => e = .returned (.int .i64 (pickN b n)) ∧ w = w' := by
  have hn1 : ¬ n < 1 := by omega
  have HK : Hid (pickN b n = n - 1) := by
    show _ = _
    obtain rfl := cls6 hb hc
    unfold pickN
    rw [if_neg hn1, if_neg (by decide), if_pos (by decide)]
  have HM : Hid (partsM b = 0) := by show _ = _; simp [partsM, hc]
  have HI : Hid (partsI b = false) := by show _ = _; simp [partsI, hc]
  have HC := Lib.hid hc
  clear hc
  go_enter Try.func15, Try.ntmps15
  go_wp2_with fail
  refine (rparts_any b w hb).mono ?_
  rintro e' w1 ⟨rfl, rfl⟩
  rw [HM.out, HI.out]
  go_wp2_with fail
  refine (rclass_any b w hb).mono ?_
  rintro e' w1 ⟨rfl, rfl⟩
  rw [HC.out]
  go_wp2_with fail
  go_ret
  exact ⟨by rw [HK.out]; rfl, rfl⟩
theorem rpick_high (b : Nat) (n : Int) (w : World) (hb : b < 18446744073709551616) (h : 1 ≤ n) (hi : n ≤ 1125899906842624) (hc : cls b = 5) (s : Nat) (hs : pl (rung b) + tz (mg (rung b)) = 1074 + s) : Calls Try.prog 15 #[.int .u64 (b : Int), .int .i64 n] w fun e w' => e = .returned (.int .i64 (pickN b n)) ∧ w = w' := by
  obtain ⟨hb0, hb1, hr⟩ := cls5 hb hc
  have hn1 : ¬ n < 1 := by omega
  have h0 : 0 < rung b := by omega
  have hM0 := odd_pos (mg_pos h0) (mg_lt (rung b))
  have hM1 := odd_lt (mg_lt (rung b))
  have HM : Hid (partsM b = odd (mg (rung b))) := by show _ = _; simp [partsM, hc]
  have HI : Hid (partsI b = true) := by show _ = _; simp [partsI, hc]
  have HC := Lib.hid hc
  have hnan : nanB b = false := by unfold nanB; rw [decide_eq_false_iff_not]; omega
  have hng : ngB b = false := by rw [ng_iff hb, decide_eq_false_iff_not]; omega
  have hz : rung b ≠ 0 := by omega
  have hone := one_high h0 (by rw [exps_eq]; omega)
  have HK : Hid (pickN b n = n - 1) := by show _ = _; unfold pickN; rw [if_neg hn1, hnan, hng, decide_eq_false hz, if_neg (by simp), if_pos hone]
  have HE : Hid (partsE b = (s : Int)) := by show _ = _; simp only [partsE, hc, if_true]; omega
  obtain ⟨M, hM⟩ : ∃ M, odd (mg (rung b)) = M := ⟨_, rfl⟩
  rw [hM] at HM hM0 hM1
  clear hM hone hnan hng hz hc hr h0 hs
  have hs0 : (0 : Int) ≤ (s : Int) := by omega
  have hm0 : ((M : Int) == 0) = false := by rw [beq_eq_false_iff_ne]; omega
  go_enter Try.func15, Try.ntmps15
  go_wp2_with fail
  refine (rparts_any b w hb).mono ?_
  rintro e' w1 ⟨rfl, rfl⟩
  rw [HM.out, HI.out, HE.out]
  go_wp2_with fail
  refine (rclass_any b w hb).mono ?_
  rintro e' w1 ⟨rfl, rfl⟩
  rw [HC.out]
  go_wp2_with fail
  go_ret
  exact ⟨by rw [HK.out]; rfl, rfl⟩
theorem rpick_one (b : Nat) (n : Int) (w : World) (hb : b < 18446744073709551616) (h : 1 ≤ n) (hi : n ≤ 1125899906842624) (hc : cls b = 5) (q : Nat) (hq0 : 0 < q) (hq1 : q < 64) (hs : pl (rung b) + tz (mg (rung b)) + q = 1074) (hbig : 2 ^ q ≤ odd (mg (rung b))) : Calls Try.prog 15 #[.int .u64 (b : Int), .int .i64 n] w fun e w' => e = .returned (.int .i64 (pickN b n)) ∧ w = w' := by
  obtain ⟨hb0, hb1, hr⟩ := cls5 hb hc
  have hn1 : ¬ n < 1 := by omega
  have h0 : 0 < rung b := by omega
  have hM0 := odd_pos (mg_pos h0) (mg_lt (rung b))
  have hM1 := odd_lt (mg_lt (rung b))
  have HM : Hid (partsM b = odd (mg (rung b))) := by show _ = _; simp [partsM, hc]
  have HI : Hid (partsI b = true) := by show _ = _; simp [partsI, hc]
  have HC := Lib.hid hc
  have hnan : nanB b = false := by unfold nanB; rw [decide_eq_false_iff_not]; omega
  have hng : ngB b = false := by rw [ng_iff hb, decide_eq_false_iff_not]; omega
  have hz : rung b ≠ 0 := by omega
  have hone := (one_low h0 q (by rw [exps_eq]; omega)).2 hbig
  have HK : Hid (pickN b n = n - 1) := by show _ = _; unfold pickN; rw [if_neg hn1, hnan, hng, decide_eq_false hz, if_neg (by simp), if_pos hone]
  have HE : Hid (partsE b = -(q : Int)) := by show _ = _; simp only [partsE, hc, if_true]; omega
  obtain ⟨M, hM⟩ : ∃ M, odd (mg (rung b)) = M := ⟨_, rfl⟩
  rw [hM] at HM hM0 hM1 hbig
  have hdiv : 0 < M / 2 ^ q := Nat.div_pos hbig (Nat.two_pow_pos _)
  have hpos : (0 : Int) < (M : Int) / 2 ^ q := by
    have : (M : Int) / 2 ^ q = ((M / 2 ^ q : Nat) : Int) := by norm_cast
    rw [this]; omega
  clear hM hone hnan hng hz hc hr h0 hs hbig hdiv
  have hm0 : ((M : Int) == 0) = false := by rw [beq_eq_false_iff_ne]; omega
  go_enter Try.func15, Try.ntmps15
  go_wp2_with fail
  refine (rparts_any b w hb).mono ?_
  rintro e' w1 ⟨rfl, rfl⟩
  rw [HM.out, HI.out, HE.out]
  go_wp2_with fail
  refine (rclass_any b w hb).mono ?_
  rintro e' w1 ⟨rfl, rfl⟩
  rw [HC.out]
  go_wp2_with fail
  go_ret
  exact ⟨by rw [HK.out]; rfl, rfl⟩
end Go.Proofs.Ytagnlogakjajjaa
