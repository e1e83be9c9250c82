/-
  The reference's Pick: its two loops.
-/
import Derived.Test.YtagnlogakjajjaaReal6
namespace Go.Proofs.Ytagnlogakjajjaa
open Go.RowKit
set_option linter.unusedVariables false

set_option maxHeartbeats 1000000 in
theorem rpick_part1 (b n : Nat) (w : World) (hb : b < 18446744073709551616) (h : 1 ≤ n) (hi : n ≤ 1125899906842624) (hc : cls b = 5) (q : Nat) (hq0 : 0 < q) (hq1 : q < 64) (hs : pl (rung b) + tz (mg (rung b)) + q = 1074) (hsm : odd (mg (rung b)) < 2 ^ q) : Calls Try.prog 15 #[.int .u64 (b : Int), .int .i64 (n : Int)] w fun e w' => e = .returned (.int .i64 (pickN b (n : Int))) ∧ w = w' := by
  obtain ⟨hb0, hb1, hr⟩ := cls5 hb hc
  have hn1 : ¬ (n : Int) < 1 := by omega
  have h0 : 0 < rung b := by omega
  have hM0 := odd_pos (mg_pos h0) (mg_lt (rung b))
  have hM1 := odd_lt (mg_lt (rung b))
  have HM : Hid (partsM b = odd (mg (rung b))) := by show _ = _; simp [partsM, hc]
  have HI : Hid (partsI b = true) := by show _ = _; simp [partsI, hc]
  have HC := Lib.hid hc
  have hnan : nanB b = false := by unfold nanB; rw [decide_eq_false_iff_not]; omega
  have hng : ngB b = false := by rw [ng_iff hb, decide_eq_false_iff_not]; omega
  have hz : rung b ≠ 0 := by omega
  have hone : ¬ 4607182418800017408 ≤ rung b := fun h => by
    have := (one_low h0 q (by rw [exps_eq]; omega)).1 h
    exact Nat.lt_irrefl _ (Nat.lt_of_le_of_lt this hsm)
  have hfr := fr_kq h0 q (by rw [exps_eq]; omega)
  have HK : Hid (pickN b n = ((frN (rung b) * n / 9007199254740992 : Nat) : Int)) := by show _ = _; unfold pickN; rw [if_neg hn1, hnan, hng, decide_eq_false hz, if_neg (by simp), if_neg hone, Int.toNat_natCast]
  rw [hfr] at HK
  have HE : Hid (partsE b = -(q : Int)) := by show _ = _; simp only [partsE, hc, if_true]; omega
  obtain ⟨M, hM⟩ : ∃ M, odd (mg (rung b)) = M := ⟨_, rfl⟩
  rw [hM] at HM hM0 hM1 hsm HK
  have hd0 : (M : Int) / 2 ^ q = 0 := by
    have : (M : Int) / 2 ^ q = ((M / 2 ^ q : Nat) : Int) := by norm_cast
    rw [this, Nat.div_eq_of_lt hsm]; rfl
  have hq2 : q ≤ 1074 := by omega
  clear hM hone hnan hng hz hc hr h0 hs hfr
  have hm0 : ((M : Int) == 0) = false := by rw [beq_eq_false_iff_ne]; omega
  have hK0 := kq_zero hsm
  have hKl := kq_lt hsm
  have HI1 := Lib.hid (fun i hi => kq_in M q i hi)
  have HI2 := Lib.hid (fun i hi => kq_out M q i hi)
  have HK2 : Hid (pickN b n = ((kq M q 53 * n / 9007199254740992 : Nat) : Int)) := HK
  clear HK hsm
  go_enter Try.func15, Try.ntmps15
  go_wp2_with fail
  refine (rparts_any b w hb).mono ?_
  rintro e' w1 ⟨rfl, rfl⟩
  rw [HM.out, HI.out, HE.out]
  go_wp2_with fail
  refine (rclass_any b w hb).mono ?_
  rintro e' w1 ⟨rfl, rfl⟩
  rw [HC.out]
  go_wp2_with fail
  go_loop [8, 9, 10] (fun k i a => ∃ j : Nat, j ≤ 53 ∧ k = .int .u64 (kq M q j : Int) ∧ i = .int .i64 ((j : Int) + 1)) (fun _ i _ => 54 - (intOf i).toNat)
  case atStart => exact ⟨0, Nat.zero_le _, by rw [hK0]; rfl, by simp⟩
  case round =>
    obtain ⟨j, hj, rfl, rfl⟩ := hrel
    by_cases hlt : j < 53
    · have hk1 : kq M q j < 9007199254740992 := Nat.lt_trans (hKl j) (Nat.pow_lt_pow_right (n := 53) (by omega) hlt)
      clear hKl hK0 HK2
      by_cases hin : j + 1 ≤ q
      · have HN := Lib.hid (HI1.out j hin)
        have hin2 : (j : Int) + 1 ≤ (q : Int) := by omega
        by_cases hat : q - (j + 1) < 64
        · have hat2 : (q : Int) - ((j : Int) + 1) < 64 := by omega
          have e : ((M : Int) / 2 ^ (q - (j + 1))).tmod 2 = ((M / 2 ^ (q - (j + 1)) % 2 : Nat) : Int) := by
            have : (M : Int) / 2 ^ (q - (j + 1)) = ((M / 2 ^ (q - (j + 1)) : Nat) : Int) := by norm_cast
            rw [this]; rfl
          by_cases hbit : M / 2 ^ (q - (j + 1)) % 2 = 1
          · have hB : (((M : Int) / 2 ^ (q - (j + 1))).tmod 2 == 1) = true := by rw [e, hbit]; rfl
            rw [hbit] at HN
            clear e hbit hin hat
            go_wp2
            go_round
            case rel => exact ⟨j + 1, by omega, by rw [HN.out]; go_num, by go_num⟩
            case measure => simp [intOf]; omega
          · have h0 : M / 2 ^ (q - (j + 1)) % 2 = 0 := by omega
            have hB : (((M : Int) / 2 ^ (q - (j + 1))).tmod 2 == 1) = false := by rw [e, h0]; rfl
            rw [h0, Nat.add_zero] at HN
            clear e hbit hin hat h0
            go_wp2
            go_round
            case rel => exact ⟨j + 1, by omega, by rw [HN.out]; go_num, by go_num⟩
            case measure => simp [intOf]; omega
        · exact absurd hat (by omega)
      · have HN := Lib.hid (HI2.out j (by omega))
        have hin2 : ¬ (j : Int) + 1 ≤ (q : Int) := by omega
        clear hin
        go_wp2
        go_round
        case rel => exact ⟨j + 1, by omega, by rw [HN.out]; go_num, by go_num⟩
        case measure => simp [intOf]; omega
    · obtain rfl : j = 53 := by omega
      have hk1 : kq M q 53 < 9007199254740992 := hKl 53
      obtain ⟨K, hK⟩ : ∃ K, kq M q 53 = K := ⟨_, rfl⟩
      rw [hK] at HK2 hk1 ⊢
      clear hK hKl hK0 HI1 HI2 hlt hj
      rw [show ((53 : Nat) : Int) = 53 from rfl]
      go_wp2_with fail
      go_loop [11, 12, 13] (fun o r i => ∃ j : Nat, j ≤ 53 ∧ o = .int .u64 ((K * (n / 2 ^ j) / 9007199254740992 : Nat) : Int) ∧ r = .int .u64 ((K * (n / 2 ^ j) % 9007199254740992 : Nat) : Int) ∧ i = .int .i64 ((j : Int) - 1)) (fun _ _ i => (intOf i + 1).toNat)
      case atStart => exact ⟨53, Nat.le_refl _, by rw [show n / 2 ^ 53 = 0 from Nat.div_eq_of_lt (by omega), Nat.mul_zero]; rfl, by rw [show n / 2 ^ 53 = 0 from Nat.div_eq_of_lt (by omega), Nat.mul_zero]; rfl, rfl⟩
      case round =>
        obtain ⟨j, hj, rfl, rfl, rfl⟩ := hrel
        have hX := Nat.mul_le_mul (Nat.le_of_lt_succ (show K < 9007199254740991 + 1 by omega)) (Nat.le_trans (Nat.div_le_self n (2 ^ j)) hi)
        rcases j with _ | j
        · rw [Nat.pow_zero, Nat.div_one] at hX ⊢
          obtain ⟨Y, hY⟩ : ∃ Y, K * n = Y := ⟨_, rfl⟩
          rw [hY] at HK2 hX ⊢
          clear hY
          have hwr : Hid (wrap64 ((Y / 9007199254740992 : Nat) : Int) = ((Y / 9007199254740992 : Nat) : Int)) := by show _ = _; unfold wrap64; omega
          have hU : Y / 9007199254740992 < 9223372036854775808 := by omega
          obtain ⟨U, hU'⟩ : ∃ U, Y / 9007199254740992 = U := ⟨_, rfl⟩
          rw [hU'] at HK2 hU ⊢
          clear hU' hX hwr
          go_wp2
          go_ret
          exact ⟨by rw [HK2.out]; rfl, rfl⟩
        · have HD := digit_step K n j
          have ei : (((j + 1 : Nat) : Int) - 1) = (j : Int) := by omega
          rw [ei]
          obtain ⟨X, hX'⟩ : ∃ X, K * (n / 2 ^ (j + 1)) = X := ⟨_, rfl⟩
          rw [hX'] at hX HD ⊢
          clear hX' ei
          have j0 : (0 : Int) ≤ (j : Int) := by omega
          have j1 : (j : Int) < 64 := by omega
          have e : ((n : Int) / 2 ^ j).tmod 2 = ((n / 2 ^ j % 2 : Nat) : Int) := by
            have : (n : Int) / 2 ^ j = ((n / 2 ^ j : Nat) : Int) := by norm_cast
            rw [this]; rfl
          by_cases hbit : n / 2 ^ j % 2 = 1
          · have hB : (((n : Int) / 2 ^ j).tmod 2 == 1) = true := by rw [e, hbit]; rfl
            rw [if_pos hbit] at HD
            have HO : Hid (((K * (n / 2 ^ j) / 9007199254740992 : Nat) : Int) = 2 * ((X / 9007199254740992 : Nat) : Int) + (2 * ((X % 9007199254740992 : Nat) : Int) + K) / 9007199254740992) := by show _ = _; rw [HD]; omega
            have HR : Hid (((K * (n / 2 ^ j) % 9007199254740992 : Nat) : Int) = (2 * ((X % 9007199254740992 : Nat) : Int) + K) % 9007199254740992) := by show _ = _; rw [HD]; omega
            have ho : X / 9007199254740992 ≤ 1125899906842624 := by omega
            have hr : X % 9007199254740992 < 9007199254740992 := by omega
            obtain ⟨O, hO⟩ : ∃ O, X / 9007199254740992 = O := ⟨_, rfl⟩
            obtain ⟨R, hR⟩ : ∃ R, X % 9007199254740992 = R := ⟨_, rfl⟩
            rw [hO] at HO ho ⊢
            rw [hR] at HO HR hr ⊢
            clear e hbit HD hX hO hR
            go_wp2
            go_round
            case rel => exact ⟨j, by omega, by rw [HO.out], by rw [HR.out], rfl⟩
            case measure => simp [intOf]
          · have hB : (((n : Int) / 2 ^ j).tmod 2 == 1) = false := by rw [e, show n / 2 ^ j % 2 = 0 by omega]; rfl
            rw [if_neg hbit, Nat.add_zero] at HD
            have HO : Hid (((K * (n / 2 ^ j) / 9007199254740992 : Nat) : Int) = 2 * ((X / 9007199254740992 : Nat) : Int) + (2 * ((X % 9007199254740992 : Nat) : Int)) / 9007199254740992) := by show _ = _; rw [HD]; omega
            have HR : Hid (((K * (n / 2 ^ j) % 9007199254740992 : Nat) : Int) = (2 * ((X % 9007199254740992 : Nat) : Int)) % 9007199254740992) := by show _ = _; rw [HD]; omega
            have ho : X / 9007199254740992 ≤ 1125899906842624 := by omega
            have hr : X % 9007199254740992 < 9007199254740992 := by omega
            obtain ⟨O, hO⟩ : ∃ O, X / 9007199254740992 = O := ⟨_, rfl⟩
            obtain ⟨R, hR⟩ : ∃ R, X % 9007199254740992 = R := ⟨_, rfl⟩
            rw [hO] at HO ho ⊢
            rw [hR] at HO HR hr ⊢
            clear e hbit HD hX hO hR
            go_wp2
            go_round
            case rel => exact ⟨j, by omega, by rw [HO.out], by rw [HR.out], rfl⟩
            case measure => simp [intOf]
set_option maxHeartbeats 1000000 in
theorem rpick_part2 (b n : Nat) (w : World) (hb : b < 18446744073709551616) (h : 1 ≤ n) (hi : n ≤ 1125899906842624) (hc : cls b = 5) (q : Nat) (hq0 : 0 < q) (hq1 : 64 ≤ q) (hs : pl (rung b) + tz (mg (rung b)) + q = 1074) (hsm : odd (mg (rung b)) < 2 ^ q) : Calls Try.prog 15 #[.int .u64 (b : Int), .int .i64 (n : Int)] w fun e w' => e = .returned (.int .i64 (pickN b (n : Int))) ∧ w = w' := by
  obtain ⟨hb0, hb1, hr⟩ := cls5 hb hc
  have hn1 : ¬ (n : Int) < 1 := by omega
  have h0 : 0 < rung b := by omega
  have hM0 := odd_pos (mg_pos h0) (mg_lt (rung b))
  have hM1 := odd_lt (mg_lt (rung b))
  have HM : Hid (partsM b = odd (mg (rung b))) := by show _ = _; simp [partsM, hc]
  have HI : Hid (partsI b = true) := by show _ = _; simp [partsI, hc]
  have HC := Lib.hid hc
  have hnan : nanB b = false := by unfold nanB; rw [decide_eq_false_iff_not]; omega
  have hng : ngB b = false := by rw [ng_iff hb, decide_eq_false_iff_not]; omega
  have hz : rung b ≠ 0 := by omega
  have hone : ¬ 4607182418800017408 ≤ rung b := fun h => by
    have := (one_low h0 q (by rw [exps_eq]; omega)).1 h
    exact Nat.lt_irrefl _ (Nat.lt_of_le_of_lt this hsm)
  have hfr := fr_kq h0 q (by rw [exps_eq]; omega)
  have HK : Hid (pickN b n = ((frN (rung b) * n / 9007199254740992 : Nat) : Int)) := by show _ = _; unfold pickN; rw [if_neg hn1, hnan, hng, decide_eq_false hz, if_neg (by simp), if_neg hone, Int.toNat_natCast]
  rw [hfr] at HK
  have HE : Hid (partsE b = -(q : Int)) := by show _ = _; simp only [partsE, hc, if_true]; omega
  obtain ⟨M, hM⟩ : ∃ M, odd (mg (rung b)) = M := ⟨_, rfl⟩
  rw [hM] at HM hM0 hM1 hsm HK
  have hq2 : q ≤ 1074 := by omega
  clear hM hone hnan hng hz hc hr h0 hs hfr
  have hm0 : ((M : Int) == 0) = false := by rw [beq_eq_false_iff_ne]; omega
  have hK0 := kq_zero hsm
  have hKl := kq_lt hsm
  have HI1 := Lib.hid (fun i hi => kq_in M q i hi)
  have HI2 := Lib.hid (fun i hi => kq_out M q i hi)
  have HK2 : Hid (pickN b n = ((kq M q 53 * n / 9007199254740992 : Nat) : Int)) := HK
  clear HK hsm
  go_enter Try.func15, Try.ntmps15
  go_wp2_with fail
  refine (rparts_any b w hb).mono ?_
  rintro e' w1 ⟨rfl, rfl⟩
  rw [HM.out, HI.out, HE.out]
  go_wp2_with fail
  refine (rclass_any b w hb).mono ?_
  rintro e' w1 ⟨rfl, rfl⟩
  rw [HC.out]
  go_wp2_with fail
  go_loop [8, 9, 10] (fun k i a => ∃ j : Nat, j ≤ 53 ∧ k = .int .u64 (kq M q j : Int) ∧ i = .int .i64 ((j : Int) + 1)) (fun _ i _ => 54 - (intOf i).toNat)
  case atStart => exact ⟨0, Nat.zero_le _, by rw [hK0]; rfl, by simp⟩
  case round =>
    obtain ⟨j, hj, rfl, rfl⟩ := hrel
    by_cases hlt : j < 53
    · have hk1 : kq M q j < 9007199254740992 := Nat.lt_trans (hKl j) (Nat.pow_lt_pow_right (n := 53) (by omega) hlt)
      clear hKl hK0 HK2
      by_cases hin : j + 1 ≤ q
      · have HN := Lib.hid (HI1.out j hin)
        have hin2 : (j : Int) + 1 ≤ (q : Int) := by omega
        by_cases hat : q - (j + 1) < 64
        · have hat2 : (q : Int) - ((j : Int) + 1) < 64 := by omega
          have e : ((M : Int) / 2 ^ (q - (j + 1))).tmod 2 = ((M / 2 ^ (q - (j + 1)) % 2 : Nat) : Int) := by
            have : (M : Int) / 2 ^ (q - (j + 1)) = ((M / 2 ^ (q - (j + 1)) : Nat) : Int) := by norm_cast
            rw [this]; rfl
          by_cases hbit : M / 2 ^ (q - (j + 1)) % 2 = 1
          · have hB : (((M : Int) / 2 ^ (q - (j + 1))).tmod 2 == 1) = true := by rw [e, hbit]; rfl
            rw [hbit] at HN
            clear e hbit hin hat
            go_wp2
            go_round
            case rel => exact ⟨j + 1, by omega, by rw [HN.out]; go_num, by go_num⟩
            case measure => simp [intOf]; omega
          · have h0 : M / 2 ^ (q - (j + 1)) % 2 = 0 := by omega
            have hB : (((M : Int) / 2 ^ (q - (j + 1))).tmod 2 == 1) = false := by rw [e, h0]; rfl
            rw [h0, Nat.add_zero] at HN
            clear e hbit hin hat h0
            go_wp2
            go_round
            case rel => exact ⟨j + 1, by omega, by rw [HN.out]; go_num, by go_num⟩
            case measure => simp [intOf]; omega
        · have hat2 : ¬ (q : Int) - ((j : Int) + 1) < 64 := by omega
          have h0 : M / 2 ^ (q - (j + 1)) = 0 := Nat.div_eq_of_lt (Nat.lt_of_lt_of_le (show M < 2 ^ 64 by omega) (Nat.pow_le_pow_right (by omega) (by omega)))
          rw [h0, Nat.zero_mod, Nat.add_zero] at HN
          clear hin hat h0
          go_wp2
          go_round
          case rel => exact ⟨j + 1, by omega, by rw [HN.out]; go_num, by go_num⟩
          case measure => simp [intOf]; omega
      · exact absurd (show j + 1 ≤ q by omega) hin
    · obtain rfl : j = 53 := by omega
      have hk1 : kq M q 53 < 9007199254740992 := hKl 53
      obtain ⟨K, hK⟩ : ∃ K, kq M q 53 = K := ⟨_, rfl⟩
      rw [hK] at HK2 hk1 ⊢
      clear hK hKl hK0 HI1 HI2 hlt hj
      rw [show ((53 : Nat) : Int) = 53 from rfl]
      go_wp2_with fail
      go_loop [11, 12, 13] (fun o r i => ∃ j : Nat, j ≤ 53 ∧ o = .int .u64 ((K * (n / 2 ^ j) / 9007199254740992 : Nat) : Int) ∧ r = .int .u64 ((K * (n / 2 ^ j) % 9007199254740992 : Nat) : Int) ∧ i = .int .i64 ((j : Int) - 1)) (fun _ _ i => (intOf i + 1).toNat)
      case atStart => exact ⟨53, Nat.le_refl _, by rw [show n / 2 ^ 53 = 0 from Nat.div_eq_of_lt (by omega), Nat.mul_zero]; rfl, by rw [show n / 2 ^ 53 = 0 from Nat.div_eq_of_lt (by omega), Nat.mul_zero]; rfl, rfl⟩
      case round =>
        obtain ⟨j, hj, rfl, rfl, rfl⟩ := hrel
        have hX := Nat.mul_le_mul (Nat.le_of_lt_succ (show K < 9007199254740991 + 1 by omega)) (Nat.le_trans (Nat.div_le_self n (2 ^ j)) hi)
        rcases j with _ | j
        · rw [Nat.pow_zero, Nat.div_one] at hX ⊢
          obtain ⟨Y, hY⟩ : ∃ Y, K * n = Y := ⟨_, rfl⟩
          rw [hY] at HK2 hX ⊢
          clear hY
          have hwr : Hid (wrap64 ((Y / 9007199254740992 : Nat) : Int) = ((Y / 9007199254740992 : Nat) : Int)) := by show _ = _; unfold wrap64; omega
          have hU : Y / 9007199254740992 < 9223372036854775808 := by omega
          obtain ⟨U, hU'⟩ : ∃ U, Y / 9007199254740992 = U := ⟨_, rfl⟩
          rw [hU'] at HK2 hU ⊢
          clear hU' hX hwr
          go_wp2
          go_ret
          exact ⟨by rw [HK2.out]; rfl, rfl⟩
        · have HD := digit_step K n j
          have ei : (((j + 1 : Nat) : Int) - 1) = (j : Int) := by omega
          rw [ei]
          obtain ⟨X, hX'⟩ : ∃ X, K * (n / 2 ^ (j + 1)) = X := ⟨_, rfl⟩
          rw [hX'] at hX HD ⊢
          clear hX' ei
          have j0 : (0 : Int) ≤ (j : Int) := by omega
          have j1 : (j : Int) < 64 := by omega
          have e : ((n : Int) / 2 ^ j).tmod 2 = ((n / 2 ^ j % 2 : Nat) : Int) := by
            have : (n : Int) / 2 ^ j = ((n / 2 ^ j : Nat) : Int) := by norm_cast
            rw [this]; rfl
          by_cases hbit : n / 2 ^ j % 2 = 1
          · have hB : (((n : Int) / 2 ^ j).tmod 2 == 1) = true := by rw [e, hbit]; rfl
            rw [if_pos hbit] at HD
            have HO : Hid (((K * (n / 2 ^ j) / 9007199254740992 : Nat) : Int) = 2 * ((X / 9007199254740992 : Nat) : Int) + (2 * ((X % 9007199254740992 : Nat) : Int) + K) / 9007199254740992) := by show _ = _; rw [HD]; omega
            have HR : Hid (((K * (n / 2 ^ j) % 9007199254740992 : Nat) : Int) = (2 * ((X % 9007199254740992 : Nat) : Int) + K) % 9007199254740992) := by show _ = _; rw [HD]; omega
            have ho : X / 9007199254740992 ≤ 1125899906842624 := by omega
            have hr : X % 9007199254740992 < 9007199254740992 := by omega
            obtain ⟨O, hO⟩ : ∃ O, X / 9007199254740992 = O := ⟨_, rfl⟩
            obtain ⟨R, hR⟩ : ∃ R, X % 9007199254740992 = R := ⟨_, rfl⟩
            rw [hO] at HO ho ⊢
            rw [hR] at HO HR hr ⊢
            clear e hbit HD hX hO hR
            go_wp2
            go_round
            case rel => exact ⟨j, by omega, by rw [HO.out], by rw [HR.out], rfl⟩
            case measure => simp [intOf]
          · have hB : (((n : Int) / 2 ^ j).tmod 2 == 1) = false := by rw [e, show n / 2 ^ j % 2 = 0 by omega]; rfl
            rw [if_neg hbit, Nat.add_zero] at HD
            have HO : Hid (((K * (n / 2 ^ j) / 9007199254740992 : Nat) : Int) = 2 * ((X / 9007199254740992 : Nat) : Int) + (2 * ((X % 9007199254740992 : Nat) : Int)) / 9007199254740992) := by show _ = _; rw [HD]; omega
            have HR : Hid (((K * (n / 2 ^ j) % 9007199254740992 : Nat) : Int) = (2 * ((X % 9007199254740992 : Nat) : Int)) % 9007199254740992) := by show _ = _; rw [HD]; omega
            have ho : X / 9007199254740992 ≤ 1125899906842624 := by omega
            have hr : X % 9007199254740992 < 9007199254740992 := by omega
            obtain ⟨O, hO⟩ : ∃ O, X / 9007199254740992 = O := ⟨_, rfl⟩
            obtain ⟨R, hR⟩ : ∃ R, X % 9007199254740992 = R := ⟨_, rfl⟩
            rw [hO] at HO ho ⊢
            rw [hR] at HO HR hr ⊢
            clear e hbit HD hX hO hR
            go_wp2
            go_round
            case rel => exact ⟨j, by omega, by rw [HO.out], by rw [HR.out], rfl⟩
            case measure => simp [intOf]
/-- ref.Pick. -/
theorem rpick_any (b : Nat) (n : Int) (w : World) (hb : b < 18446744073709551616) (hi : n ≤ 1125899906842624) : Calls Try.prog 15 #[.int .u64 (b : Int), .int .i64 n] w fun e w' => e = .returned (.int .i64 (pickN b n)) ∧ w = w' := by
  by_cases h : n < 1
  · exact rpick_low b n w h
  · rcases cls_cases b with ⟨hc, -⟩ | ⟨hc, -⟩ | ⟨hc, -⟩ | ⟨hc, -⟩ | ⟨hc, -⟩ | ⟨hc, -⟩ | ⟨hc, -⟩
    · exact rpick_0 b n w hb (by omega) hi hc
    · exact rpick_1 b n w hb (by omega) hi hc
    · exact rpick_2 b n w hb (by omega) hi hc
    · exact rpick_3 b n w hb (by omega) hi hc
    · exact rpick_4 b n w hb (by omega) hi hc
    · by_cases hs : 1074 ≤ pl (rung b) + tz (mg (rung b))
      · exact rpick_high b n w hb (by omega) hi hc (pl (rung b) + tz (mg (rung b)) - 1074) (by omega)
      · obtain ⟨q, hq⟩ : ∃ q, pl (rung b) + tz (mg (rung b)) + q = 1074 := ⟨1074 - (pl (rung b) + tz (mg (rung b))), by omega⟩
        have hq0 : 0 < q := by omega
        by_cases hM : odd (mg (rung b)) < 2 ^ q
        · obtain ⟨m, rfl⟩ : ∃ m : Nat, n = m := ⟨n.toNat, by omega⟩
          by_cases hq1 : q < 64
          · exact rpick_part1 b m w hb (by omega) (by omega) hc q hq0 hq1 hq hM
          · exact rpick_part2 b m w hb (by omega) (by omega) hc q hq0 (by omega) hq hM
        · have hM2 := Nat.le_of_not_lt hM
          have hlt := odd_lt (mg_lt (rung b))
          have hq1 : q < 53 := (Nat.pow_lt_pow_iff_right (show 1 < 2 by omega)).1 (Nat.lt_of_le_of_lt hM2 (show _ < 2 ^ 53 by omega))
          exact rpick_one b n w hb (by omega) hi hc q hq0 (by omega) hq hM2
    · exact rpick_6 b n w hb (by omega) hi hc
end Go.Proofs.Ytagnlogakjajjaa
