/-
  Package real: Pick.
-/
import Derived.Test.YtagnlogakjajjaaDoorReal3
import Derived.Test.YtagnlogakjajjaaDoorMul64
namespace Go.Proofs.YtagnlogakjajjaaDoor
open Go.RowKit
set_option linter.unusedVariables false

/-- A rung's first 53 places behind the point. -/
def exps : Nat := 1021
def sc : Nat := 2 ^ exps
def frN (r : Nat) : Nat := val r / sc
/-- What Pick answers. -/
def pickN (b : Nat) (n : Int) : Int :=
  if n < 1 then -1 else if nanB b || ngB b || decide (rung b = 0) then 0 else if 4607182418800017408 ≤ rung b then n - 1 else ((frN (rung b) * n.toNat / 9007199254740992 : Nat) : Int)

theorem twice_pow (t : Nat) : 4503599627370496 * 2 ^ (t + 1) = 9007199254740992 * 2 ^ t := by
  rw [Nat.pow_succ]
  generalize 2 ^ t = x
  omega
theorem val_at (r t : Nat) (h1 : mg r = 4503599627370496) (h2 : pl r = t + 1) : val r = 9007199254740992 * 2 ^ t := by
  unfold val
  rw [h1, h2, twice_pow]
theorem val_one (r : Nat) (hr : r = 4607182418800017408) : val r = 9007199254740992 * sc := by
  have h1 : mg r = 4503599627370496 := by subst hr; decide
  have h2 : pl r = exps + 1 := by subst hr; decide
  rw [val_at r exps h1 h2, sc]
theorem sc_eq (t : Nat) : sc * 2 ^ t = 2 ^ (exps + t) := (Nat.pow_add 2 exps t).symm
theorem fr_lt {r : Nat} (h : r < 4607182418800017408) : frN r < 9007199254740992 := by
  unfold frN
  have := val_lt h
  rw [val_one _ rfl, Nat.mul_comm] at this
  exact Nat.div_lt_of_lt_mul this
theorem fr_le {r s : Nat} (h : r ≤ s) : frN r ≤ frN s := Nat.div_le_div_right (val_le h)

theorem eq_zero (b : Nat) : (FloatKind.f64.format.order b 0 == some .eq) = (!nanB b && decide (rung b = 0)) := by
  show (Ieee.double.order b 0 == some .eq) = _
  rw [ord_eq, sg_0, rung_0]
  unfold nanB sg
  by_cases h : 9218868437227405312 < rung b
  · simp [h, show ¬ rung b ≤ 9218868437227405312 by omega]
  · by_cases h2 : rung b = 0 <;> cases ngB b <;> simp [h, h2] <;> omega
theorem sg_one : sg 4607182418800017408 = 4607182418800017408 := by decide
theorem rung_one : rung 4607182418800017408 = 4607182418800017408 := by decide
theorem gt_one (b : Nat) (hg : ngB b = false) (hn : nanB b = false) : (FloatKind.f64.format.order b 4607182418800017408 == some .gt) = decide (4607182418800017408 < rung b) := by
  show (Ieee.double.order b 4607182418800017408 == some .gt) = _
  rw [ord_gt, sg_one, rung_one]
  unfold nanB at hn
  rw [decide_eq_false_iff_not] at hn
  unfold sg
  rw [hg]
  by_cases h2 : 4607182418800017408 < rung b <;> simp [h2] <;> omega
theorem eq_one (b : Nat) (hg : ngB b = false) (hn : nanB b = false) : (FloatKind.f64.format.order b 4607182418800017408 == some .eq) = decide (rung b = 4607182418800017408) := by
  show (Ieee.double.order b 4607182418800017408 == some .eq) = _
  rw [ord_eq, sg_one, rung_one]
  unfold nanB at hn
  rw [decide_eq_false_iff_not] at hn
  unfold sg
  rw [hg]
  by_cases h2 : rung b = 4607182418800017408 <;> simp [h2] <;> omega

theorem fr_nm (m p : Nat) (hp : p ≤ 1021) (hL : m.log2 ≤ 52) : nm m / 2 ^ (1073 - p - m.log2) = m * 2 ^ p / sc := by
  have e : 1073 - p - m.log2 + p = exps + (52 - m.log2) := by unfold exps; omega
  unfold nm
  generalize 52 - m.log2 = j at *
  generalize 1073 - p - m.log2 = k at *
  clear hp hL
  rw [← Nat.mul_div_mul_right (m * 2 ^ j) _ (Nat.two_pow_pos p), ← Nat.mul_div_mul_right (m * 2 ^ p) _ (Nat.two_pow_pos j), sc_eq, Nat.mul_assoc, Nat.mul_assoc, ← Nat.pow_add, ← Nat.pow_add, ← Nat.pow_add,
    Nat.add_comm p j, e]
theorem to_u64 (r k : Nat) (h : (Ieee.double.read r).toInt .zero = some ((k : Nat) : Int)) (hk : k < 9007199254740993) : floatToIntVal .f64 r .u64 = some ((k : Nat) : Int) := by
  unfold floatToIntVal
  have e : FloatKind.f64.decode r = Ieee.double.read r := rfl
  have hmin : IntKind.u64.min = 0 := rfl
  have hmax : IntKind.u64.max = 18446744073709551615 := rfl
  rw [e, h]
  show (if IntKind.u64.min ≤ (k : Int) ∧ (k : Int) ≤ IntKind.u64.max then some (k : Int) else none) = _
  rw [hmin, hmax, if_pos ⟨by omega, by omega⟩]

/-- A fraction's product by 2^53, as a whole number. -/
theorem fr_up (b : Nat) (hg : ngB b = false) (h0 : 0 < rung b) (h1 : rung b < 4607182418800017408) :
    ∃ r, floatBits .mul .f64 b 4845873199050653696 = some r ∧ floatToIntVal .f64 r .u64 = some ((frN (rung b) : Nat) : Int) := by
  have hp : pl (rung b) ≤ 1021 := by unfold pl; omega
  have hm := mg_lt (rung b)
  have hL := log2_le52 hm
  have hm0 := mg_pos h0
  have hnm := nm_lt hm
  obtain ⟨l, hl⟩ : ∃ l, pl (rung b) + (mg (rung b)).log2 + 1 = l := ⟨_, rfl⟩
  have hr := mul_up 4845873199050653696 1 b l read_p53 hg h0 (by omega) (by omega) (by omega)
  obtain ⟨e1, e2, e3, e4⟩ := up_parts l (mg (rung b)) hm0 hm (by omega)
  have hi := toInt_down (l * 4503599627370496 + nm (mg (rung b))) (1073 - pl (rung b) - (mg (rung b)).log2) e2 (by rw [e1]; omega) (by rw [e1, e4]; omega)
  rw [e1, e3, fr_nm _ _ hp hL] at hi
  exact ⟨_, hr, to_u64 _ (frN (rung b)) hi (Nat.lt_succ_of_lt (fr_lt h1))⟩

theorem shl_parts (P : Nat) (h : P < 9007199254740992 * 9223372036854775808) :
    bits .or .u64 (((P / 18446744073709551616 : Nat) : Int) * 2048) (((P % 18446744073709551616 : Nat) : Int) / 9007199254740992) = ((P / 9007199254740992 : Nat) : Int) := by
  have h1 := bits_or_u64_nat (P / 18446744073709551616 * 2048) (P % 18446744073709551616 / 9007199254740992) (by omega) (by omega)
  have e : P / 18446744073709551616 * 2048 ||| P % 18446744073709551616 / 9007199254740992 = P / 9007199254740992 := by
    have h2 : P % 18446744073709551616 / 9007199254740992 < 2 ^ 11 := by omega
    have := Nat.two_pow_add_eq_or_of_lt h2 (P / 18446744073709551616)
    rw [Nat.mul_comm, show (2048 : Nat) = 2 ^ 11 from rfl, ← this]
    omega
  rw [e] at h1
  rw [← h1]
  congr 1

/-! ### the program -/
theorem pick_low (b : Nat) (w : World) (hb : b < 18446744073709551616) (n : Int) (h : n < 1) : Calls Tryd.prog 13 #[.int .u64 (b : Int), .int .i64 n] w fun e w' => e = .returned (.int .i64 (pickN b n)) ∧ w = w' := by
  have HK : Hid (pickN b n = -1) := by show _ = _; simp [pickN, h]
  go_enter Tryd.func13, Tryd.ntmps13
  go_wp2_with fail
  go_ret
  exact ⟨by rw [HK.out]; rfl, rfl⟩
theorem pick_nan (b : Nat) (w : World) (hb : b < 18446744073709551616) (n : Int) (h : 1 ≤ n) (hn : nanB b = true) : Calls Tryd.prog 13 #[.int .u64 (b : Int), .int .i64 n] w fun e w' => e = .returned (.int .i64 (pickN b n)) ∧ w = w' := by
  have HK : Hid (pickN b n = 0) := by show _ = _; simp [pickN, hn]; omega
  have hn1 : ¬ n < 1 := by omega
  go_enter Tryd.func13, Tryd.ntmps13
  go_wp2_with fail
  refine (isnan_any b w).mono ?_
  rintro e' w1 ⟨rfl, rfl⟩
  go_wp2_with fail
  go_ret
  exact ⟨by rw [HK.out]; rfl, rfl⟩
theorem pick_neg (b : Nat) (w : World) (hb : b < 18446744073709551616) (n : Int) (h : 1 ≤ n) (hn : nanB b = false) (hz : rung b ≠ 0) (hg : ngB b = true) : Calls Tryd.prog 13 #[.int .u64 (b : Int), .int .i64 n] w fun e w' => e = .returned (.int .i64 (pickN b n)) ∧ w = w' := by
  have HK : Hid (pickN b n = 0) := by show _ = _; simp [pickN, hg]; omega
  have hn1 : ¬ n < 1 := by omega
  have f1 : (FloatKind.f64.format.order b 0 == some .lt) = true := by rw [below_zero]; simp [hn, hg, hz]
  clear hz
  go_enter Tryd.func13, Tryd.ntmps13
  go_wp2_with fail
  refine (isnan_any b w).mono ?_
  rintro e' w1 ⟨rfl, rfl⟩
  go_wp2_with fail
  go_ret
  exact ⟨by rw [HK.out]; rfl, rfl⟩
theorem pick_zero (b : Nat) (w : World) (hb : b < 18446744073709551616) (n : Int) (h : 1 ≤ n) (hn : nanB b = false) (hz : rung b = 0) : Calls Tryd.prog 13 #[.int .u64 (b : Int), .int .i64 n] w fun e w' => e = .returned (.int .i64 (pickN b n)) ∧ w = w' := by
  have HK : Hid (pickN b n = 0) := by show _ = _; simp [pickN, hz]; omega
  have hn1 : ¬ n < 1 := by omega
  have f1 : (FloatKind.f64.format.order b 0 == some .lt) = false := by rw [below_zero]; simp [hn, hz]
  have f2 : (FloatKind.f64.format.order b 0 == some .eq) = true := by rw [eq_zero]; simp [hn, hz]
  clear hz
  go_enter Tryd.func13, Tryd.ntmps13
  go_wp2_with fail
  refine (isnan_any b w).mono ?_
  rintro e' w1 ⟨rfl, rfl⟩
  go_wp2_with fail
  go_ret
  exact ⟨by rw [HK.out]; rfl, rfl⟩
theorem pick_one (b : Nat) (w : World) (hb : b < 18446744073709551616) (n : Int) (h : 1 ≤ n) (hi : n ≤ 9223372036854775807) (hn : nanB b = false) (hz : rung b ≠ 0) (hg : ngB b = false) (h1 : rung b = 4607182418800017408) : Calls Tryd.prog 13 #[.int .u64 (b : Int), .int .i64 n] w fun e w' => e = .returned (.int .i64 (pickN b n)) ∧ w = w' := by
  have HK : Hid (pickN b n = n - 1) := by show _ = _; simp [pickN, hn, hg, h1]; omega
  have hn1 : ¬ n < 1 := by omega
  have f1 : (FloatKind.f64.format.order b 0 == some .lt) = false := by rw [below_zero]; simp [hn, hg, hz]
  have f2 : (FloatKind.f64.format.order b 0 == some .eq) = false := by rw [eq_zero]; simp [hn, hz]
  have f3 : (FloatKind.f64.format.order b 4607182418800017408 == some .gt) = false := by rw [gt_one b hg hn]; simp [h1]
  have f4 : (FloatKind.f64.format.order b 4607182418800017408 == some .eq) = true := by rw [eq_one b hg hn]; simp [h1]
  clear hz h1
  go_enter Tryd.func13, Tryd.ntmps13
  go_wp2_with fail
  refine (isnan_any b w).mono ?_
  rintro e' w1 ⟨rfl, rfl⟩
  go_wp2_with fail
  go_ret
  exact ⟨by rw [HK.out]; rfl, rfl⟩
theorem pick_more (b : Nat) (w : World) (hb : b < 18446744073709551616) (n : Int) (h : 1 ≤ n) (hi : n ≤ 9223372036854775807) (hn : nanB b = false) (hz : rung b ≠ 0) (hg : ngB b = false) (h1 : 4607182418800017408 < rung b) : Calls Tryd.prog 13 #[.int .u64 (b : Int), .int .i64 n] w fun e w' => e = .returned (.int .i64 (pickN b n)) ∧ w = w' := by
  have HK : Hid (pickN b n = n - 1) := by show _ = _; simp [pickN, hn, hg, hz, Nat.le_of_lt h1]; omega
  have hn1 : ¬ n < 1 := by omega
  have f1 : (FloatKind.f64.format.order b 0 == some .lt) = false := by rw [below_zero]; simp [hn, hg, hz]
  have f2 : (FloatKind.f64.format.order b 0 == some .eq) = false := by rw [eq_zero]; simp [hn, hz]
  have f3 : (FloatKind.f64.format.order b 4607182418800017408 == some .gt) = true := by rw [gt_one b hg hn]; simp [h1]
  clear hz h1
  go_enter Tryd.func13, Tryd.ntmps13
  go_wp2_with fail
  refine (isnan_any b w).mono ?_
  rintro e' w1 ⟨rfl, rfl⟩
  go_wp2_with fail
  go_ret
  exact ⟨by rw [HK.out]; rfl, rfl⟩
set_option maxHeartbeats 400000 in
theorem pick_part (b : Nat) (w : World) (hb : b < 18446744073709551616) (n : Nat) (h : 1 ≤ n) (hi : n ≤ 9223372036854775807) (hn : nanB b = false) (hz : rung b ≠ 0) (hg : ngB b = false) (h1 : rung b < 4607182418800017408) : Calls Tryd.prog 13 #[.int .u64 (b : Int), .int .i64 (n : Int)] w fun e w' => e = .returned (.int .i64 (pickN b n)) ∧ w = w' := by
  have HK : Hid (pickN b n = ((frN (rung b) * n / 9007199254740992 : Nat) : Int)) := by show _ = _; simp [pickN, hn, hg, hz, show ¬ (4607182418800017408 ≤ rung b) by omega]; omega
  have hn1 : ¬ (n : Int) < 1 := by omega
  have f1 : (FloatKind.f64.format.order b 0 == some .lt) = false := by rw [below_zero]; simp [hn, hg, hz]
  have f2 : (FloatKind.f64.format.order b 0 == some .eq) = false := by rw [eq_zero]; simp [hn, hz]
  have f3 : (FloatKind.f64.format.order b 4607182418800017408 == some .gt) = false := by rw [gt_one b hg hn]; simp; omega
  have f4 : (FloatKind.f64.format.order b 4607182418800017408 == some .eq) = false := by rw [eq_one b hg hn]; simp; omega
  obtain ⟨r, hr1, hr2⟩ := fr_up b hg (by omega) h1
  have hq := fr_lt h1
  obtain ⟨q, hq'⟩ : ∃ q, frN (rung b) = q := ⟨_, rfl⟩
  rw [hq'] at hr2 hq HK
  have hP : q * n ≤ 9007199254740991 * 9223372036854775807 := Nat.mul_le_mul (by omega) hi
  have hS := shl_parts (q * n) (by omega)
  have hm1 := run_float_arith (P := Tryd.prog) w .mul 28 .f64 b 4845873199050653696 r hr1
  have hm2 := run_convert_float_int (P := Tryd.prog) w 28 22 .f64 .u64 r q (by kernel_rfl) Tryd.underlying22 hr2
  have hlt : q * n / 9007199254740992 < 9223372036854775808 := by omega
  have hW : Hid (wrap64 ((q * n / 9007199254740992 : Nat) : Int) = ((q * n / 9007199254740992 : Nat) : Int)) := by show _ = _; unfold wrap64; omega
  have HX : Hid (pickN b n = wrap64 (bits .or .u64 (((q * n / 18446744073709551616 : Nat) : Int) * 2048) (((q * n % 18446744073709551616 : Nat) : Int) / 9007199254740992))) := by show _ = _; rw [hS, hW.out, HK.out]
  clear hS hW HK hr1 hr2 hq' hz
  clear hlt
  go_enter Tryd.func13, Tryd.ntmps13
  go_wp2_with fail
  refine (isnan_any b w).mono ?_
  rintro e' w1 ⟨rfl, rfl⟩
  go_wp2_with fail
  refine (mul64_any q n (by omega) (by omega) w).mono ?_
  rintro e' w1 ⟨rfl, rfl⟩
  obtain ⟨H, hH⟩ : ∃ H, q * n / 18446744073709551616 = H := ⟨_, rfl⟩
  obtain ⟨L, hL⟩ : ∃ L, q * n % 18446744073709551616 = L := ⟨_, rfl⟩
  rw [hH, hL] at HX ⊢
  have hH2 : H < 9007199254740992 := by omega
  have hL2 : L < 18446744073709551616 := by omega
  clear hH hL hP
  go_wp2_with fail
  go_ret
  refine ⟨?_, rfl⟩
  rw [HX.out]
  rfl
/-- real.Pick. -/
theorem pick_any (b : Nat) (w : World) (hb : b < 18446744073709551616) (n : Int) (hi : n ≤ 9223372036854775807) : Calls Tryd.prog 13 #[.int .u64 (b : Int), .int .i64 n] w fun e w' => e = .returned (.int .i64 (pickN b n)) ∧ w = w' := by
  by_cases h : n < 1
  · exact pick_low b w hb n h
  · cases hn : nanB b
    · by_cases hz : rung b = 0
      · exact pick_zero b w hb n (by omega) hn hz
      · cases hg : ngB b
        · rcases Nat.lt_trichotomy (rung b) 4607182418800017408 with h1 | h1 | h1
          · obtain ⟨m, rfl⟩ : ∃ m : Nat, n = m := ⟨n.toNat, by omega⟩
            exact pick_part b w hb m (by omega) (by omega) hn hz hg h1
          · exact pick_one b w hb n (by omega) hi hn hz hg h1
          · exact pick_more b w hb n (by omega) hi hn hz hg h1
        · exact pick_neg b w hb n (by omega) hn hz hg
    · exact pick_nan b w hb n (by omega) hn
end Go.Proofs.YtagnlogakjajjaaDoor
