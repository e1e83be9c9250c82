/-
  math.Frexp of a number above zero; math/bits.TrailingZeros64. Package real: Parts.
-/
import Derived.Test.YtolpggmcjengcaaDoorReal4
import Derived.Test.YtolpggmcjengcaaDoorRealQ
import Derived.Test.YtolpggmcjengcaaDoorReal5
namespace Go.Proofs.YtolpggmcjengcaaDoor
open Go.RowKit
set_option linter.unusedVariables false

theorem andNot_nat (a c : Nat) (ha : a < 18446744073709551616) (hc : c < 18446744073709551616) :
    bits .andNot .u64 (a : Int) (c : Int) = ((a &&& (18446744073709551615 - c) : Nat) : Int) := by
  have hx : a &&& (18446744073709551615 - c) < 2 ^ 64 := Nat.and_lt_two_pow _ (by omega)
  have h1 : (BitVec.ofInt 64 (a : Int)).toNat = a := by
    rw [BitVec.ofInt_natCast, BitVec.toNat_ofNat]; exact Nat.mod_eq_of_lt (by omega)
  have h2 : (BitVec.ofInt 64 (c : Int)).toNat = c := by
    rw [BitVec.ofInt_natCast, BitVec.toNat_ofNat]; exact Nat.mod_eq_of_lt (by omega)
  have h3 : (~~~BitVec.ofInt 64 (c : Int)).toNat = 18446744073709551615 - c := by
    rw [BitVec.toNat_not, h2]
  show IntKind.u64.wrap ((BitVec.ofInt 64 (a : Int) &&& ~~~BitVec.ofInt 64 (c : Int)).toNat : Int) = _
  rw [BitVec.toNat_and, h1, h3, IntKind.wrap_u64]
  omega
theorem no_sign (a : Nat) (ha : a < 9223372036854775808) : bits .andNot .u64 (a : Int) 9223372036854775808 = (a : Int) := by
  have h := andNot_nat a 9223372036854775808 (by omega) (by omega)
  have e : a &&& 9223372036854775807 = a % 9223372036854775808 := Nat.and_two_pow_sub_one_eq_mod a 63
  rw [show 18446744073709551615 - 9223372036854775808 = 9223372036854775807 from rfl, e, Nat.mod_eq_of_lt ha] at h
  exact h
theorem no_power (a : Nat) (ha : a < 9223372036854775808) : bits .andNot .u64 (a : Int) 9218868437227405312 = ((a % 4503599627370496 : Nat) : Int) := by
  have h := andNot_nat a 9218868437227405312 (by omega) (by omega)
  have e : a &&& 9227875636482146303 = a % 4503599627370496 := by
    have e1 : (9227875636482146303 : Nat) = 9223372036854775808 ||| 4503599627370495 := by decide
    have e2 : a &&& 4503599627370495 = a % 4503599627370496 := Nat.and_two_pow_sub_one_eq_mod a 52
    have e3 : a &&& 9223372036854775808 = 0 := by
      apply Nat.eq_of_testBit_eq
      intro i
      rw [Nat.testBit_and, show (9223372036854775808 : Nat) = 2 ^ 63 from rfl, Nat.testBit_two_pow]
      by_cases h : 63 = i
      · subst h
        rw [Nat.testBit_lt_two_pow (show a < 2 ^ 63 from ha)]
        simp
      · simp [h]
    rw [e1, Nat.and_or_distrib_left, e2, e3, Nat.zero_or]
  rw [show 18446744073709551615 - 9218868437227405312 = 9227875636482146303 from rfl, e] at h
  exact h
theorem or_half (f : Nat) (hf : f < 4503599627370496) : bits .or .u64 (f : Int) 4602678819172646912 = ((4602678819172646912 + f : Nat) : Int) := by
  have h := bits_or_u64_nat f 4602678819172646912 (by omega) (by omega)
  have e : f ||| 4602678819172646912 = 4602678819172646912 + f := by
    have := Nat.two_pow_add_eq_or_of_lt (i := 52) hf 1022
    rw [Nat.or_comm]
    exact this.symm
  rw [e] at h
  exact h
theorem and_power (e : Nat) (he : e < 2048) : bits .and .u64 (e : Int) 2047 = (e : Int) := by
  have h := bits_and_u64_nat e 2047 (by omega) (by omega)
  have : e &&& 2047 = e % 2048 := Nat.and_two_pow_sub_one_eq_mod e 11
  rw [this, Nat.mod_eq_of_lt he] at h
  exact h

theorem rung_low {b : Nat} (h : b < 9223372036854775808) : rung b = b := by unfold rung; omega
theorem sg_low {b : Nat} (h : b < 9223372036854775808) : sg b = (b : Int) := by
  unfold sg
  rw [ng_iff (by omega), decide_eq_false (by omega), rung_low h]
  rfl
theorem ng_low {b : Nat} (h : b < 9223372036854775808) : ngB b = false := by rw [ng_iff (by omega), decide_eq_false (by omega)]
theorem lt_low {a b : Nat} (ha : a < 9218868437227405312) (hb : b < 9218868437227405312) : (FloatKind.f64.format.order a b == some .lt) = decide (a < b) := by
  show (Ieee.double.order a b == some .lt) = _
  rw [ord_lt, rung_low (show a < 9223372036854775808 by omega), rung_low (show b < 9223372036854775808 by omega), sg_low (show a < 9223372036854775808 by omega), sg_low (show b < 9223372036854775808 by omega)]
  exact decide_eq_decide.2 (by omega)
theorem gt_low {a b : Nat} (ha : a < 9218868437227405312) (hb : b < 9218868437227405312) : (FloatKind.f64.format.order a b == some .gt) = decide (b < a) := by
  show (Ieee.double.order a b == some .gt) = _
  rw [ord_gt, rung_low (show a < 9223372036854775808 by omega), rung_low (show b < 9223372036854775808 by omega), sg_low (show a < 9223372036854775808 by omega), sg_low (show b < 9223372036854775808 by omega)]
  exact decide_eq_decide.2 (by omega)
theorem eq_low {a b : Nat} (ha : a < 9218868437227405312) (hb : b < 9218868437227405312) : (FloatKind.f64.format.order a b == some .eq) = decide (a = b) := by
  show (Ieee.double.order a b == some .eq) = _
  rw [ord_eq, rung_low (show a < 9223372036854775808 by omega), rung_low (show b < 9223372036854775808 by omega), sg_low (show a < 9223372036854775808 by omega), sg_low (show b < 9223372036854775808 by omega)]
  exact decide_eq_decide.2 (by omega)

/-! ### math -/
theorem abs_low (b : Nat) (w : World) (hb : b < 9223372036854775808) : Calls Tryd.prog 62 #[.float .f64 b] w fun e w' => e = .returned (.float .f64 b) ∧ w = w' := by
  have hX := no_sign b hb
  go_enter Tryd.func62, Tryd.ntmps62
  go_wp2
  all_goals (go_ret; exact ⟨rfl, rfl⟩)
theorem isinf_any (b : Nat) (w : World) (hb : b < 9218868437227405312) : Calls Tryd.prog 58 #[.float .f64 b, .int .i64 0] w fun e w' => e = .returned (.bool false) ∧ w = w' := by
  have hX : (FloatKind.f64.format.order b 9218868437227405311 == some .gt) = false := by rw [gt_low hb (by omega)]; simp; omega
  go_enter Tryd.func58, Tryd.ntmps58
  go_wp2_with fail
  refine (abs_low b w (by omega)).mono ?_
  rintro e' w1 ⟨rfl, rfl⟩
  go_wp2_with fail
  go_ret
  exact ⟨rfl, rfl⟩

/-- math.normalize. -/
theorem norm_high (b : Nat) (w : World) (hb : b < 9218868437227405312) (h : 4503599627370496 ≤ b) : Calls Tryd.prog 64 #[.float .f64 b] w fun e w' => e = .returned (.tuple #[.float .f64 b, .int .i64 0]) ∧ w = w' := by
  have hX : (FloatKind.f64.format.order b 4503599627370496 == some .lt) = false := by rw [lt_low hb (by omega)]; simp; omega
  go_enter Tryd.func64, Tryd.ntmps64
  go_wp2_with fail
  refine (abs_low b w (by omega)).mono ?_
  rintro e' w1 ⟨rfl, rfl⟩
  go_wp2_with fail
  go_ret2
  exact ⟨rfl, rfl⟩
theorem norm_low (b r : Nat) (w : World) (h : b < 4503599627370496) (hr : floatBits .mul .f64 b 4841369599423283200 = some r) : Calls Tryd.prog 64 #[.float .f64 b] w fun e w' => e = .returned (.tuple #[.float .f64 r, .int .i64 (-52)]) ∧ w = w' := by
  have hX : (FloatKind.f64.format.order b 4503599627370496 == some .lt) = true := by rw [lt_low (by omega) (by omega)]; simp; omega
  have hm1 := run_float_arith (P := Tryd.prog) w .mul 82 .f64 b 4841369599423283200 r hr
  clear hr
  go_enter Tryd.func64, Tryd.ntmps64
  go_wp2_with fail
  refine (abs_low b w (by omega)).mono ?_
  rintro e' w1 ⟨rfl, rfl⟩
  go_wp2_with fail
  go_ret2
  exact ⟨rfl, rfl⟩

/-- What math.frexp does behind normalize: with the word r of power E and x as the power so far. -/
theorem frexp_of (b r E f : Nat) (x : Int) (w : World) (hb : b < 9218868437227405312) (h0 : 0 < b) (hE : Hid (r = E * 4503599627370496 + f)) (hE2 : E < 2047) (hf : f < 4503599627370496) (hx : -100 ≤ x) (hx2 : x ≤ 0)
    (hN : ∀ w, Calls Tryd.prog 64 #[.float .f64 b] w fun e w' => e = .returned (.tuple #[.float .f64 r, .int .i64 x]) ∧ w = w') :
    Calls Tryd.prog 61 #[.float .f64 b] w fun e w' => e = .returned (.tuple #[.float .f64 (4602678819172646912 + f), .int .i64 (x + E - 1022)]) ∧ w = w' := by
  have hX : (FloatKind.f64.format.order b 0 == some .eq) = false := by rw [eq_low hb (by omega)]; simp; omega
  have hnan : nanB b = false := by unfold nanB; rw [rung_low (by omega), decide_eq_false (by omega)]
  have HN := Lib.hid hN
  have HNN := Lib.hid hnan
  have hr1 : r < 9223372036854775808 := by rw [hE.out]; omega
  have hq : (r : Int) / 4503599627370496 = (E : Int) := by rw [hE.out]; omega
  have hp1 := and_power E (by omega)
  have hp2 : bits .andNot .u64 (r : Int) 9218868437227405312 = (f : Int) := by rw [no_power r hr1, hE.out]; omega
  have hp3 := or_half f hf
  have hcall : (callFunc 55 #[.int .u64 (4602678819172646912 + (f : Int))]).run Tryd.prog w = .ok (.value (.float .f64 (4602678819172646912 + f))) w := by
    have := call_from (4602678819172646912 + f) w
    rwa [Int.natCast_add] at this
  clear hN hnan hE
  go_enter Tryd.func61, Tryd.ntmps61
  go_wp2_with fail
  refine (isinf_any b w hb).mono ?_
  rintro e' w1 ⟨rfl, rfl⟩
  go_wp2_with fail
  refine (isnan_any b w).mono ?_
  rintro e' w1 ⟨rfl, rfl⟩
  rw [HNN.out]
  go_wp2_with fail
  refine (HN.out w).mono ?_
  rintro e' w1 ⟨rfl, rfl⟩
  go_wp2_with fail
  go_ret2
  refine ⟨?_, rfl⟩
  rw [show x + (E : Int) - 1022 = x + ((E : Int) - 1023 + 1) by omega]
  rfl

/-- A rung's significand without its first digit, and its power. -/
def lowN (r : Nat) : Nat := nm (mg r) - 4503599627370496
def powI (r : Nat) : Int := (pl r : Int) + ((mg r).log2 : Int) - 1073

theorem nm_full {m : Nat} (h : 4503599627370496 ≤ m) (h2 : m < 9007199254740992) : m.log2 = 52 ∧ nm m = m := by
  have h1 : m.log2 = 52 := by
    have a := log2_le52 h2
    have b := (Nat.le_log2 (show m ≠ 0 by omega)).2 (show 2 ^ 52 ≤ m by omega)
    omega
  refine ⟨h1, ?_⟩
  unfold nm
  rw [h1, Nat.sub_self, Nat.pow_zero, Nat.mul_one]

theorem frexp_any (b : Nat) (w : World) (h0 : 0 < b) (hb : b < 9218868437227405312) : Calls Tryd.prog 54 #[.float .f64 b] w fun e w' =>
    e = .returned (.tuple #[.float .f64 (4602678819172646912 + lowN b), .int .i64 (powI b)]) ∧ w = w' := by
  have hr := rung_low (show b < 9223372036854775808 by omega)
  have hF : ∀ w, Calls Tryd.prog 61 #[.float .f64 b] w fun e w' => e = .returned (.tuple #[.float .f64 (4602678819172646912 + lowN b), .int .i64 (powI b)]) ∧ w = w' := by
    intro w
    by_cases h : 4503599627370496 ≤ b
    · have hm : mg b = 4503599627370496 + b % 4503599627370496 := by unfold mg; rw [if_neg (by omega)]
      obtain ⟨h1, h2⟩ := nm_full (show 4503599627370496 ≤ mg b by omega) (mg_lt b)
      have e1 : lowN b = b % 4503599627370496 := by unfold lowN; rw [h2]; omega
      have e2 : powI b = 0 + ((b / 4503599627370496 : Nat) : Int) - 1022 := by unfold powI pl; rw [h1]; omega
      rw [e1, e2]
      exact frexp_of b b (b / 4503599627370496) (b % 4503599627370496) 0 w hb h0 (Lib.hid (show b = _ by omega)) (by omega) (by omega) (by omega) (by omega) (fun w => norm_high b w hb h)
    · have hm : mg b = b := by unfold mg; rw [if_pos (by omega)]
      have hp : pl b = 0 := by unfold pl; omega
      have hL := log2_le52 (mg_lt b)
      have n1 := nm_ge (mg_pos h0) (mg_lt b)
      have n2 := nm_lt (mg_lt b)
      have hu := mul_up 4841369599423283200 0 b ((mg b).log2) read_p52 (ng_low (by omega)) (by omega) (by omega) (by rw [hr, hp]; omega) (by omega)
      rw [hr] at hu
      have e2 : powI b = -52 + (((mg b).log2 + 1 : Nat) : Int) - 1022 := by unfold powI; rw [hp]; omega
      rw [e2]
      exact frexp_of b _ ((mg b).log2 + 1) (lowN b) (-52) w hb h0 (Lib.hid (show (mg b).log2 * 4503599627370496 + nm (mg b) = _ by unfold lowN; omega)) (by omega) (by unfold lowN; omega) (by omega) (by omega) (fun w => norm_low b _ w (by omega) hu)
  have HF := Lib.hid hF
  clear hF
  go_enter Tryd.func54, Tryd.ntmps54
  go_wp2_with fail
  refine (HF.out w).mono ?_
  rintro e' w1 ⟨rfl, rfl⟩
  go_wp2_with fail
  go_ret2
  exact ⟨rfl, rfl⟩

/-! ### math/bits.TrailingZeros64 -/
/-- The table in its variable. -/
def Dbj (w : World) : Prop := ∀ i, i < 64 → w.cell? ⟨1, i, none⟩ = some (.int .u8 ((Lib.deBruijn64tab.getD i 0 : Nat) : Int))
theorem ctz_core (x k idx : Nat) (w : World) (hx0 : ((x : Int) == 0) = false)
    (key : IntKind.u64.wrap (bits BinOp.and IntKind.u64 (x : Int) (IntKind.u64.wrap (-(x : Int))) * 285870213051353865) / 288230376151711744 = (idx : Int))
    (hi : idx < 64) (hk : k < 64) (hcell : w.cell? ⟨1, idx, none⟩ = some (.int .u8 (k : Int))) :
    Calls Tryd.prog 56 #[.int .u64 (x : Int)] w fun e w' => e = .returned (.int .i64 (k : Int)) ∧ w = w' := by
  go_enter Tryd.func56, Tryd.ntmps56
  go_wp2_with (simp only [key])
  go_ret
  exact ⟨rfl, rfl⟩
theorem ctz_key (x a : Nat) (hx : x < 18446744073709551616) (hx0 : x ≠ 0) (hlow : x &&& (18446744073709551616 - x) = a) :
    IntKind.u64.wrap (bits BinOp.and IntKind.u64 (x : Int) (IntKind.u64.wrap (-(x : Int))) * 285870213051353865) / 288230376151711744 = ((a * 285870213051353865 % 18446744073709551616 / 288230376151711744 : Nat) : Int) := by
  have e1 : IntKind.u64.wrap (-(x : Int)) = ((18446744073709551616 - x : Nat) : Int) := by rw [IntKind.wrap_u64]; omega
  rw [e1, bits_and_u64_nat x _ hx (by omega), hlow, IntKind.wrap_u64]
  omega
theorem ctz_any (x : Nat) (w : World) (hx0 : x ≠ 0) (hx : x < 18446744073709551616) (hT : Dbj w) :
    Calls Tryd.prog 56 #[.int .u64 (x : Int)] w fun e w' => e = .returned (.int .i64 (tz x : Int)) ∧ w = w' := by
  obtain ⟨hlow, hk⟩ := Lib.lowest_bit 64 x hx0 hx
  obtain ⟨hi, htab⟩ := Lib.deBruijn64_at _ hk
  have hcell := hT _ hi
  rw [htab] at hcell
  exact ctz_core x (Lib.ctz 64 x) _ w (by rw [beq_eq_false_iff_ne]; omega) (ctz_key x _ hx hx0 hlow) hi hk hcell

/-! ### shifted magnitudes -/
theorem two_odd (a b k l : Nat) (h : 2 ^ a * (2 * k + 1) = 2 ^ b * (2 * l + 1)) : a = b := by
  have key : ∀ a b k l : Nat, a < b → 2 ^ a * (2 * k + 1) ≠ 2 ^ b * (2 * l + 1) := fun a b k l hab h => by
    obtain ⟨d, rfl⟩ : ∃ d, b = a + (d + 1) := ⟨b - a - 1, by omega⟩
    rw [Nat.pow_add, Nat.mul_assoc] at h
    have h2 := Nat.eq_of_mul_eq_mul_left (Nat.two_pow_pos a) h
    rw [Nat.pow_succ', Nat.mul_assoc] at h2
    omega
  rcases Nat.lt_trichotomy a b with h1 | h1 | h1
  · exact absurd h (key a b k l h1)
  · exact h1
  · exact absurd h.symm (key b a l k h1)
theorem tz_shift {m j : Nat} (h0 : 0 < m) (h : m < 9007199254740992) (h2 : m * 2 ^ j < 9007199254740992) : tz (m * 2 ^ j) = tz m + j ∧ m * 2 ^ j / 2 ^ (tz m + j) = odd m := by
  obtain ⟨k, hk, hm, -⟩ := odd_spec h0 h
  obtain ⟨l, hl, hm2, -⟩ := odd_spec (Nat.mul_pos h0 (Nat.two_pow_pos j)) h2
  have e : m * 2 ^ j = 2 ^ (tz m + j) * odd m := by
    rw [Nat.pow_add, Nat.mul_right_comm, ← hm]
  refine ⟨?_, ?_⟩
  · rw [hl] at hm2
    rw [hk] at e
    exact two_odd _ _ l k (hm2.symm.trans e)
  · rw [e, Nat.mul_div_cancel_left _ (Nat.two_pow_pos _)]
end Go.Proofs.YtolpggmcjengcaaDoor

namespace Go.Proofs.YtolpggmcjengcaaDoor
open Go.RowKit
set_option linter.unusedVariables false

theorem parts_0 (b : Nat) (w : World) (hb : b < 18446744073709551616) (hc : cls b = 0) : Calls Tryd.prog 46 #[.int .u64 (b : Int)] w fun e w' => e = .returned (.tuple #[.int .u64 (partsM b : Int), .int .i64 (partsE b), .bool (partsI b)]) ∧ w = w' := by
  have HM : Hid (partsM b = 0) := by show _ = _; simp [partsM, hc]
  have HE : Hid (partsE b = 0) := by show _ = _; simp [partsE, hc]
  have HI : Hid (partsI b = false) := by show _ = _; simp [partsI, hc]
  have HC := Lib.hid hc
  clear hc
  go_enter Tryd.func46, Tryd.ntmps46
  go_wp2_with fail
  refine (class_any b w hb).mono ?_
  rintro e' w1 ⟨rfl, rfl⟩
  rw [HC.out]
  go_wp2_with fail
  go_ret3
  exact ⟨by rw [HM.out, HE.out, HI.out]; rfl, rfl⟩
theorem parts_1 (b : Nat) (w : World) (hb : b < 18446744073709551616) (hc : cls b = 1) : Calls Tryd.prog 46 #[.int .u64 (b : Int)] w fun e w' => e = .returned (.tuple #[.int .u64 (partsM b : Int), .int .i64 (partsE b), .bool (partsI b)]) ∧ w = w' := by
  have HM : Hid (partsM b = 0) := by show _ = _; simp [partsM, hc]
  have HE : Hid (partsE b = 0) := by show _ = _; simp [partsE, hc]
  have HI : Hid (partsI b = false) := by show _ = _; simp [partsI, hc]
  have HC := Lib.hid hc
  clear hc
  go_enter Tryd.func46, Tryd.ntmps46
  go_wp2_with fail
  refine (class_any b w hb).mono ?_
  rintro e' w1 ⟨rfl, rfl⟩
  rw [HC.out]
  go_wp2_with fail
  go_ret3
  exact ⟨by rw [HM.out, HE.out, HI.out]; rfl, rfl⟩
theorem parts_2 (b : Nat) (w : World) (hb : b < 18446744073709551616) (hc : cls b = 2) : Calls Tryd.prog 46 #[.int .u64 (b : Int)] w fun e w' => e = .returned (.tuple #[.int .u64 (partsM b : Int), .int .i64 (partsE b), .bool (partsI b)]) ∧ w = w' := by
  have HM : Hid (partsM b = 0) := by show _ = _; simp [partsM, hc]
  have HE : Hid (partsE b = 0) := by show _ = _; simp [partsE, hc]
  have HI : Hid (partsI b = false) := by show _ = _; simp [partsI, hc]
  have HC := Lib.hid hc
  clear hc
  go_enter Tryd.func46, Tryd.ntmps46
  go_wp2_with fail
  refine (class_any b w hb).mono ?_
  rintro e' w1 ⟨rfl, rfl⟩
  rw [HC.out]
  go_wp2_with fail
  go_ret3
  exact ⟨by rw [HM.out, HE.out, HI.out]; rfl, rfl⟩
theorem parts_3 (b : Nat) (w : World) (hb : b < 18446744073709551616) (hc : cls b = 3) : Calls Tryd.prog 46 #[.int .u64 (b : Int)] w fun e w' => e = .returned (.tuple #[.int .u64 (partsM b : Int), .int .i64 (partsE b), .bool (partsI b)]) ∧ w = w' := by
  have HM : Hid (partsM b = 0) := by show _ = _; simp [partsM, hc]
  have HE : Hid (partsE b = 0) := by show _ = _; simp [partsE, hc]
  have HI : Hid (partsI b = true) := by show _ = _; simp [partsI, hc]
  have HC := Lib.hid hc
  clear hc
  go_enter Tryd.func46, Tryd.ntmps46
  go_wp2_with fail
  refine (class_any b w hb).mono ?_
  rintro e' w1 ⟨rfl, rfl⟩
  rw [HC.out]
  go_wp2_with fail
  go_ret3
  exact ⟨by rw [HM.out, HE.out, HI.out]; rfl, rfl⟩
theorem parts_4 (b : Nat) (w : World) (hb : b < 18446744073709551616) (hc : cls b = 4) : Calls Tryd.prog 46 #[.int .u64 (b : Int)] w fun e w' => e = .returned (.tuple #[.int .u64 (partsM b : Int), .int .i64 (partsE b), .bool (partsI b)]) ∧ w = w' := by
  have HM : Hid (partsM b = 0) := by show _ = _; simp [partsM, hc]
  have HE : Hid (partsE b = 0) := by show _ = _; simp [partsE, hc]
  have HI : Hid (partsI b = true) := by show _ = _; simp [partsI, hc]
  have HC := Lib.hid hc
  clear hc
  go_enter Tryd.func46, Tryd.ntmps46
  go_wp2_with fail
  refine (class_any b w hb).mono ?_
  rintro e' w1 ⟨rfl, rfl⟩
  rw [HC.out]
  go_wp2_with fail
  go_ret3
  exact ⟨by rw [HM.out, HE.out, HI.out]; rfl, rfl⟩
theorem parts_6 (b : Nat) (w : World) (hb : b < 18446744073709551616) (hc : cls b = 6) : Calls Tryd.prog 46 #[.int .u64 (b : Int)] w fun e w' => e = .returned (.tuple #[.int .u64 (partsM b : Int), .int .i64 (partsE b), .bool (partsI b)]) ∧ w = w' := by
  have HM : Hid (partsM b = 0) := by show _ = _; simp [partsM, hc]
  have HE : Hid (partsE b = 0) := by show _ = _; simp [partsE, hc]
  have HI : Hid (partsI b = false) := by show _ = _; simp [partsI, hc]
  have HC := Lib.hid hc
  clear hc
  go_enter Tryd.func46, Tryd.ntmps46
  go_wp2_with fail
  refine (class_any b w hb).mono ?_
  rintro e' w1 ⟨rfl, rfl⟩
  rw [HC.out]
  go_wp2_with fail
  go_ret3
  exact ⟨by rw [HM.out, HE.out, HI.out]; rfl, rfl⟩
theorem cast_shr (x z : Nat) : ((x / 2 ^ z : Nat) : Int) = (x : Int) / 2 ^ z := by norm_cast
theorem half_fr (b : Nat) (h0 : 0 < b) (hb : b < 9218868437227405312) : 0 < 4602678819172646912 + lowN b ∧ 4602678819172646912 + lowN b < 4607182418800017408 ∧ frN (4602678819172646912 + lowN b) = nm (mg b) := by
  have n1 := nm_ge (mg_pos h0) (mg_lt b)
  have n2 := nm_lt (mg_lt b)
  have e : 4602678819172646912 + lowN b = 4602678819172646912 + (nm (mg b) - 4503599627370496) := rfl
  rw [e]
  generalize nm (mg b) = N at *
  refine ⟨by omega, by omega, ?_⟩
  have e1 : mg (4602678819172646912 + (N - 4503599627370496)) = N := by unfold mg; rw [if_neg (by omega)]; omega
  have e2 : pl (4602678819172646912 + (N - 4503599627370496)) = exps := by unfold pl exps; omega
  unfold frN val sc
  rw [e1, e2, Nat.mul_div_cancel _ (Nat.two_pow_pos exps)]

set_option maxHeartbeats 400000 in
theorem parts_5 (b : Nat) (w : World) (hb : b < 18446744073709551616) (hc : cls b = 5) (hT : Dbj w) : Calls Tryd.prog 46 #[.int .u64 (b : Int)] w fun e w' => e = .returned (.tuple #[.int .u64 (partsM b : Int), .int .i64 (partsE b), .bool (partsI b)]) ∧ w = w' := by
  obtain ⟨h0, hb1, hr⟩ := cls5 hb hc
  obtain ⟨f0, f1, f2⟩ := half_fr b h0 hb1
  have fr := rung_low (show 4602678819172646912 + lowN b < 9223372036854775808 by omega)
  obtain ⟨r, hr1, hr2⟩ := fr_up (4602678819172646912 + lowN b) (ng_low (by omega)) (by omega) (by omega)
  rw [fr, f2] at hr2
  have m0 := mg_pos h0
  have m1 := mg_lt b
  have n1 := nm_ge m0 m1
  have n2 := nm_lt m1
  have hL := log2_le52 m1
  obtain ⟨t1, t2⟩ := tz_shift (j := 52 - (mg b).log2) m0 m1 n2
  have t3 : tz (nm (mg b)) = tz (mg b) + (52 - (mg b).log2) := t1
  rw [← t1] at t2
  obtain ⟨k, -, -, hz⟩ := odd_spec (show 0 < nm (mg b) by omega) n2
  have hP : powI b - 53 + (tz (nm (mg b)) : Int) = partsE b := by unfold powI partsE; rw [if_pos hc, hr, t3]; omega
  have hM : (nm (mg b)) / 2 ^ tz (nm (mg b)) = partsM b := by unfold partsM; rw [if_pos hc, hr]; exact t2
  have hpow : -1100 ≤ powI b ∧ powI b ≤ 1100 := by unfold powI pl; omega
  have HI : Hid (partsI b = true) := by show _ = _; simp [partsI, hc]
  have HC := Lib.hid hc
  have HF := Lib.hid (fun w => frexp_any b w h0 hb1)
  have hm1 := run_float_arith (P := Tryd.prog) w .mul 82 .f64 (4602678819172646912 + lowN b) 4845873199050653696 r hr1
  have hm2 := run_convert_float_int (P := Tryd.prog) w 82 22 .f64 .u64 r _ (by kernel_rfl) Tryd.underlying22 hr2
  obtain ⟨G, hG⟩ : ∃ G, 4602678819172646912 + lowN b = G := ⟨_, rfl⟩
  have HG := Lib.hid hG
  rw [hG] at hm1
  obtain ⟨N, hN⟩ : ∃ N, nm (mg b) = N := ⟨_, rfl⟩
  rw [hN] at hm2 hP hM n1 n2 hz
  have hc2 := ctz_any N w (by omega) (by omega) hT
  have HCT := Lib.hid hc2
  obtain ⟨Z, hZ⟩ : ∃ Z, tz N = Z := ⟨_, rfl⟩
  rw [hZ] at hP hM hz
  have HZ := Lib.hid hZ
  obtain ⟨E, hE⟩ : ∃ E, powI b = E := ⟨_, rfl⟩
  have HE := Lib.hid hE
  rw [hE] at hP hpow
  obtain ⟨hp1, hp2⟩ := hpow
  have HP := Lib.hid hP
  have HM : Hid ((partsM b : Int) = (N : Int) / 2 ^ Z) := by show _ = _; rw [← hM]; exact cast_shr N Z
  clear hc hr1 hr2 t1 t2 t3 hP hM hE hZ hN hG hc2 f0 f1 f2 fr m0 m1 hL hr hb1 hT
  go_enter Tryd.func46, Tryd.ntmps46
  go_wp2_with fail
  refine (class_any b w hb).mono ?_
  rintro e' w1 ⟨rfl, rfl⟩
  rw [HC.out]
  go_wp2_with fail
  refine (HF.out w).mono ?_
  rintro e' w1 ⟨rfl, rfl⟩
  rw [HG.out, HE.out]
  go_wp2_with fail
  refine (HCT.out).mono ?_
  rintro e' w1 ⟨rfl, rfl⟩
  rw [HZ.out]
  go_wp2_with fail
  go_ret3
  exact ⟨by rw [HM.out, ← HP.out, HI.out]; rfl, rfl⟩
/-- real.Parts. -/
theorem parts_any (b : Nat) (w : World) (hb : b < 18446744073709551616) (hT : Dbj w) : Calls Tryd.prog 46 #[.int .u64 (b : Int)] w fun e w' => e = .returned (.tuple #[.int .u64 (partsM b : Int), .int .i64 (partsE b), .bool (partsI b)]) ∧ w = w' := by
  rcases cls_cases b with ⟨hc, -⟩ | ⟨hc, -⟩ | ⟨hc, -⟩ | ⟨hc, -⟩ | ⟨hc, -⟩ | ⟨hc, -⟩ | ⟨hc, -⟩
  · exact parts_0 b w hb hc
  · exact parts_1 b w hb hc
  · exact parts_2 b w hb hc
  · exact parts_3 b w hb hc
  · exact parts_4 b w hb hc
  · exact parts_5 b w hb hc hT
  · exact parts_6 b w hb hc

end Go.Proofs.YtolpggmcjengcaaDoor
