/-
  Package real: classes, keys, the order; the library's questions on floats; the reference's.
-/
import Derived.Test.YtgefjlamlgmijaaDoorRealM
import Derived.Test.YtgefjlamlgmijaaDoorMem
import Derived.Laws.Externs
import Derived.Laws.Bits64b
import Derived.KernelRfl
namespace Go.Proofs.YtgefjlamlgmijaaDoor
open Go.RowKit
set_option linter.unusedVariables false

@[go_sem] theorem call_from (n : Nat) (w : World) : (callFunc 24 #[.int .u64 (n : Int)]).run Tryd.prog w = .ok (.value (.float .f64 n)) w := by
  rw [run_callFunc_extern (e := Extern.MathFloatBits.float64frombits) Tryd.func24 (by kernel_rfl) (by kernel_rfl) (by kernel_rfl) (by kernel_rfl)]
  rfl
@[go_sem] theorem call_bits (n : Nat) (w : World) : (callFunc 36 #[.float .f64 n]).run Tryd.prog w = .ok (.value (.int .u64 (n : Int))) w := by
  rw [run_callFunc_extern (e := Extern.MathFloatBits.float64bits) Tryd.func36 (by kernel_rfl) (by kernel_rfl) (by kernel_rfl) (by kernel_rfl)]
  rfl

/-! ### plain -/
def nanB (b : Nat) : Bool := decide (9218868437227405312 < rung b)
def infB (b : Nat) : Bool := decide (rung b = 9218868437227405312)
/-- A word with the other sign. -/
def opp (b : Nat) : Nat := b ^^^ 9223372036854775808

theorem ng_iff {b : Nat} (h : b < 18446744073709551616) : ngB b = decide (9223372036854775808 ≤ b) := by
  unfold ngB
  by_cases h1 : 9223372036854775808 ≤ b
  · have : b / 9223372036854775808 % 2 = 1 := by omega
    simp [this, h1]
  · have : b / 9223372036854775808 % 2 = 0 := by omega
    simp [this, h1]
theorem opp_rung (b : Nat) : rung (opp b) = rung b := by
  unfold rung opp
  have := Nat.xor_mod_two_pow (a := b) (b := 9223372036854775808) (n := 63)
  rw [show (2 : Nat) ^ 63 = 9223372036854775808 from rfl, Nat.mod_self, Nat.xor_zero] at this
  exact this
theorem opp_ng {b : Nat} (h : b < 18446744073709551616) : ngB (opp b) = !ngB b := by
  unfold ngB opp
  have := Nat.xor_div_two_pow (a := b) (b := 9223372036854775808) (n := 63)
  rw [show (2 : Nat) ^ 63 = 9223372036854775808 from rfl, show (9223372036854775808 : Nat) / 9223372036854775808 = 1 from rfl] at this
  rw [this]
  have h1 : b / 9223372036854775808 = 0 ∨ b / 9223372036854775808 = 1 := by omega
  rcases h1 with h1 | h1 <;> rw [h1] <;> rfl
theorem sg_max : sg 9218868437227405311 = 9218868437227405311 := by decide
theorem rung_max : rung 9218868437227405311 = 9218868437227405311 := by decide
theorem sg_0 : sg 0 = 0 := by decide
theorem rung_0 : rung 0 = 0 := by decide

theorem nan_eq (b : Nat) : (FloatKind.f64.format.order b b != some .eq) = nanB b := by
  show (!(Ieee.double.order b b == some .eq)) = nanB b
  rw [ord_eq]
  unfold nanB
  by_cases h : 9218868437227405312 < rung b
  · simp [h]
  · simp [h, show rung b ≤ 9218868437227405312 by omega]
theorem inf_plus (b : Nat) : (FloatKind.f64.format.order b 9218868437227405311 == some .gt) = (infB b && !ngB b) := by
  show (Ieee.double.order b 9218868437227405311 == some .gt) = _
  rw [ord_gt, sg_max, rung_max]
  unfold infB sg
  by_cases h : rung b = 9218868437227405312
  · cases ngB b <;> simp [h]
  · cases ngB b <;> simp [h] <;> omega
theorem inf_minus {b : Nat} (hb : b < 18446744073709551616) : (FloatKind.f64.format.order (opp b) 9218868437227405311 == some .gt) = (infB b && ngB b) := by
  rw [inf_plus]
  unfold infB
  rw [opp_rung, opp_ng hb, Bool.not_not]
theorem below_zero (b : Nat) : (FloatKind.f64.format.order b 0 == some .lt) = (!nanB b && ngB b && decide (rung b ≠ 0)) := by
  show (Ieee.double.order b 0 == some .lt) = _
  rw [ord_lt, sg_0, rung_0]
  unfold nanB sg
  by_cases h : 9218868437227405312 < rung b
  · simp [h, show ¬ rung b ≤ 9218868437227405312 by omega]
  · by_cases h2 : rung b = 0 <;> cases ngB b <;> simp [h, h2] <;> omega
theorem above_zero (b : Nat) : (FloatKind.f64.format.order b 0 == some .gt) = (!nanB b && !ngB b && decide (rung b ≠ 0)) := by
  show (Ieee.double.order b 0 == some .gt) = _
  rw [ord_gt, sg_0, rung_0]
  unfold nanB sg
  by_cases h : 9218868437227405312 < rung b
  · simp [h, show ¬ rung b ≤ 9218868437227405312 by omega]
  · by_cases h2 : rung b = 0 <;> cases ngB b <;> simp [h, h2] <;> omega

@[go_sem] theorem run_neg_float (b : Nat) : Op.unary .neg (.float .f64 b) = pure (.float .f64 (opp b)) := rfl

/-- The class. -/
def cls (b : Nat) : Nat := if nanB b then 0 else if infB b then (if ngB b then 1 else 6) else if rung b = 0 then (if ngB b then 3 else 4) else if ngB b then 2 else 5

/-! ### math -/
theorem isnan_any (b : Nat) (w : World) : Calls Tryd.prog 29 #[.float .f64 b] w fun e w' => e = .returned (.bool (nanB b)) ∧ w = w' := by
  rw [← nan_eq]
  go_enter Tryd.func29, Tryd.ntmps29
  go_wp2
  all_goals (go_ret; exact ⟨rfl, rfl⟩)
theorem isinf_minus (b : Nat) (w : World) (hb : b < 18446744073709551616) : Calls Tryd.prog 30 #[.float .f64 b, .int .i64 (-1)] w fun e w' => e = .returned (.bool (infB b && ngB b)) ∧ w = w' := by
  rw [← inf_minus hb]
  go_enter Tryd.func30, Tryd.ntmps30
  go_wp2
  all_goals (go_ret; exact ⟨rfl, rfl⟩)
theorem isinf_plus (b : Nat) (w : World) : Calls Tryd.prog 30 #[.float .f64 b, .int .i64 1] w fun e w' => e = .returned (.bool (infB b && !ngB b)) ∧ w = w' := by
  rw [← inf_plus]
  go_enter Tryd.func30, Tryd.ntmps30
  go_wp2
  all_goals (go_ret; exact ⟨rfl, rfl⟩)
theorem signbit_any (b : Nat) (w : World) (hb : b < 18446744073709551616) : Calls Tryd.prog 31 #[.float .f64 b] w fun e w' => e = .returned (.bool (ngB b)) ∧ w = w' := by
  have e : decide (wrap64 (b : Int) < 0) = ngB b := by
    rw [ng_iff hb]
    unfold wrap64
    by_cases h : 9223372036854775808 ≤ b
    · simp [h]; omega
    · simp [h]; omega
  go_enter Tryd.func31, Tryd.ntmps31
  go_wp2
  all_goals (go_ret; exact ⟨by rw [← e]; rfl, rfl⟩)
theorem class_nan (b : Nat) (w : World) (hb : b < 18446744073709551616) (hn : nanB b = true) : Calls Tryd.prog 22 #[.int .u64 (b : Int)] w fun e w' => e = .returned (.int .i64 (cls b : Int)) ∧ w = w' := by
  have HC : Hid (cls b = 0) := by show _ = _; simp [cls, hn]
  go_enter Tryd.func22, Tryd.ntmps22
  go_wp2_with fail
  refine (isnan_any b w).mono ?_
  rintro e w1 ⟨rfl, rfl⟩
  go_wp2_with fail
  go_ret
  exact ⟨by rw [HC.out]; rfl, rfl⟩

theorem class_minf (b : Nat) (w : World) (hb : b < 18446744073709551616) (hn : nanB b = false) (hi : infB b = true) (hg : ngB b = true) : Calls Tryd.prog 22 #[.int .u64 (b : Int)] w fun e w' => e = .returned (.int .i64 (cls b : Int)) ∧ w = w' := by
  have HC : Hid (cls b = 1) := by show _ = _; simp [cls, hn, hi, hg]
  go_enter Tryd.func22, Tryd.ntmps22
  go_wp2_with fail
  refine (isnan_any b w).mono ?_
  rintro e w1 ⟨rfl, rfl⟩
  go_wp2_with fail
  refine (isinf_minus b w hb).mono ?_
  rintro e w1 ⟨rfl, rfl⟩
  go_wp2_with fail
  go_ret
  exact ⟨by rw [HC.out]; rfl, rfl⟩

theorem class_inf (b : Nat) (w : World) (hb : b < 18446744073709551616) (hn : nanB b = false) (hi : infB b = true) (hg : ngB b = false) : Calls Tryd.prog 22 #[.int .u64 (b : Int)] w fun e w' => e = .returned (.int .i64 (cls b : Int)) ∧ w = w' := by
  have HC : Hid (cls b = 6) := by show _ = _; simp [cls, hn, hi, hg]
  go_enter Tryd.func22, Tryd.ntmps22
  go_wp2_with fail
  refine (isnan_any b w).mono ?_
  rintro e w1 ⟨rfl, rfl⟩
  go_wp2_with fail
  refine (isinf_minus b w hb).mono ?_
  rintro e w1 ⟨rfl, rfl⟩
  go_wp2_with fail
  refine (isinf_plus b w).mono ?_
  rintro e w1 ⟨rfl, rfl⟩
  go_wp2_with fail
  go_ret
  exact ⟨by rw [HC.out]; rfl, rfl⟩

theorem class_minus (b : Nat) (w : World) (hb : b < 18446744073709551616) (hn : nanB b = false) (hi : infB b = false) (hg : ngB b = true) (hz : rung b ≠ 0) : Calls Tryd.prog 22 #[.int .u64 (b : Int)] w fun e w' => e = .returned (.int .i64 (cls b : Int)) ∧ w = w' := by
  have HC : Hid (cls b = 2) := by show _ = _; simp [cls, hn, hi, hg, hz]
  have f1 : (FloatKind.f64.format.order b 0 == some .lt) = true := by rw [below_zero]; simp [hn, hg, hz]
  have f2 : (FloatKind.f64.format.order b 0 == some .gt) = false := by rw [above_zero]; simp [hn, hg, hz]
  clear hz
  go_enter Tryd.func22, Tryd.ntmps22
  go_wp2_with fail
  refine (isnan_any b w).mono ?_
  rintro e w1 ⟨rfl, rfl⟩
  go_wp2_with fail
  refine (isinf_minus b w hb).mono ?_
  rintro e w1 ⟨rfl, rfl⟩
  go_wp2_with fail
  refine (isinf_plus b w).mono ?_
  rintro e w1 ⟨rfl, rfl⟩
  go_wp2_with fail
  go_ret
  exact ⟨by rw [HC.out]; rfl, rfl⟩

theorem class_plus (b : Nat) (w : World) (hb : b < 18446744073709551616) (hn : nanB b = false) (hi : infB b = false) (hg : ngB b = false) (hz : rung b ≠ 0) : Calls Tryd.prog 22 #[.int .u64 (b : Int)] w fun e w' => e = .returned (.int .i64 (cls b : Int)) ∧ w = w' := by
  have HC : Hid (cls b = 5) := by show _ = _; simp [cls, hn, hi, hg, hz]
  have f1 : (FloatKind.f64.format.order b 0 == some .lt) = false := by rw [below_zero]; simp [hn, hg, hz]
  have f2 : (FloatKind.f64.format.order b 0 == some .gt) = true := by rw [above_zero]; simp [hn, hg, hz]
  clear hz
  go_enter Tryd.func22, Tryd.ntmps22
  go_wp2_with fail
  refine (isnan_any b w).mono ?_
  rintro e w1 ⟨rfl, rfl⟩
  go_wp2_with fail
  refine (isinf_minus b w hb).mono ?_
  rintro e w1 ⟨rfl, rfl⟩
  go_wp2_with fail
  refine (isinf_plus b w).mono ?_
  rintro e w1 ⟨rfl, rfl⟩
  go_wp2_with fail
  go_ret
  exact ⟨by rw [HC.out]; rfl, rfl⟩

theorem class_mzero (b : Nat) (w : World) (hb : b < 18446744073709551616) (hn : nanB b = false) (hi : infB b = false) (hg : ngB b = true) (hz : rung b = 0) : Calls Tryd.prog 22 #[.int .u64 (b : Int)] w fun e w' => e = .returned (.int .i64 (cls b : Int)) ∧ w = w' := by
  have HC : Hid (cls b = 3) := by show _ = _; simp [cls, hn, hi, hg, hz]
  have f1 : (FloatKind.f64.format.order b 0 == some .lt) = false := by rw [below_zero]; simp [hn, hg, hz]
  have f2 : (FloatKind.f64.format.order b 0 == some .gt) = false := by rw [above_zero]; simp [hn, hg, hz]
  clear hz
  go_enter Tryd.func22, Tryd.ntmps22
  go_wp2_with fail
  refine (isnan_any b w).mono ?_
  rintro e w1 ⟨rfl, rfl⟩
  go_wp2_with fail
  refine (isinf_minus b w hb).mono ?_
  rintro e w1 ⟨rfl, rfl⟩
  go_wp2_with fail
  refine (isinf_plus b w).mono ?_
  rintro e w1 ⟨rfl, rfl⟩
  go_wp2_with fail
  refine (signbit_any b w hb).mono ?_
  rintro e w1 ⟨rfl, rfl⟩
  go_wp2_with fail
  go_ret
  exact ⟨by rw [HC.out]; rfl, rfl⟩

theorem class_zero (b : Nat) (w : World) (hb : b < 18446744073709551616) (hn : nanB b = false) (hi : infB b = false) (hg : ngB b = false) (hz : rung b = 0) : Calls Tryd.prog 22 #[.int .u64 (b : Int)] w fun e w' => e = .returned (.int .i64 (cls b : Int)) ∧ w = w' := by
  have HC : Hid (cls b = 4) := by show _ = _; simp [cls, hn, hi, hg, hz]
  have f1 : (FloatKind.f64.format.order b 0 == some .lt) = false := by rw [below_zero]; simp [hn, hg, hz]
  have f2 : (FloatKind.f64.format.order b 0 == some .gt) = false := by rw [above_zero]; simp [hn, hg, hz]
  clear hz
  go_enter Tryd.func22, Tryd.ntmps22
  go_wp2_with fail
  refine (isnan_any b w).mono ?_
  rintro e w1 ⟨rfl, rfl⟩
  go_wp2_with fail
  refine (isinf_minus b w hb).mono ?_
  rintro e w1 ⟨rfl, rfl⟩
  go_wp2_with fail
  refine (isinf_plus b w).mono ?_
  rintro e w1 ⟨rfl, rfl⟩
  go_wp2_with fail
  refine (signbit_any b w hb).mono ?_
  rintro e w1 ⟨rfl, rfl⟩
  go_wp2_with fail
  go_ret
  exact ⟨by rw [HC.out]; rfl, rfl⟩

/-- real.Class. -/
theorem class_any (b : Nat) (w : World) (hb : b < 18446744073709551616) : Calls Tryd.prog 22 #[.int .u64 (b : Int)] w fun e w' => e = .returned (.int .i64 (cls b : Int)) ∧ w = w' := by
  cases hn : nanB b
  · cases hi : infB b <;> cases hg : ngB b
    · by_cases hz : rung b = 0
      · exact class_zero b w hb hn hi hg hz
      · exact class_plus b w hb hn hi hg hz
    · by_cases hz : rung b = 0
      · exact class_mzero b w hb hn hi hg hz
      · exact class_minus b w hb hn hi hg hz
    · exact class_inf b w hb hn hi hg
    · exact class_minf b w hb hn hi hg
  · exact class_nan b w hb hn
end Go.Proofs.YtgefjlamlgmijaaDoor
