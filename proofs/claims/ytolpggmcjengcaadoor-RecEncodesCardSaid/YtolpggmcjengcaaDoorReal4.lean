/-
  Package real: Pick.
-/
import Derived.Test.YtolpggmcjengcaaDoorReal3
import Derived.Test.YtolpggmcjengcaaDoorMul64
namespace Go.Proofs.YtolpggmcjengcaaDoor
open Go.RowKit
set_option linter.unusedVariables false

/-- A rung's first 53 places behind the point. -/
def exps : Nat := 1021
def sc : Nat := 2 ^ exps
def frN (r : Nat) : Nat := val r / sc
/-- What Pick answers. -/
def pickN (b : Nat) (n : Int) : Int :=
  if n < 1 then -1 else if nanB b || ngB b || decide (rung b = 0) then 0 else if 4607182418800017408 ≤ rung b then n - 1 else ((frN (rung b) * n.toNat / 9007199254740992 : Nat) : Int)

theorem twice_pow (t : Nat) : 4503599627370496 * 2 ^ (t + 1) = 9007199254740992 * 2 ^ t := by
  rw [Nat.pow_succ]
  generalize 2 ^ t = x
  omega
theorem val_at (r t : Nat) (h1 : mg r = 4503599627370496) (h2 : pl r = t + 1) : val r = 9007199254740992 * 2 ^ t := by
  unfold val
  rw [h1, h2, twice_pow]
theorem val_one (r : Nat) (hr : r = 4607182418800017408) : val r = 9007199254740992 * sc := by
  have h1 : mg r = 4503599627370496 := by subst hr; decide
  have h2 : pl r = exps + 1 := by subst hr; decide
  rw [val_at r exps h1 h2, sc]
theorem sc_eq (t : Nat) : sc * 2 ^ t = 2 ^ (exps + t) := (Nat.pow_add 2 exps t).symm
theorem fr_lt {r : Nat} (h : r < 4607182418800017408) : frN r < 9007199254740992 := by
  unfold frN
  have := val_lt h
  rw [val_one _ rfl, Nat.mul_comm] at this
  exact Nat.div_lt_of_lt_mul this
theorem fr_le {r s : Nat} (h : r ≤ s) : frN r ≤ frN s := Nat.div_le_div_right (val_le h)

theorem eq_zero (b : Nat) : (FloatKind.f64.format.order b 0 == some .eq) = (!nanB b && decide (rung b = 0)) := by
  show (Ieee.double.order b 0 == some .eq) = _
  rw [ord_eq, sg_0, rung_0]
  unfold nanB sg
  by_cases h : 9218868437227405312 < rung b
  · simp [h, show ¬ rung b ≤ 9218868437227405312 by omega]
  · by_cases h2 : rung b = 0 <;> cases ngB b <;> simp [h, h2] <;> omega
theorem sg_one : sg 4607182418800017408 = 4607182418800017408 := by decide
theorem rung_one : rung 4607182418800017408 = 4607182418800017408 := by decide
theorem gt_one (b : Nat) (hg : ngB b = false) (hn : nanB b = false) : (FloatKind.f64.format.order b 4607182418800017408 == some .gt) = decide (4607182418800017408 < rung b) := by
  show (Ieee.double.order b 4607182418800017408 == some .gt) = _
  rw [ord_gt, sg_one, rung_one]
  unfold nanB at hn
  rw [decide_eq_false_iff_not] at hn
  unfold sg
  rw [hg]
  by_cases h2 : 4607182418800017408 < rung b <;> simp [h2] <;> omega
theorem eq_one (b : Nat) (hg : ngB b = false) (hn : nanB b = false) : (FloatKind.f64.format.order b 4607182418800017408 == some .eq) = decide (rung b = 4607182418800017408) := by
  show (Ieee.double.order b 4607182418800017408 == some .eq) = _
  rw [ord_eq, sg_one, rung_one]
  unfold nanB at hn
  rw [decide_eq_false_iff_not] at hn
  unfold sg
  rw [hg]
  by_cases h2 : rung b = 4607182418800017408 <;> simp [h2] <;> omega

theorem fr_nm (m p : Nat) (hp : p ≤ 1021) (hL : m.log2 ≤ 52) : nm m / 2 ^ (1073 - p - m.log2) = m * 2 ^ p / sc := by
  have e : 1073 - p - m.log2 + p = exps + (52 - m.log2) := by unfold exps; omega
  unfold nm
  generalize 52 - m.log2 = j at *
  generalize 1073 - p - m.log2 = k at *
  clear hp hL
  rw [← Nat.mul_div_mul_right (m * 2 ^ j) _ (Nat.two_pow_pos p), ← Nat.mul_div_mul_right (m * 2 ^ p) _ (Nat.two_pow_pos j), sc_eq, Nat.mul_assoc, Nat.mul_assoc, ← Nat.pow_add, ← Nat.pow_add, ← Nat.pow_add,
    Nat.add_comm p j, e]
theorem to_u64 (r k : Nat) (h : (Ieee.double.read r).toInt .zero = some ((k : Nat) : Int)) (hk : k < 9007199254740993) : floatToIntVal .f64 r .u64 = some ((k : Nat) : Int) := by
  unfold floatToIntVal
  have e : FloatKind.f64.decode r = Ieee.double.read r := rfl
  have hmin : IntKind.u64.min = 0 := rfl
  have hmax : IntKind.u64.max = 18446744073709551615 := rfl
  rw [e, h]
  show (if IntKind.u64.min ≤ (k : Int) ∧ (k : Int) ≤ IntKind.u64.max then some (k : Int) else none) = _
  rw [hmin, hmax, if_pos ⟨by omega, by omega⟩]

/-- A fraction's product by 2^53, as a whole number. -/
theorem fr_up (b : Nat) (hg : ngB b = false) (h0 : 0 < rung b) (h1 : rung b < 4607182418800017408) :
    ∃ r, floatBits .mul .f64 b 4845873199050653696 = some r ∧ floatToIntVal .f64 r .u64 = some ((frN (rung b) : Nat) : Int) := by
  have hp : pl (rung b) ≤ 1021 := by unfold pl; omega
  have hm := mg_lt (rung b)
  have hL := log2_le52 hm
  have hm0 := mg_pos h0
  have hnm := nm_lt hm
  obtain ⟨l, hl⟩ : ∃ l, pl (rung b) + (mg (rung b)).log2 + 1 = l := ⟨_, rfl⟩
  have hr := mul_up 4845873199050653696 1 b l read_p53 hg h0 (by omega) (by omega) (by omega)
  obtain ⟨e1, e2, e3, e4⟩ := up_parts l (mg (rung b)) hm0 hm (by omega)
  have hi := toInt_down (l * 4503599627370496 + nm (mg (rung b))) (1073 - pl (rung b) - (mg (rung b)).log2) e2 (by rw [e1]; omega) (by rw [e1, e4]; omega)
  rw [e1, e3, fr_nm _ _ hp hL] at hi
  exact ⟨_, hr, to_u64 _ (frN (rung b)) hi (Nat.lt_succ_of_lt (fr_lt h1))⟩

theorem shl_parts (P : Nat) (h : P < 9007199254740992 * 9223372036854775808) :
    bits .or .u64 (((P / 18446744073709551616 : Nat) : Int) * 2048) (((P % 18446744073709551616 : Nat) : Int) / 9007199254740992) = ((P / 9007199254740992 : Nat) : Int) := by
  have h1 := bits_or_u64_nat (P / 18446744073709551616 * 2048) (P % 18446744073709551616 / 9007199254740992) (by omega) (by omega)
  have e : P / 18446744073709551616 * 2048 ||| P % 18446744073709551616 / 9007199254740992 = P / 9007199254740992 := by
    have h2 : P % 18446744073709551616 / 9007199254740992 < 2 ^ 11 := by omega
    have := Nat.two_pow_add_eq_or_of_lt h2 (P / 18446744073709551616)
    rw [Nat.mul_comm, show (2048 : Nat) = 2 ^ 11 from rfl, ← this]
    omega
  rw [e] at h1
  rw [← h1]
  congr 1

/-! ### the program -/
end Go.Proofs.YtolpggmcjengcaaDoor
