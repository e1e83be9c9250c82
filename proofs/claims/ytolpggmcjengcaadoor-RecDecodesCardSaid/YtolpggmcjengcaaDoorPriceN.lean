/-
  Plain: a product times a power of two, rounded down.
-/
import Derived.Test.YtolpggmcjengcaaDoorRealQ
import Derived.Laws.BitsAllLaws
import Derived.WalkKit
namespace Go.Proofs.YtolpggmcjengcaaDoor

/-- p times 2 to the power of e, rounded down. -/
def scale (p : Nat) (e : Int) : Nat := p * 2 ^ e.toNat / 2 ^ (-e).toNat
/-- .. no more than a word holds. -/
def dueN (p : Nat) (e : Int) : Nat := min (scale p e) 18446744073709551615

theorem scale_up (p k : Nat) (e : Int) (h : e = k) : scale p e = p * 2 ^ k := by
  subst h
  unfold scale
  rw [show ((k : Int)).toNat = k by omega, show (-(k : Int)).toNat = 0 by omega, Nat.pow_zero, Nat.div_one]
theorem scale_down (p k : Nat) (e : Int) (h : e = -(k : Int)) : scale p e = p / 2 ^ k := by
  subst h
  unfold scale
  rcases Nat.eq_zero_or_pos k with rfl | hk
  · simp
  · rw [show (-(k : Int)).toNat = 0 by omega, show (-(-(k : Int))).toNat = k by omega, Nat.pow_zero, Nat.mul_one]
theorem scale_of (K : Nat) (p : Nat) (e : Int) (h : 0 ≤ e + K) : scale p e = p * 2 ^ (e + K).toNat / 2 ^ K := by
  rcases Int.le_total 0 e with h0 | h0
  · obtain ⟨k, rfl⟩ := Int.eq_ofNat_of_zero_le h0
    rw [scale_up p k _ rfl, show ((k : Int) + (K : Int)).toNat = k + K by omega, Nat.pow_add, ← Nat.mul_assoc, Nat.mul_div_cancel _ (Nat.two_pow_pos K)]
  · obtain ⟨k, hk⟩ := Int.eq_ofNat_of_zero_le (show 0 ≤ -e by omega)
    obtain rfl : e = -(k : Int) := by omega
    obtain ⟨j, rfl⟩ : ∃ j, K = k + j := ⟨K - k, by omega⟩
    rw [scale_down p k _ rfl, show (-(k : Int) + ((k + j : Nat) : Int)).toNat = j by omega, Nat.pow_add, Nat.mul_div_mul_right _ _ (Nat.two_pow_pos j)]
theorem scale_mono {p q : Nat} (h : p ≤ q) (e : Int) : scale p e ≤ scale q e := Nat.div_le_div_right (Nat.mul_le_mul_right _ h)
theorem scale_zero (e : Int) : scale 0 e = 0 := by unfold scale; simp
theorem due_zero (e : Int) : dueN 0 e = 0 := by unfold dueN; rw [scale_zero]; rfl
theorem due_lt (p : Nat) (e : Int) : dueN p e < 18446744073709551616 := by unfold dueN; omega
theorem due_of {p : Nat} {e : Int} {s : Nat} (h : scale p e = s) (hs : s < 18446744073709551616) : dueN p e = s := by unfold dueN; omega
theorem due_max {p : Nat} {e : Int} (h : 18446744073709551616 ≤ scale p e) : dueN p e = 18446744073709551615 := by unfold dueN; omega

theorem p64 : (2 : Nat) ^ 64 = 18446744073709551616 := by decide

/-- At 2 to the power of -64 and below: the upper word alone. -/
theorem t_low (P k : Nat) (e : Int) (he : e = -((64 + k : Nat) : Int)) (hP : P < 18446744073709551616 * 18446744073709551616) : dueN P e = P / 18446744073709551616 / 2 ^ k := by
  refine due_of ?_ (Nat.lt_of_le_of_lt (Nat.div_le_self _ _) (by omega))
  rw [scale_down P (64 + k) e he, Nat.pow_add, p64, Nat.div_div_eq_div_mul]
/-- Between: both words. -/
theorem t_mid (P k j : Nat) (e : Int) (he : e = -(k : Int)) (hk : k + j = 64) (h : P / 18446744073709551616 / 2 ^ k = 0) :
    dueN P e = P / 18446744073709551616 * 2 ^ j + P % 18446744073709551616 / 2 ^ k ∧ P / 18446744073709551616 * 2 ^ j + P % 18446744073709551616 / 2 ^ k < 18446744073709551616 ∧
    P / 18446744073709551616 * 2 ^ j < 18446744073709551616 ∧ P % 18446744073709551616 / 2 ^ k < 2 ^ j := by
  have e64 : 18446744073709551616 = 2 ^ j * 2 ^ k := by rw [← p64, ← hk, Nat.add_comm, Nat.pow_add]
  have hk0 := Nat.two_pow_pos k
  have hj0 := Nat.two_pow_pos j
  have hH : P / 18446744073709551616 < 2 ^ k := by
    rcases Nat.lt_or_ge (P / 18446744073709551616) (2 ^ k) with h' | h'
    · exact h'
    · have := Nat.div_pos h' hk0
      omega
  have hL : P % 18446744073709551616 < 18446744073709551616 := Nat.mod_lt _ (by omega)
  have hs : P / 2 ^ k = P / 18446744073709551616 * 2 ^ j + P % 18446744073709551616 / 2 ^ k := by
    conv => lhs; rw [← Nat.div_add_mod P 18446744073709551616]
    generalize P / 18446744073709551616 = H at *
    generalize P % 18446744073709551616 = L at *
    rw [e64, show 2 ^ j * 2 ^ k * H + L = L + 2 ^ k * (H * 2 ^ j) by rw [Nat.add_comm]; congr 1; rw [Nat.mul_comm (2 ^ j), Nat.mul_assoc, Nat.mul_comm (2 ^ j)], Nat.add_mul_div_left _ _ hk0, Nat.add_comm]
  generalize P / 18446744073709551616 = H at *
  generalize P % 18446744073709551616 = L at *
  have h1 : L / 2 ^ k < 2 ^ j := by
    rw [Nat.div_lt_iff_lt_mul hk0, ← e64]
    exact hL
  have h2 : (H + 1) * 2 ^ j ≤ 18446744073709551616 := by
    rw [e64, Nat.mul_comm (2 ^ j)]
    exact Nat.mul_le_mul_right _ hH
  have h3 : (H + 1) * 2 ^ j = H * 2 ^ j + 2 ^ j := Nat.succ_mul _ _
  rw [h3] at h2
  generalize H * 2 ^ j = X at *
  generalize L / 2 ^ k = Y at *
  generalize 2 ^ j = J at *
  exact ⟨due_of (by rw [scale_down P k e he]; exact hs) (by omega), by omega, by omega, h1⟩
theorem t_midover (P k : Nat) (e : Int) (he : e = -(k : Int)) (h : P / 18446744073709551616 / 2 ^ k ≠ 0) : dueN P e = 18446744073709551615 := by
  apply due_max
  rw [scale_down P k e he]
  rw [Nat.div_div_eq_div_mul, Nat.mul_comm, ← Nat.div_div_eq_div_mul] at h
  generalize P / 2 ^ k = X at *
  omega
/-- At 1 and above: the lower word alone. -/
theorem t_up (P k l : Nat) (e : Int) (he : e = (k : Int)) (hl : P < 2 ^ l) (h : k + l ≤ 64) : dueN P e = P * 2 ^ k ∧ P * 2 ^ k < 18446744073709551616 := by
  have h1 : P * 2 ^ k < 18446744073709551616 := by
    rw [← p64]
    calc P * 2 ^ k < 2 ^ l * 2 ^ k := Nat.mul_lt_mul_of_pos_right hl (Nat.two_pow_pos k)
      _ = 2 ^ (k + l) := by rw [Nat.add_comm, Nat.pow_add]
      _ ≤ 2 ^ 64 := Nat.pow_le_pow_right (by omega) h
  exact ⟨due_of (scale_up P k e he) h1, h1⟩
theorem t_over (P k l : Nat) (e : Int) (he : e = (k : Int)) (hl : 2 ^ l ≤ P) (h : 64 ≤ k + l) : dueN P e = 18446744073709551615 := by
  apply due_max
  rw [scale_up P k e he, ← p64]
  calc 2 ^ 64 ≤ 2 ^ (k + l) := Nat.pow_le_pow_right (by omega) h
    _ = 2 ^ l * 2 ^ k := by rw [Nat.add_comm, Nat.pow_add]
    _ ≤ P * 2 ^ k := Nat.mul_le_mul_right _ hl
theorem t_overH (P : Nat) (e : Int) (he : 0 ≤ e) (hl : 18446744073709551616 ≤ P) : dueN P e = 18446744073709551615 := by
  obtain ⟨k, rfl⟩ := Int.eq_ofNat_of_zero_le he
  exact t_over P k 64 _ rfl (by rw [p64]; exact hl) (by omega)

/-- The bits 'a << j | b' that do not meet. -/
theorem or_up (a b j : Nat) (hb : b < 2 ^ j) (h : a * 2 ^ j + b < 18446744073709551616) : bits .or .u64 ((a * 2 ^ j : Nat) : Int) (b : Int) = ((a * 2 ^ j + b : Nat) : Int) := by
  rw [u64_or_nat _ _ (by omega) (by omega)]
  have := Nat.two_pow_add_eq_or_of_lt hb a
  rw [Nat.mul_comm] at this
  rw [this]
/-- 'a | b == 0' -/
theorem or_none (a b : Nat) (ha : a < 18446744073709551616) (hb : b < 18446744073709551616) : (bits .or .u64 (a : Int) (b : Int) == 0) = decide (a = 0 ∧ b = 0) := by
  rw [u64_or_nat _ _ ha hb]
  have e : (a ||| b = 0) ↔ a = 0 ∧ b = 0 := Nat.or_eq_zero_iff
  by_cases h : a = 0 ∧ b = 0
  · obtain ⟨rfl, rfl⟩ := h
    rfl
  · have h2 : ¬ a ||| b = 0 := fun h' => h (e.1 h')
    rw [decide_eq_false h, beq_eq_false_iff_ne]
    intro h3
    exact h2 (by exact_mod_cast h3)
end Go.Proofs.YtolpggmcjengcaaDoor
