/-
  Plain: the odd part of a magnitude; a fraction's places one by one; a product digit by digit.
-/
import Derived.Test.YtolpggmcjengcaaDoorReal
import Derived.Lib.TrailingZeros
namespace Go.Proofs.YtolpggmcjengcaaDoor

/-- How many times 2 divides. -/
def tz (m : Nat) : Nat := Lib.ctz 64 m
/-- The odd part. -/
def odd (m : Nat) : Nat := m / 2 ^ tz m

theorem odd_spec {m : Nat} (h0 : 0 < m) (h : m < 9007199254740992) : ∃ k, odd m = 2 * k + 1 ∧ m = 2 ^ tz m * odd m ∧ tz m ≤ 52 := by
  obtain ⟨k, hk, hz⟩ := Lib.ctzFrom_spec 64 m h0 (by omega)
  have e : tz m = Lib.ctzFrom 64 m := by unfold tz Lib.ctz; rw [if_neg (by omega)]
  rw [← e] at hk hz
  have ho : odd m = 2 * k + 1 := by
    unfold odd
    rw [Nat.div_eq_iff_eq_mul_right (Nat.two_pow_pos _) ⟨_, hk⟩]
    exact hk
  refine ⟨k, ho, by rw [ho]; exact hk, ?_⟩
  have h1 : 2 ^ tz m ≤ m := Nat.le_trans (Nat.le_mul_of_pos_right _ (show 0 < 2 * k + 1 by omega)) (Nat.le_of_eq hk.symm)
  have h2 : 2 ^ tz m < 2 ^ 53 := by omega
  have := (Nat.pow_lt_pow_iff_right (show 1 < 2 by omega)).1 h2
  omega
theorem odd_pos {m : Nat} (h0 : 0 < m) (h : m < 9007199254740992) : 0 < odd m := by
  obtain ⟨k, hk, -⟩ := odd_spec h0 h
  omega
theorem odd_lt {m : Nat} (h : m < 9007199254740992) : odd m < 9007199254740992 := Nat.lt_of_le_of_lt (Nat.div_le_self _ _) h
/-- j halves taken. -/
theorem half_step {m : Nat} (h0 : 0 < m) (h : m < 9007199254740992) (j : Nat) (hj : j < tz m) : m / 2 ^ j % 2 = 0 ∧ m / 2 ^ j / 2 = m / 2 ^ (j + 1) := by
  obtain ⟨k, hk, hm, -⟩ := odd_spec h0 h
  refine ⟨?_, ?_⟩
  · obtain ⟨d, hd⟩ : ∃ d, tz m = j + (d + 1) := ⟨tz m - j - 1, by omega⟩
    have e : m = 2 ^ j * (2 * (2 ^ d * odd m)) := by
      rw [← Nat.mul_assoc 2, ← Nat.pow_succ', ← Nat.mul_assoc, ← Nat.pow_add, ← hd]; exact hm
    rw [e, Nat.mul_div_cancel_left _ (Nat.two_pow_pos _)]
    exact Nat.mul_mod_right _ _
  · rw [Nat.div_div_eq_div_mul, ← Nat.pow_succ]
theorem half_end {m : Nat} (h0 : 0 < m) (h : m < 9007199254740992) : m / 2 ^ tz m % 2 = 1 := by
  obtain ⟨k, hk, -⟩ := odd_spec h0 h
  show odd m % 2 = 1
  omega

/-- The first i places of m / 2^q. -/
def kq (m q i : Nat) : Nat := m * 2 ^ i / 2 ^ q
theorem kq_zero {m q : Nat} (h : m < 2 ^ q) : kq m q 0 = 0 := by
  unfold kq
  rw [Nat.pow_zero, Nat.mul_one]
  exact Nat.div_eq_of_lt h
theorem kq_in (m q i : Nat) (h : i + 1 ≤ q) : kq m q (i + 1) = 2 * kq m q i + m / 2 ^ (q - (i + 1)) % 2 := by
  obtain ⟨d, rfl⟩ : ∃ d, q = d + (i + 1) := ⟨q - (i + 1), by omega⟩
  unfold kq
  have e1 : m * 2 ^ (i + 1) / 2 ^ (d + (i + 1)) = m / 2 ^ d := by
    rw [Nat.pow_add 2 d]; exact Nat.mul_div_mul_right _ _ (Nat.two_pow_pos _)
  have e2 : m * 2 ^ i / 2 ^ (d + (i + 1)) = m / 2 ^ d / 2 := by
    rw [show d + (i + 1) = (d + 1) + i by omega, Nat.pow_add 2 (d + 1), Nat.mul_div_mul_right _ _ (Nat.two_pow_pos _), Nat.div_div_eq_div_mul, ← Nat.pow_succ]
  rw [e1, e2, show d + (i + 1) - (i + 1) = d by omega]
  omega
theorem kq_out (m q i : Nat) (h : q ≤ i) : kq m q (i + 1) = 2 * kq m q i := by
  obtain ⟨d, rfl⟩ : ∃ d, i = d + q := ⟨i - q, by omega⟩
  unfold kq
  rw [show d + q + 1 = (d + 1) + q by omega, Nat.pow_add 2 (d + 1), Nat.pow_add 2 d q, ← Nat.mul_assoc, ← Nat.mul_assoc, Nat.mul_div_cancel _ (Nat.two_pow_pos _), Nat.mul_div_cancel _ (Nat.two_pow_pos _), Nat.pow_succ]
  generalize 2 ^ d = x
  rw [← Nat.mul_assoc, Nat.mul_comm 2]
theorem kq_lt {m q : Nat} (h : m < 2 ^ q) (i : Nat) : kq m q i < 2 ^ i := by
  unfold kq
  rw [Nat.div_lt_iff_lt_mul (Nat.two_pow_pos _), Nat.mul_comm]
  exact Nat.mul_lt_mul_of_pos_left h (Nat.two_pow_pos _)

/-- One digit more of a number: what the product's quotient and rest become. -/
theorem digit_step (k n j : Nat) : k * (n / 2 ^ j) = 2 * (k * (n / 2 ^ (j + 1))) + (if n / 2 ^ j % 2 = 1 then k else 0) := by
  have e : n / 2 ^ (j + 1) = n / 2 ^ j / 2 := by rw [Nat.pow_succ, Nat.div_div_eq_div_mul]
  rw [e]
  generalize n / 2 ^ j = x
  have h := Nat.div_add_mod x 2
  generalize x / 2 = y at *
  rw [← h]
  split
  · rename_i h1
    rw [show (2 * y + x % 2) = 2 * y + 1 by omega, Nat.mul_add, Nat.mul_one, Nat.mul_left_comm]
  · rename_i h1
    rw [show (2 * y + x % 2) = 2 * y by omega, Nat.add_zero, Nat.mul_left_comm]
end Go.Proofs.YtolpggmcjengcaaDoor
