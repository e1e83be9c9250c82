/-
  Plain: bytes put together by shifts and ors.
-/
import Derived.Laws.BitsAllLaws
import Derived.WalkKit
namespace Go.Proofs.Ytogbcknpnelbgaa

theorem or_sum (k : Nat) (a b : Nat) (ha : 2 ^ k * (a / 2 ^ k) = a) (hb : b < 2 ^ k) (h : a + b < 18446744073709551616) : bits .or .u64 (a : Int) (b : Int) = ((a + b : Nat) : Int) := by
  rw [u64_or_nat a b (by omega) (by omega)]
  have := Nat.two_pow_add_eq_or_of_lt hb (a / 2 ^ k)
  rw [ha] at this
  rw [this]
/-- Bits that do not meet: 'or' is the sum. -/
theorem or_add (k : Nat) (P a b : Int) (hP : P = ((2 ^ k : Nat) : Int)) (h0 : 0 ≤ a) (h1 : 0 ≤ b) (ha : a % P = 0) (hb : b < P) (h : a + b < 18446744073709551616) : bits .or .u64 a b = a + b := by
  obtain ⟨a, rfl⟩ := Int.eq_ofNat_of_zero_le h0
  obtain ⟨b, rfl⟩ := Int.eq_ofNat_of_zero_le h1
  subst hP
  rw [or_sum k a b (Nat.mul_div_cancel' (Nat.dvd_of_mod_eq_zero (by exact_mod_cast ha))) (by exact_mod_cast hb) (by omega)]
  omega
theorem or_zero (b : Int) (h0 : 0 ≤ b) (h : b < 18446744073709551616) : bits .or .u64 0 b = b := by
  obtain ⟨b, rfl⟩ := Int.eq_ofNat_of_zero_le h0
  have := u64_or_nat 0 b (by omega) (by omega)
  simpa using this

theorem or2 (x0 x1 : Nat) (b0 : x0 < 256) (b1 : x1 < 256) : bits .or .u64 (bits .or .u64 0 ((x1 : Int) * 256)) x0 = ((x0 + 256 * x1 : Nat) : Int) := by
  rw [or_zero _ (by omega) (by omega), or_add 8 256 _ _ rfl (by omega) (by omega) (by omega) (by omega) (by omega)]
  omega
theorem or4 (x0 x1 x2 x3 : Nat) (b0 : x0 < 256) (b1 : x1 < 256) (b2 : x2 < 256) (b3 : x3 < 256) :
    bits .or .u64 (bits .or .u64 (bits .or .u64 0 (bits .or .u64 ((x3 : Int) * 16777216) ((x2 : Int) * 65536))) ((x1 : Int) * 256)) x0 = ((x0 + 256 * (x1 + 256 * (x2 + 256 * x3)) : Nat) : Int) := by
  rw [or_add 24 16777216 ((x3 : Int) * 16777216) _ rfl (by omega) (by omega) (by omega) (by omega) (by omega), or_zero _ (by omega) (by omega),
    or_add 16 65536 _ ((x1 : Int) * 256) rfl (by omega) (by omega) (by omega) (by omega) (by omega), or_add 8 256 _ (x0 : Int) rfl (by omega) (by omega) (by omega) (by omega) (by omega)]
  omega
theorem or8 (x0 x1 x2 x3 x4 x5 x6 x7 : Nat) (b0 : x0 < 256) (b1 : x1 < 256) (b2 : x2 < 256) (b3 : x3 < 256) (b4 : x4 < 256) (b5 : x5 < 256) (b6 : x6 < 256) (b7 : x7 < 256) :
    bits .or .u64 (bits .or .u64 (bits .or .u64 (bits .or .u64 0 (bits .or .u64 (bits .or .u64 (bits .or .u64 ((x7 : Int) * 72057594037927936) ((x6 : Int) * 281474976710656)) ((x5 : Int) * 1099511627776)) ((x4 : Int) * 4294967296)))
      (bits .or .u64 ((x3 : Int) * 16777216) ((x2 : Int) * 65536))) ((x1 : Int) * 256)) x0 = ((x0 + 256 * (x1 + 256 * (x2 + 256 * (x3 + 256 * (x4 + 256 * (x5 + 256 * (x6 + 256 * x7)))))) : Nat) : Int) := by
  rw [or_add 56 72057594037927936 ((x7 : Int) * 72057594037927936) _ rfl (by omega) (by omega) (by omega) (by omega) (by omega),
    or_add 48 281474976710656 _ ((x5 : Int) * 1099511627776) rfl (by omega) (by omega) (by omega) (by omega) (by omega),
    or_add 40 1099511627776 _ ((x4 : Int) * 4294967296) rfl (by omega) (by omega) (by omega) (by omega) (by omega), or_zero _ (by omega) (by omega),
    or_add 24 16777216 ((x3 : Int) * 16777216) _ rfl (by omega) (by omega) (by omega) (by omega) (by omega),
    or_add 32 4294967296 _ ((x3 : Int) * 16777216 + _) rfl (by omega) (by omega) (by omega) (by omega) (by omega),
    or_add 16 65536 _ ((x1 : Int) * 256) rfl (by omega) (by omega) (by omega) (by omega) (by omega), or_add 8 256 _ (x0 : Int) rfl (by omega) (by omega) (by omega) (by omega) (by omega)]
  omega
end Go.Proofs.Ytogbcknpnelbgaa
