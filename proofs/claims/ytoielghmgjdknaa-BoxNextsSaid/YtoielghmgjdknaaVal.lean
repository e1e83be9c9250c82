/-
  Plain: bytes put together by shifts and ors.
-/
import Derived.Laws.BitsAllLaws
import Derived.WalkKit
import Derived.Test.YtoielghmgjdknaaRef01
namespace Go.Proofs.Ytoielghmgjdknaa

theorem or_sum (k : Nat) (a b : Nat) (ha : 2 ^ k * (a / 2 ^ k) = a) (hb : b < 2 ^ k) (h : a + b < 18446744073709551616) : bits .or .u64 (a : Int) (b : Int) = ((a + b : Nat) : Int) := by
  rw [u64_or_nat a b (by omega) (by omega)]
  have := Nat.two_pow_add_eq_or_of_lt hb (a / 2 ^ k)
  rw [ha] at this
  rw [this]
/-- Bits that do not meet: 'or' is the sum. -/
theorem or_add (k : Nat) (P a b : Int) (hP : P = ((2 ^ k : Nat) : Int)) (h0 : 0 ≤ a) (h1 : 0 ≤ b) (ha : a % P = 0) (hb : b < P) (h : a + b < 18446744073709551616) : bits .or .u64 a b = a + b := by
  obtain ⟨a, rfl⟩ := Int.eq_ofNat_of_zero_le h0
  obtain ⟨b, rfl⟩ := Int.eq_ofNat_of_zero_le h1
  subst hP
  rw [or_sum k a b (Nat.mul_div_cancel' (Nat.dvd_of_mod_eq_zero (by exact_mod_cast ha))) (by exact_mod_cast hb) (by omega)]
  omega
theorem or_zero (b : Int) (h0 : 0 ≤ b) (h : b < 18446744073709551616) : bits .or .u64 0 b = b := by
  obtain ⟨b, rfl⟩ := Int.eq_ofNat_of_zero_le h0
  have := u64_or_nat 0 b (by omega) (by omega)
  simpa using this

theorem or2 (x0 x1 : Nat) (b0 : x0 < 256) (b1 : x1 < 256) : bits .or .u64 (bits .or .u64 0 ((x1 : Int) * 256)) x0 = ((x0 + 256 * x1 : Nat) : Int) := by
  rw [or_zero _ (by omega) (by omega), or_add 8 256 _ _ rfl (by omega) (by omega) (by omega) (by omega) (by omega)]
  omega
theorem or4 (x0 x1 x2 x3 : Nat) (b0 : x0 < 256) (b1 : x1 < 256) (b2 : x2 < 256) (b3 : x3 < 256) :
    bits .or .u64 (bits .or .u64 (bits .or .u64 0 (bits .or .u64 ((x3 : Int) * 16777216) ((x2 : Int) * 65536))) ((x1 : Int) * 256)) x0 = ((x0 + 256 * (x1 + 256 * (x2 + 256 * x3)) : Nat) : Int) := by
  rw [or_add 24 16777216 ((x3 : Int) * 16777216) _ rfl (by omega) (by omega) (by omega) (by omega) (by omega), or_zero _ (by omega) (by omega),
    or_add 16 65536 _ ((x1 : Int) * 256) rfl (by omega) (by omega) (by omega) (by omega) (by omega), or_add 8 256 _ (x0 : Int) rfl (by omega) (by omega) (by omega) (by omega) (by omega)]
  omega
theorem or8 (x0 x1 x2 x3 x4 x5 x6 x7 : Nat) (b0 : x0 < 256) (b1 : x1 < 256) (b2 : x2 < 256) (b3 : x3 < 256) (b4 : x4 < 256) (b5 : x5 < 256) (b6 : x6 < 256) (b7 : x7 < 256) :
    bits .or .u64 (bits .or .u64 (bits .or .u64 (bits .or .u64 0 (bits .or .u64 (bits .or .u64 (bits .or .u64 ((x7 : Int) * 72057594037927936) ((x6 : Int) * 281474976710656)) ((x5 : Int) * 1099511627776)) ((x4 : Int) * 4294967296)))
      (bits .or .u64 ((x3 : Int) * 16777216) ((x2 : Int) * 65536))) ((x1 : Int) * 256)) x0 = ((x0 + 256 * (x1 + 256 * (x2 + 256 * (x3 + 256 * (x4 + 256 * (x5 + 256 * (x6 + 256 * x7)))))) : Nat) : Int) := by
  rw [or_add 56 72057594037927936 ((x7 : Int) * 72057594037927936) _ rfl (by omega) (by omega) (by omega) (by omega) (by omega),
    or_add 48 281474976710656 _ ((x5 : Int) * 1099511627776) rfl (by omega) (by omega) (by omega) (by omega) (by omega),
    or_add 40 1099511627776 _ ((x4 : Int) * 4294967296) rfl (by omega) (by omega) (by omega) (by omega) (by omega), or_zero _ (by omega) (by omega),
    or_add 24 16777216 ((x3 : Int) * 16777216) _ rfl (by omega) (by omega) (by omega) (by omega) (by omega),
    or_add 32 4294967296 _ ((x3 : Int) * 16777216 + _) rfl (by omega) (by omega) (by omega) (by omega) (by omega),
    or_add 16 65536 _ ((x1 : Int) * 256) rfl (by omega) (by omega) (by omega) (by omega) (by omega), or_add 8 256 _ (x0 : Int) rfl (by omega) (by omega) (by omega) (by omega) (by omega)]
  omega
end Go.Proofs.Ytoielghmgjdknaa

namespace Go.Proofs.Ytoielghmgjdknaa
open Go.RowKit
set_option linter.unusedVariables false
set_option linter.unusedVariables false

set_option maxHeartbeats 1000000 in
theorem value_1 (b o c : Nat) (x0 : Nat) (w : World) (h0 : w.cell? ⟨b, o, none⟩ = some (.int .u8 x0))
  (b0 : x0 < 256) :
    Calls Try.prog 36 #[.slice (some ⟨b, o, none⟩) 1 c] w fun e w' => e = .returned (.int .u64 ((x0 : Nat) : Int)) ∧ ∃ n, w' = w.drewN n := by
  have HF := Lib.hid (or_zero (x0 : Int) (by omega) (by omega))
  go_enter Try.func36, Try.ntmps36
  go_wp2
  go_ret
  exact ⟨congrArg (fun z => Ending.returned (.int .u64 z)) HF.out, 0, rfl⟩

set_option maxHeartbeats 1000000 in
theorem value_2 (b o c : Nat) (x0 x1 : Nat) (w : World) (h0 : w.cell? ⟨b, o, none⟩ = some (.int .u8 x0))
  (h1 : w.cell? ⟨b, o + 1, none⟩ = some (.int .u8 x1))
  (b0 : x0 < 256) (b1 : x1 < 256) :
    Calls Try.prog 36 #[.slice (some ⟨b, o, none⟩) 2 c] w fun e w' => e = .returned (.int .u64 ((x0 + 256 * x1 : Nat) : Int)) ∧ ∃ n, w' = w.drewN n := by
  have HF := Lib.hid (or2 x0 x1 b0 b1)
  go_enter Try.func36, Try.ntmps36
  go_wp2
  go_ret
  exact ⟨congrArg (fun z => Ending.returned (.int .u64 z)) HF.out, 0, rfl⟩

set_option maxHeartbeats 1000000 in
theorem value_4 (b o c : Nat) (x0 x1 x2 x3 : Nat) (w : World) (h0 : w.cell? ⟨b, o, none⟩ = some (.int .u8 x0))
  (h1 : w.cell? ⟨b, o + 1, none⟩ = some (.int .u8 x1))
  (h2 : w.cell? ⟨b, o + 2, none⟩ = some (.int .u8 x2))
  (h3 : w.cell? ⟨b, o + 3, none⟩ = some (.int .u8 x3))
  (b0 : x0 < 256) (b1 : x1 < 256) (b2 : x2 < 256) (b3 : x3 < 256) :
    Calls Try.prog 36 #[.slice (some ⟨b, o, none⟩) 4 c] w fun e w' => e = .returned (.int .u64 ((x0 + 256 * (x1 + 256 * (x2 + 256 * x3)) : Nat) : Int)) ∧ ∃ n, w' = w.drewN n := by
  have HF := Lib.hid (or4 x0 x1 x2 x3 b0 b1 b2 b3)
  go_enter Try.func36, Try.ntmps36
  go_wp2
  go_quiet (fail)
  go_wp2
  go_ret
  exact ⟨congrArg (fun z => Ending.returned (.int .u64 z)) HF.out, _, rfl⟩

set_option maxHeartbeats 1000000 in
theorem value_8 (b o c : Nat) (x0 x1 x2 x3 x4 x5 x6 x7 : Nat) (w : World) (h0 : w.cell? ⟨b, o, none⟩ = some (.int .u8 x0))
  (h1 : w.cell? ⟨b, o + 1, none⟩ = some (.int .u8 x1))
  (h2 : w.cell? ⟨b, o + 2, none⟩ = some (.int .u8 x2))
  (h3 : w.cell? ⟨b, o + 3, none⟩ = some (.int .u8 x3))
  (h4 : w.cell? ⟨b, o + 4, none⟩ = some (.int .u8 x4))
  (h5 : w.cell? ⟨b, o + 5, none⟩ = some (.int .u8 x5))
  (h6 : w.cell? ⟨b, o + 6, none⟩ = some (.int .u8 x6))
  (h7 : w.cell? ⟨b, o + 7, none⟩ = some (.int .u8 x7))
  (b0 : x0 < 256) (b1 : x1 < 256) (b2 : x2 < 256) (b3 : x3 < 256) (b4 : x4 < 256) (b5 : x5 < 256) (b6 : x6 < 256) (b7 : x7 < 256) :
    Calls Try.prog 36 #[.slice (some ⟨b, o, none⟩) 8 c] w fun e w' => e = .returned (.int .u64 ((x0 + 256 * (x1 + 256 * (x2 + 256 * (x3 + 256 * (x4 + 256 * (x5 + 256 * (x6 + 256 * x7)))))) : Nat) : Int)) ∧ ∃ n, w' = w.drewN n := by
  have HF := Lib.hid (or8 x0 x1 x2 x3 x4 x5 x6 x7 b0 b1 b2 b3 b4 b5 b6 b7)
  go_enter Try.func36, Try.ntmps36
  go_wp2
  go_quiet (fail)
  go_wp2
  go_quiet (fail)
  go_wp2
  go_ret
  exact ⟨congrArg (fun z => Ending.returned (.int .u64 z)) HF.out, _, rfl⟩

set_option maxHeartbeats 400000 in
theorem value_0 (A : Option Addr) (c : Nat) (w : World) : Calls Try.prog 36 #[.slice A 0 c] w fun e w' => e = .returned (.int .u64 ((0 : Nat) : Int)) ∧ ∃ n, w' = w.drewN n := by
  go_enter Try.func36, Try.ntmps36
  go_wp2
  go_ret
  exact ⟨rfl, 0, rfl⟩

/-- octet.value, of no bytes, or of a width. -/
theorem value_any (A : Option Addr) (n c : Nat) (l : List UInt8) (B : Nat) (w : World) (hn : l.length = n) (h : Bs w B A l) (hl : n = 0 ∨ n = 1 ∨ n = 2 ∨ n = 4 ∨ n = 8) :
    Calls Try.prog 36 #[.slice A n c] w fun e w' => e = .returned (.int .u64 ((leV l : Nat) : Int)) ∧ ∃ n, w' = w.drewN n := by
  subst hn
  rcases hl with hl | hl | hl | hl | hl
  · obtain rfl : l = [] := List.eq_nil_of_length_eq_zero hl
    exact value_0 A c w
  · match l, hl with
    | [x0], _ =>
      obtain ⟨b, o, rfl, -, hc⟩ := h.at_ (by simp)
      exact value_1 b o c x0.toNat w (hc 0 (by simp)) x0.toNat_lt
  · match l, hl with
    | [x0, x1], _ =>
      obtain ⟨b, o, rfl, -, hc⟩ := h.at_ (by simp)
      exact value_2 b o c x0.toNat x1.toNat w (hc 0 (by simp)) (hc 1 (by simp)) x0.toNat_lt x1.toNat_lt
  · match l, hl with
    | [x0, x1, x2, x3], _ =>
      obtain ⟨b, o, rfl, -, hc⟩ := h.at_ (by simp)
      exact value_4 b o c x0.toNat x1.toNat x2.toNat x3.toNat w (hc 0 (by simp)) (hc 1 (by simp)) (hc 2 (by simp)) (hc 3 (by simp)) x0.toNat_lt x1.toNat_lt x2.toNat_lt x3.toNat_lt
  · match l, hl with
    | [x0, x1, x2, x3, x4, x5, x6, x7], _ =>
      obtain ⟨b, o, rfl, -, hc⟩ := h.at_ (by simp)
      exact value_8 b o c x0.toNat x1.toNat x2.toNat x3.toNat x4.toNat x5.toNat x6.toNat x7.toNat w (hc 0 (by simp)) (hc 1 (by simp)) (hc 2 (by simp)) (hc 3 (by simp)) (hc 4 (by simp)) (hc 5 (by simp)) (hc 6 (by simp)) (hc 7 (by simp)) x0.toNat_lt x1.toNat_lt x2.toNat_lt x3.toNat_lt x4.toNat_lt x5.toNat_lt x6.toNat_lt x7.toNat_lt
end Go.Proofs.Ytoielghmgjdknaa
