/-
  The rounds' sums, as a walk spells them.
-/
import Derived.Test.YtfcffafmcihamaaDoorShaN
import Derived.Laws.BitsAllLaws
namespace Go.Proofs.YtfcffafmcihamaaDoor

theorem xlt {a b : Nat} (ha : a < 4294967296) (hb : b < 4294967296) : a ^^^ b < 4294967296 := Nat.xor_lt_two_pow (n := 32) ha hb
theorem alt {a b : Nat} (hb : b < 4294967296) : a &&& b < 4294967296 := Nat.and_lt_two_pow (n := 32) a hb
theorem big1_int (e : Nat) (he : e < 4294967296) : bits .xor .u32 (bits .xor .u32 ((rotr 6 e : Nat) : Int) ((rotr 11 e : Nat) : Int)) ((rotr 25 e : Nat) : Int) = ((big1 e : Nat) : Int) := by
  rw [u32_xor_nat _ _ (rotr_lt 6 e he) (rotr_lt 11 e he), u32_xor_nat _ _ (xlt (rotr_lt 6 e he) (rotr_lt 11 e he)) (rotr_lt 25 e he)]
  rfl
theorem big0_int (e : Nat) (he : e < 4294967296) : bits .xor .u32 (bits .xor .u32 ((rotr 2 e : Nat) : Int) ((rotr 13 e : Nat) : Int)) ((rotr 22 e : Nat) : Int) = ((big0 e : Nat) : Int) := by
  rw [u32_xor_nat _ _ (rotr_lt 2 e he) (rotr_lt 13 e he), u32_xor_nat _ _ (xlt (rotr_lt 2 e he) (rotr_lt 13 e he)) (rotr_lt 22 e he)]
  rfl
theorem n32 {a : Nat} (ha : a < 4294967296) : 4294967295 ^^^ a = 4294967295 - a := by
  have h : 4294967295 - a = 2 ^ 32 - (a + 1) := by omega
  rw [h]
  apply Nat.eq_of_testBit_eq
  intro i
  rw [Nat.testBit_xor, Nat.testBit_two_pow_sub_succ (n := 32) ha, show (4294967295 : Nat) = 2 ^ 32 - 1 from rfl, Nat.testBit_two_pow_sub_one]
  by_cases hi : i < 32
  · simp [hi]
  · have : a.testBit i = false := Nat.testBit_lt_two_pow (Nat.lt_of_lt_of_le (show a < 2 ^ 32 from ha) (Nat.pow_le_pow_right (by omega) (by omega)))
    simp [hi, this]
theorem ch_int (e f g : Nat) (he : e < 4294967296) (hf : f < 4294967296) (hg : g < 4294967296) :
    bits .xor .u32 (bits .and .u32 (e : Int) (f : Int)) (bits .and .u32 (bits .xor .u32 (if IntKind.u32.signed = true then -1 else IntKind.u32.max) (e : Int)) (g : Int)) = (((e &&& f) ^^^ ((4294967295 - e) &&& g) : Nat) : Int) := by
  have hm : (if IntKind.u32.signed = true then (-1 : Int) else IntKind.u32.max) = ((4294967295 : Nat) : Int) := by decide +kernel
  rw [hm, u32_xor_nat 4294967295 e (by omega) he, n32 he, u32_and_nat _ _ he hf, u32_and_nat _ _ (by omega) hg, u32_xor_nat _ _ (alt hf) (alt hg)]
theorem ch_int' (e f g : Nat) (he : e < 4294967296) (hf : f < 4294967296) (hg : g < 4294967296) :
    bits .xor .u32 (bits .and .u32 (e : Int) (f : Int)) (bits .and .u32 (4294967295 - (e : Int)) (g : Int)) = (((e &&& f) ^^^ ((4294967295 - e) &&& g) : Nat) : Int) := by
  have hm : (4294967295 - (e : Int)) = ((4294967295 - e : Nat) : Int) := by omega
  rw [hm, u32_and_nat _ _ he hf, u32_and_nat _ _ (by omega) hg, u32_xor_nat _ _ (alt hf) (alt hg)]
theorem maj_int (a b c : Nat) (ha : a < 4294967296) (hb : b < 4294967296) (hc : c < 4294967296) :
    bits .xor .u32 (bits .xor .u32 (bits .and .u32 (a : Int) (b : Int)) (bits .and .u32 (a : Int) (c : Int))) (bits .and .u32 (b : Int) (c : Int)) = ((((a &&& b) ^^^ (a &&& c)) ^^^ (b &&& c) : Nat) : Int) := by
  rw [u32_and_nat _ _ ha hb, u32_and_nat _ _ ha hc, u32_and_nat _ _ hb hc, u32_xor_nat _ _ (alt hb) (alt hc), u32_xor_nat _ _ (xlt (alt hb) (alt hc)) (alt hc)]
theorem t_sum (e f g h k x : Nat) {B C : Int} (hB : B = ((big1 e : Nat) : Int)) (hC : C = (((e &&& f) ^^^ ((4294967295 - e) &&& g) : Nat) : Int)) : ((h : Int) + B + C + (k : Int) + (x : Int)) % 4294967296 = ((tN e f g h k x : Nat) : Int) := by
  subst hB hC
  unfold tN
  generalize ((e &&& f) ^^^ ((4294967295 - e) &&& g)) = y
  omega
theorem t_sum2 (e f g h k x : Nat) {B C : Int} (hB : B = ((big1 e : Nat) : Int)) (hC : C = (((e &&& f) ^^^ ((4294967295 - e) &&& g) : Nat) : Int)) : (((h : Int) + B + C + (k : Int)) % 4294967296 + (x : Int)) % 4294967296 = ((tN e f g h k x : Nat) : Int) := by
  rw [← t_sum e f g h k x hB hC]
  omega
theorem u_sum (a b c : Nat) {B C : Int} (hB : B = ((big0 a : Nat) : Int)) (hC : C = ((((a &&& b) ^^^ (a &&& c)) ^^^ (b &&& c) : Nat) : Int)) : (B + C) % 4294967296 = ((uN a b c : Nat) : Int) := by
  subst hB hC
  unfold uN
  generalize (((a &&& b) ^^^ (a &&& c)) ^^^ (b &&& c)) = y
  omega
end Go.Proofs.YtfcffafmcihamaaDoor
