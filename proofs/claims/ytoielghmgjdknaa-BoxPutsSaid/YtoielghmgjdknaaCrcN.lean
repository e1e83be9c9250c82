/-
  Plain: a register of 32 bits that bytes are moved through.
-/
import Derived.Test.YtoielghmgjdknaaLe
namespace Go.Proofs.Ytoielghmgjdknaa

/-- One turn: down by a bit; the bit that went out turns the rest. -/
def turn (r : Nat) : Nat := r / 2 ^^^ (if r % 2 = 1 then 2197175160 else 0)
def turnN : Nat → Nat → Nat
  | 0, r => r
  | k + 1, r => turn (turnN k r)
/-- The register behind a byte, and behind bytes. -/
def upd (r : Nat) (x : UInt8) : Nat := turnN 8 (r ^^^ x.toNat)
def reg (r : Nat) (l : List UInt8) : Nat := l.foldl upd r
def sumN (l : List UInt8) : Nat := 4294967295 - reg 4294967295 l

theorem xor_lt {a b : Nat} (ha : a < 4294967296) (hb : b < 4294967296) : a ^^^ b < 4294967296 := Nat.xor_lt_two_pow (n := 32) ha hb
theorem not32 {a : Nat} (ha : a < 4294967296) : 4294967295 ^^^ a = 4294967295 - a := by
  have h : 4294967295 - a = 2 ^ 32 - (a + 1) := by omega
  rw [h]
  apply Nat.eq_of_testBit_eq
  intro i
  rw [Nat.testBit_xor, Nat.testBit_two_pow_sub_succ (n := 32) ha, show (4294967295 : Nat) = 2 ^ 32 - 1 from rfl, Nat.testBit_two_pow_sub_one]
  by_cases hi : i < 32
  · simp [hi]
  · have : a.testBit i = false := Nat.testBit_lt_two_pow (Nat.lt_of_lt_of_le (show a < 2 ^ 32 from ha) (Nat.pow_le_pow_right (by omega) (by omega)))
    simp [hi, this]

theorem xor_mod2 (a b : Nat) : (a ^^^ b) % 2 = (a % 2 + b % 2) % 2 := by
  have h : ∀ n : Nat, n % 2 = (n.testBit 0).toNat := by
    intro n
    rw [Nat.testBit_zero]
    rcases Nat.mod_two_eq_zero_or_one n with h | h <;> rw [h] <;> rfl
  rw [h, h a, h b, Nat.testBit_xor]
  cases a.testBit 0 <;> cases b.testBit 0 <;> rfl
theorem xor_div2 (a b : Nat) : (a ^^^ b) / 2 = a / 2 ^^^ b / 2 := by
  have := Nat.shiftRight_xor_distrib (a := a) (b := b) (i := 1)
  simpa [Nat.shiftRight_succ] using this

theorem turn_lt {r : Nat} (h : r < 4294967296) : turn r < 4294967296 := by
  unfold turn
  exact xor_lt (by omega) (by split <;> omega)
theorem turn_xor (a b : Nat) : turn (a ^^^ b) = turn a ^^^ turn b := by
  unfold turn
  rw [xor_div2, xor_mod2]
  rcases Nat.mod_two_eq_zero_or_one a with ha | ha <;> rcases Nat.mod_two_eq_zero_or_one b with hb | hb <;> rw [ha, hb]
  · simp
  · simp [Nat.xor_assoc]
  · simp only [if_true, if_neg (show ¬ (0 : Nat) = 1 by omega)]
    simp only [Nat.xor_zero]
    rw [Nat.xor_assoc, Nat.xor_assoc, Nat.xor_comm (b / 2)]
  · simp only [if_true]
    rw [show (1 + 1) % 2 = 0 from rfl, if_neg (by omega), Nat.xor_zero]
    rw [Nat.xor_assoc, ← Nat.xor_assoc 2197175160, Nat.xor_comm 2197175160 (b / 2), Nat.xor_assoc, Nat.xor_self, Nat.xor_zero]
theorem turn_zero {r : Nat} (h : r < 4294967296) (ht : turn r = 0) : r = 0 := by
  unfold turn at ht
  rcases Nat.mod_two_eq_zero_or_one r with hr | hr <;> rw [hr] at ht
  · simp at ht; omega
  · simp only [if_true] at ht
    have : r / 2 = 2197175160 := by
      have h1 : r / 2 ^^^ 2197175160 ^^^ 2197175160 = 0 ^^^ 2197175160 := by rw [ht]
      rwa [Nat.xor_assoc, Nat.xor_self, Nat.xor_zero, Nat.zero_xor] at h1
    omega
theorem turn_inj {a b : Nat} (ha : a < 4294967296) (hb : b < 4294967296) (h : turn a = turn b) : a = b := by
  have h1 : turn (a ^^^ b) = 0 := by rw [turn_xor, h, Nat.xor_self]
  have h2 := turn_zero (xor_lt ha hb) h1
  have h3 : a ^^^ b ^^^ b = 0 ^^^ b := by rw [h2]
  rwa [Nat.xor_assoc, Nat.xor_self, Nat.xor_zero, Nat.zero_xor] at h3
theorem turn_even (y : Nat) : turn (2 * y) = y := by
  unfold turn
  rw [if_neg (by omega), Nat.xor_zero]
  omega

theorem turnN_lt {r : Nat} (k : Nat) (h : r < 4294967296) : turnN k r < 4294967296 := by
  induction k with
  | zero => exact h
  | succ k ih => exact turn_lt ih
theorem turnN_xor (k a b : Nat) : turnN k (a ^^^ b) = turnN k a ^^^ turnN k b := by
  induction k with
  | zero => rfl
  | succ k ih => simp only [turnN, ih, turn_xor]
theorem turnN_inj (k : Nat) {a b : Nat} (ha : a < 4294967296) (hb : b < 4294967296) (h : turnN k a = turnN k b) : a = b := by
  induction k with
  | zero => exact h
  | succ k ih => exact ih (turn_inj (turnN_lt k ha) (turnN_lt k hb) h)
theorem turnN_add (j k r : Nat) : turnN (j + k) r = turnN j (turnN k r) := by
  induction j with
  | zero => simp [turnN]
  | succ j ih => rw [Nat.add_right_comm]; simp only [turnN, ih]
theorem turnN_8 (y : Nat) : turnN 8 (256 * y) = y := by
  have e : 256 * y = 2 * (2 * (2 * (2 * (2 * (2 * (2 * (2 * y))))))) := by omega
  rw [e]
  simp only [turnN, turn_even]
theorem low_xor (x : Nat) (y : Nat) (h : x < 256) : x + 256 * y = x ^^^ 256 * y := by
  rw [Nat.add_comm, Nat.xor_comm]
  have h1 : 256 * y + x = 256 * y ||| x := by
    have := Nat.two_pow_add_eq_or_of_lt (i := 8) h y
    simpa using this
  rw [h1]
  apply Nat.eq_of_testBit_eq
  intro i
  rw [Nat.testBit_or, Nat.testBit_xor]
  by_cases hi : i < 8
  · have : (256 * y).testBit i = false := by
      have := Nat.testBit_two_pow_mul (i := 8) (a := y) (j := i)
      simp only [show (2 : Nat) ^ 8 = 256 from rfl] at this
      rw [this]
      simp; omega
    simp [this]
  · have : x.testBit i = false := Nat.testBit_lt_two_pow (Nat.lt_of_lt_of_le (show x < 2 ^ 8 from h) (Nat.pow_le_pow_right (by omega) (by omega)))
    simp [this]

theorem upd_lt {r : Nat} (x : UInt8) (h : r < 4294967296) : upd r x < 4294967296 := turnN_lt 8 (xor_lt h (by have := x.toNat_lt; omega))
theorem reg_lt {r : Nat} (l : List UInt8) (h : r < 4294967296) : reg r l < 4294967296 := by
  induction l generalizing r with
  | nil => exact h
  | cons x l ih => exact ih (upd_lt x h)
theorem reg_app (r : Nat) (a b : List UInt8) : reg r (a ++ b) = reg (reg r a) b := List.foldl_append
theorem reg_snoc (r : Nat) (a : List UInt8) (x : UInt8) : reg r (a ++ [x]) = upd (reg r a) x := by rw [reg_app]; rfl
theorem reg_inj (l : List UInt8) {a b : Nat} (ha : a < 4294967296) (hb : b < 4294967296) (h : reg a l = reg b l) : a = b := by
  induction l generalizing a b with
  | nil => exact h
  | cons x l ih =>
    have h1 := ih (upd_lt x ha) (upd_lt x hb) h
    have h2 := turnN_inj 8 (xor_lt ha (by have := x.toNat_lt; omega)) (xor_lt hb (by have := x.toNat_lt; omega)) h1
    have h3 : a ^^^ x.toNat ^^^ x.toNat = b ^^^ x.toNat ^^^ x.toNat := by rw [h2]
    rwa [Nat.xor_assoc, Nat.xor_assoc, Nat.xor_self, Nat.xor_zero, Nat.xor_zero] at h3
/-- All bytes at once. -/
theorem reg_all (r : Nat) (l : List UInt8) : reg r l = turnN (8 * l.length) (r ^^^ leV l) := by
  induction l generalizing r with
  | nil => simp [reg, leV, turnN]
  | cons x l ih =>
    have e : reg r (x :: l) = reg (upd r x) l := rfl
    rw [e, ih, leV, low_xor _ _ x.toNat_lt, ← Nat.xor_assoc, List.length_cons, Nat.mul_add, turnN_add, turnN_xor 8, turnN_8]
    rfl

theorem leV_inj {a b : List UInt8} (h : a.length = b.length) (e : leV a = leV b) : a = b := by
  rw [← leB_leV a, ← leB_leV b, h, e]

theorem sumN_lt (l : List UInt8) : sumN l ≤ 4294967295 := Nat.sub_le _ _
/-- The register behind bytes, and their sum, is always the same one. -/
theorem reg_sealed (b q : List UInt8) (hq : q.length = 4) (h : leV q = sumN b) : reg 4294967295 (b ++ q) = turnN 32 4294967295 := by
  have hl := reg_lt b (show 4294967295 < 4294967296 by omega)
  rw [reg_app, reg_all, hq, h, sumN, ← not32 hl, Nat.xor_comm 4294967295, ← Nat.xor_assoc, Nat.xor_self, Nat.zero_xor]
/-- Four bytes that are others lead to another register. -/
theorem reg_spoilt (p m m' q : List UInt8) (hm : m.length = 4) (hm' : m'.length = 4) (h : reg 4294967295 (p ++ m ++ q) = reg 4294967295 (p ++ m' ++ q)) : m = m' := by
  have hl := reg_lt p (show 4294967295 < 4294967296 by omega)
  rw [reg_app, reg_app _ (p ++ m'), reg_app, reg_app _ p m'] at h
  have h1 := reg_inj q (reg_lt m hl) (reg_lt m' hl) h
  have b1 := leV_lt m
  have b2 := leV_lt m'
  rw [hm] at b1
  rw [hm'] at b2
  rw [reg_all, reg_all _ m', hm, hm'] at h1
  have h2 := turnN_inj _ (xor_lt hl b1) (xor_lt hl b2) h1
  refine leV_inj (by rw [hm, hm']) ?_
  have h3 : reg 4294967295 p ^^^ (reg 4294967295 p ^^^ leV m) = reg 4294967295 p ^^^ (reg 4294967295 p ^^^ leV m') := by rw [h2]
  rwa [← Nat.xor_assoc, ← Nat.xor_assoc, Nat.xor_self, Nat.zero_xor, Nat.zero_xor] at h3
end Go.Proofs.Ytoielghmgjdknaa
