/-
  Plain: numbers as bytes, the lowest first.
-/
import Derived.WalkKit
namespace Go.Proofs.Ytoielghmgjdknaa

def leB : Nat → Nat → List UInt8
  | 0, _ => []
  | w + 1, n => UInt8.ofNat (n % 256) :: leB w (n / 256)
def leV : List UInt8 → Nat
  | [] => 0
  | x :: r => x.toNat + 256 * leV r

@[simp] theorem leB_length (w n : Nat) : (leB w n).length = w := by
  induction w generalizing n with
  | zero => rfl
  | succ w ih => simp [leB, ih]
theorem leB_snoc (w n : Nat) : leB (w + 1) n = leB w n ++ [UInt8.ofNat (n / 256 ^ w % 256)] := by
  induction w generalizing n with
  | zero => simp [leB]
  | succ w ih =>
    rw [leB, ih, leB, List.cons_append, Nat.div_div_eq_div_mul, Nat.pow_succ, Nat.mul_comm 256]
theorem leV_leB (w n : Nat) : leV (leB w n) = n % 256 ^ w := by
  induction w generalizing n with
  | zero => simp [leB, leV, Nat.mod_one]
  | succ w ih =>
    simp only [leB, leV, ih]
    rw [show (UInt8.ofNat (n % 256)).toNat = n % 256 by simp]
    rw [Nat.pow_succ, Nat.mul_comm (256 ^ w) 256, Nat.mod_mul]
theorem leV_lt (l : List UInt8) : leV l < 256 ^ l.length := by
  induction l with
  | nil => simp [leV]
  | cons x r ih =>
    simp only [leV, List.length_cons, Nat.pow_succ]
    have := x.toNat_lt
    omega
theorem leV_drop (l : List UInt8) (j : Nat) (h : j < l.length) : leV (l.drop j) = l[j].toNat + 256 * leV (l.drop (j + 1)) := by
  rw [List.drop_eq_getElem_cons h, leV]
theorem leB_leV (l : List UInt8) : leB l.length (leV l) = l := by
  induction l with
  | nil => rfl
  | cons x r ih =>
    have hx : x.toNat < 256 := x.toNat_lt
    simp only [List.length_cons, leB, leV]
    have e1 : (x.toNat + 256 * leV r) % 256 = x.toNat := by omega
    have e2 : (x.toNat + 256 * leV r) / 256 = leV r := by omega
    rw [e1, e2, ih]
    simp
end Go.Proofs.Ytoielghmgjdknaa
