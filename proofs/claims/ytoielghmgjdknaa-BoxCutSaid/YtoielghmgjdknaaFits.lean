import Derived.Test.YtoielghmgjdknaaRef01
import Derived.Test.YtoielghmgjdknaaOct1
namespace Go.Proofs.Ytoielghmgjdknaa
open Go.RowKit
set_option linter.unusedVariables false

def fitB (k : Int) (n : Nat) : Bool := isW k && decide (n < 256 ^ k.toNat)

theorem fit_eq (k n : Nat) (h : isW k = true) : (((leV (leB k n) : Nat) : Int) == (n : Int)) = fitB k n := by
  rw [leV_leB]
  unfold fitB
  rw [h, Bool.true_and, Int.toNat_natCast, Bool.eq_iff_iff]
  have hp : 0 < 256 ^ k := Nat.pow_pos (by omega)
  simp only [beq_iff_eq, decide_eq_true_eq]
  constructor
  · intro e
    have := Nat.mod_lt n hp
    omega
  · intro hlt
    rw [Nat.mod_eq_of_lt hlt]

end Go.Proofs.Ytoielghmgjdknaa
