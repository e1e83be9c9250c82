/-
  Package taximeterref01: contracts.
-/
import Derived.Test.YtjdjidlopmanbaaMem
import Derived.Test.YtjdjidlopmanbaaLe
import Derived.Test.YtjdjidlopmanbaaSame
namespace Go.Proofs.Ytjdjidlopmanbaa
open Go.RowKit
set_option linter.unusedVariables false

theorem u8E : Elem Try.prog 41 5 (.int .u8 0) 1 := Elem.mk' Try.underlying41 (by kernel_rfl) rfl

theorem bv_mod (q : Nat) : Value.int .u8 ((q : Int) % 256) = bv (UInt8.ofNat (q % 256)) := by
  unfold bv
  simp
theorem own_step {w : World} {B : Nat} {e : TypeId} {v : Value} {j n q : Nat} (hq : q = n / 256 ^ j) (h : Own w B e v (List.map bv (leB j n) ++ [Value.int .u8 ((q : Int) % 256)])) : Own w B e v ((leB (j + 1) n).map bv) := by
  rw [leB_snoc, List.map_append, ← hq]
  rwa [bv_mod] at h

end Go.Proofs.Ytjdjidlopmanbaa
