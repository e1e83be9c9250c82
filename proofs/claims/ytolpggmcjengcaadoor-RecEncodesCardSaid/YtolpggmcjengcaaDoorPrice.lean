/-
  Package price: Over, Add, and the reference's Add; math/bits.Len64 and LeadingZeros64.
-/
import Derived.Test.YtolpggmcjengcaaDoorMem
import Derived.Test.YtolpggmcjengcaaDoorPriceN
import Derived.Test.YtolpggmcjengcaaDoorMul64
import Derived.Lib.Tables
import Derived.Lib.BitFns
namespace Go.Proofs.YtolpggmcjengcaaDoor
open Go.RowKit
set_option linter.unusedVariables false

def overB (a b : Nat) : Bool := decide (18446744073709551615 < a + b)
def addN (a b : Nat) : Nat := min (a + b) 18446744073709551615

/-- The constant of 256 bytes, as the program's text lays it. -/
@[go_sem ↓ high] theorem fold_len : (⟨(([0, 1, 2, 2, 3, 3, 3, 3, 4, 4, 4, 4, 4, 4, 4, 4, 5, 5, 5, 5, 5, 5, 5, 5, 5, 5, 5, 5, 5, 5, 5, 5, 6, 6, 6, 6, 6, 6, 6, 6, 6, 6, 6, 6, 6, 6, 6, 6, 6, 6, 6, 6, 6, 6, 6, 6, 6, 6, 6, 6, 6, 6, 6, 6].append [7, 7, 7, 7, 7, 7, 7, 7, 7, 7, 7, 7, 7, 7, 7, 7, 7, 7, 7, 7, 7, 7, 7, 7, 7, 7, 7, 7, 7, 7, 7, 7, 7, 7, 7, 7, 7, 7, 7, 7, 7, 7, 7, 7, 7, 7, 7, 7, 7, 7, 7, 7, 7, 7, 7, 7, 7, 7, 7, 7, 7, 7, 7, 7]).append ([8, 8, 8, 8, 8, 8, 8, 8, 8, 8, 8, 8, 8, 8, 8, 8, 8, 8, 8, 8, 8, 8, 8, 8, 8, 8, 8, 8, 8, 8, 8, 8, 8, 8, 8, 8, 8, 8, 8, 8, 8, 8, 8, 8, 8, 8, 8, 8, 8, 8, 8, 8, 8, 8, 8, 8, 8, 8, 8, 8, 8, 8, 8, 8].append [8, 8, 8, 8, 8, 8, 8, 8, 8, 8, 8, 8, 8, 8, 8, 8, 8, 8, 8, 8, 8, 8, 8, 8, 8, 8, 8, 8, 8, 8, 8, 8, 8, 8, 8, 8, 8, 8, 8, 8, 8, 8, 8, 8, 8, 8, 8, 8, 8, 8, 8, 8, 8, 8, 8, 8, 8, 8, 8, 8, 8, 8, 8, 8])).toArray⟩ : ByteArray) = Lib.len8tab := by decide +kernel

theorem tab_get (C : ByteArray) (y : Nat) (h : y < C.size) : ((C[y]?).getD 0).toNat = (C[y]'h).toNat := by rw [getElem?_pos C y h]; rfl
theorem tab8 (y : Nat) (hy : y < 256) : ∃ C : ByteArray, Lib.len8tab = C ∧ ∃ h : y < C.size, (C[y]'h).toNat = Lib.bitLen y := by
  have hs : y < Lib.len8tab.size := by rw [Lib.len8tab_size]; exact hy
  refine ⟨_, rfl, hs, ?_⟩
  have h := Lib.len8_eq ⟨y, hy⟩
  unfold Lib.len8 at h
  rw [Int.toNat_natCast, tab_get _ y hs] at h
  exact Int.ofNat.inj h
theorem len_end (t k : Nat) (ht : t ≤ 8) (hk : k ≤ 56) : wrap64 ((k : Int) + wrap64 (t : Int)) = ((k + t : Nat) : Int) := by unfold wrap64; omega
theorem len_end0 (t : Nat) (ht : t ≤ 8) : wrap64 (wrap64 (t : Int)) = ((0 + t : Nat) : Int) := by unfold wrap64; omega
/-- A number and its length in bits. -/
theorem bitLen_low : ∀ (f x : Nat), x < 2 ^ f → x < 2 ^ Lib.bitLenAux f x
  | 0, x, h => by simpa [Lib.bitLenAux] using h
  | f + 1, x, h => by
    unfold Lib.bitLenAux
    split
    · omega
    · have := bitLen_low f (x / 2) (by rw [Nat.pow_succ] at h; omega)
      rw [Nat.add_comm, Nat.pow_succ]
      omega
theorem bitLen_high : ∀ (f x : Nat), x ≠ 0 → x < 2 ^ f → 2 ^ Lib.bitLenAux f x ≤ 2 * x
  | 0, x, h0, h => by simp at h; omega
  | f + 1, x, h0, h => by
    unfold Lib.bitLenAux
    rw [if_neg h0, Nat.add_comm, Nat.pow_succ]
    by_cases h1 : x / 2 = 0
    · rw [h1]
      have : Lib.bitLenAux f 0 = 0 := by cases f <;> simp [Lib.bitLenAux]
      rw [this]
      omega
    · have := bitLen_high f (x / 2) h1 (by rw [Nat.pow_succ] at h; omega)
      omega
/-- A quiet call's answer: a number; the world drew at most. -/
def Paid (d : Nat) (w : World) (x : Ending) (w' : World) : Prop := x = .returned (.int .u64 (d : Int)) ∧ ∃ q, w' = w.drewN q
theorem shl_end (P k : Nat) (h1 : P * 2 ^ k < 18446744073709551616) : IntKind.u64.wrap ((P : Int) * 2 ^ k) = ((P * 2 ^ k : Nat) : Int) := by
  rw [show (P : Int) * 2 ^ k = ((P * 2 ^ k : Nat) : Int) by norm_cast]
  generalize P * 2 ^ k = X at *
  rw [IntKind.wrap_u64]
  omega
theorem mid_end (H L k j : Nat) (c : Int) (hc : c.toNat = j) (h3 : L / 2 ^ k < 2 ^ j) (h1 : H * 2 ^ j + L / 2 ^ k < 18446744073709551616) :
    bits .or .u64 (IntKind.u64.wrap ((H : Int) * 2 ^ c.toNat)) ((L : Int) / 2 ^ k) = ((H * 2 ^ j + L / 2 ^ k : Nat) : Int) := by
  rw [hc, show (H : Int) * 2 ^ j = ((H * 2 ^ j : Nat) : Int) by norm_cast, show (L : Int) / 2 ^ k = ((L / 2 ^ k : Nat) : Int) by norm_cast, ← or_up H (L / 2 ^ k) j h3 h1]
  congr 1
  generalize H * 2 ^ j = X at *
  generalize L / 2 ^ k = Y at *
  rw [IntKind.wrap_u64]
  omega
theorem shr_min (H k : Nat) (c : Int) (hc : c = (k : Int)) (hH : H < 18446744073709551616) : (H : Int) / 2 ^ min c.toNat 64 = ((H / 2 ^ k : Nat) : Int) := by
  subst hc
  rw [Int.toNat_natCast]
  rcases Nat.le_total k 64 with h | h
  · rw [Nat.min_eq_left h]
    norm_cast
  · rw [Nat.min_eq_right h, Nat.div_eq_of_lt (Nat.lt_of_lt_of_le (show H < 2 ^ 64 by omega) (Nat.pow_le_pow_right (by omega) h))]
    omega
end Go.Proofs.YtolpggmcjengcaaDoor
