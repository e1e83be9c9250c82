/-
  Package real: keys, the order, numbers without edges; the reference's.
-/
import Derived.Test.YtolpggmcjengcaaDoorReal2
namespace Go.Proofs.YtolpggmcjengcaaDoor
open Go.RowKit
set_option linter.unusedVariables false

/-- The key. -/
def keyN (b : Nat) : Nat := if nanB b then 18446744073709551615 else if ngB b then 18446744073709551615 - b else b + 9223372036854775808
/-- A number without edges. -/
def canN (b : Nat) : Nat := if cls b = 0 then 9221120237041090560 else if cls b = 3 then 0 else b
/-- Is a ahead of b, as the reference says. -/
def aheadB (a b : Nat) : Bool := if cls a = 0 ∨ cls b = 0 then decide (cls a ≠ 0 ∧ cls b = 0) else if cls a ≠ cls b then decide (cls a < cls b) else if cls a = 2 then decide (b < a) else decide (a < b)

theorem cls_cases (b : Nat) : cls b = 0 ∧ nanB b = true ∨ cls b = 1 ∧ nanB b = false ∧ ngB b = true ∨ cls b = 2 ∧ nanB b = false ∧ ngB b = true ∨ cls b = 3 ∧ nanB b = false ∧ ngB b = true ∨
    cls b = 4 ∧ nanB b = false ∧ ngB b = false ∨ cls b = 5 ∧ nanB b = false ∧ ngB b = false ∨ cls b = 6 ∧ nanB b = false ∧ ngB b = false := by
  unfold cls
  cases nanB b <;> cases infB b <;> cases ngB b <;> simp <;> by_cases h : rung b = 0 <;> simp [h]

/-- Where the classes lie among the words, and the keys there. -/
theorem cls_where {b : Nat} (h : b < 18446744073709551616) :
    cls b = 4 ∧ b = 0 ∧ keyN b = b + 9223372036854775808 ∨ cls b = 5 ∧ (0 < b ∧ b < 9218868437227405312) ∧ keyN b = b + 9223372036854775808 ∨ cls b = 6 ∧ b = 9218868437227405312 ∧ keyN b = b + 9223372036854775808 ∨
    cls b = 0 ∧ (9218868437227405312 < b ∧ b < 9223372036854775808) ∧ keyN b = 18446744073709551615 ∨ cls b = 3 ∧ b = 9223372036854775808 ∧ keyN b = 18446744073709551615 - b ∨
    cls b = 2 ∧ (9223372036854775808 < b ∧ b < 18442240474082181120) ∧ keyN b = 18446744073709551615 - b ∨ cls b = 1 ∧ b = 18442240474082181120 ∧ keyN b = 18446744073709551615 - b ∨
    cls b = 0 ∧ 18442240474082181120 < b ∧ keyN b = 18446744073709551615 := by
  unfold cls keyN nanB infB
  by_cases h1 : 9223372036854775808 ≤ b
  · have e : rung b = b - 9223372036854775808 := by unfold rung; omega
    have f : ngB b = true := by rw [ng_iff h, decide_eq_true h1]
    rw [e, f]
    by_cases h2 : 9218868437227405312 < b - 9223372036854775808
    · simp [h2]; omega
    · by_cases h3 : b - 9223372036854775808 = 9218868437227405312
      · simp [h3]; omega
      · by_cases h4 : b - 9223372036854775808 = 0
        · simp [h4]; omega
        · simp [h2, h3, h4]; omega
  · have e : rung b = b := by unfold rung; omega
    have f : ngB b = false := by rw [ng_iff h, decide_eq_false h1]
    rw [e, f]
    by_cases h2 : 9218868437227405312 < b
    · simp [h2]; omega
    · by_cases h3 : b = 9218868437227405312
      · simp [h3]
      · by_cases h4 : b = 0
        · simp [h4]
        · simp [h2, h3, h4]; omega

theorem key_lt {b : Nat} (h : b < 18446744073709551616) : keyN b < 18446744073709551616 := by
  rcases cls_where h with h | h | h | h | h | h | h | h <;> omega

/-- The order by keys is the reference's. -/
theorem ahead_key {a b : Nat} (ha : a < 18446744073709551616) (hb : b < 18446744073709551616) : aheadB a b = decide (keyN a < keyN b) := by
  have e : ∀ {p q : Prop} [Decidable p] [Decidable q], (p ↔ q) → decide p = decide q := fun h => decide_eq_decide.2 h
  unfold aheadB
  rcases cls_where ha with ⟨ca, ra, ka⟩ | ⟨ca, ra, ka⟩ | ⟨ca, ra, ka⟩ | ⟨ca, ra, ka⟩ | ⟨ca, ra, ka⟩ | ⟨ca, ra, ka⟩ | ⟨ca, ra, ka⟩ | ⟨ca, ra, ka⟩ <;>
    rcases cls_where hb with ⟨cb, rb, kb⟩ | ⟨cb, rb, kb⟩ | ⟨cb, rb, kb⟩ | ⟨cb, rb, kb⟩ | ⟨cb, rb, kb⟩ | ⟨cb, rb, kb⟩ | ⟨cb, rb, kb⟩ | ⟨cb, rb, kb⟩ <;>
    rw [ca, cb, ka, kb] <;> (repeat' split) <;> exact e (by omega)
theorem key_same {a b : Nat} (ha : a < 18446744073709551616) (hb : b < 18446744073709551616) : keyN a = keyN b ↔ a = b ∨ cls a = 0 ∧ cls b = 0 := by
  rcases cls_where ha with ⟨ca, ra, ka⟩ | ⟨ca, ra, ka⟩ | ⟨ca, ra, ka⟩ | ⟨ca, ra, ka⟩ | ⟨ca, ra, ka⟩ | ⟨ca, ra, ka⟩ | ⟨ca, ra, ka⟩ | ⟨ca, ra, ka⟩ <;>
    rcases cls_where hb with ⟨cb, rb, kb⟩ | ⟨cb, rb, kb⟩ | ⟨cb, rb, kb⟩ | ⟨cb, rb, kb⟩ | ⟨cb, rb, kb⟩ | ⟨cb, rb, kb⟩ | ⟨cb, rb, kb⟩ | ⟨cb, rb, kb⟩ <;> omega

theorem xor_all (b : Nat) (hb : b < 18446744073709551616) : bits .xor .u64 18446744073709551615 (b : Int) = ((18446744073709551615 - b : Nat) : Int) := by
  have h := bits_xor_u64_nat 18446744073709551615 b (by omega) hb
  have e : 18446744073709551615 ^^^ b = 18446744073709551615 - b := by
    apply Nat.eq_of_testBit_eq
    intro i
    have h1 : Nat.testBit (18446744073709551615 - b) i = (decide (i < 64) && !Nat.testBit b i) := by
      rw [show 18446744073709551615 - b = 2 ^ 64 - (b + 1) by omega]
      exact Nat.testBit_two_pow_sub_succ hb i
    have h2 : Nat.testBit 18446744073709551615 i = decide (i < 64) := Nat.testBit_two_pow_sub_one 64 i
    rw [Nat.testBit_xor, h1, h2]
    by_cases h3 : i < 64
    · simp [h3]
    · have : Nat.testBit b i = false := Nat.testBit_lt_two_pow (Nat.lt_of_lt_of_le hb (Nat.pow_le_pow_right (n := 2) (i := 64) (by omega) (by omega)))
      simp [h3, this]
  rw [e] at h
  exact h
theorem or_top (b : Nat) (hb : b < 9223372036854775808) : bits .or .u64 (b : Int) 9223372036854775808 = ((b + 9223372036854775808 : Nat) : Int) := by
  have h := bits_or_u64_nat b 9223372036854775808 (by omega) (by omega)
  have e : b ||| 9223372036854775808 = b + 9223372036854775808 := by
    have := Nat.two_pow_add_eq_or_of_lt (i := 63) hb 1
    rw [Nat.mul_one] at this
    rw [Nat.or_comm, Nat.add_comm]
    exact this.symm
  rw [e] at h
  exact h

/-! ### the program -/
theorem canon_0 (b : Nat) (w : World) (hb : b < 18446744073709551616) (hc : cls b = 0) : Calls Tryd.prog 47 #[.int .u64 (b : Int)] w fun e w' => e = .returned (.int .u64 (canN b : Int)) ∧ w = w' := by
  have HK : Hid (canN b = 9221120237041090560) := by show _ = _; simp [canN, hc]
  have HC := Lib.hid hc
  clear hc
  go_enter Tryd.func47, Tryd.ntmps47
  go_wp2_with fail
  refine (class_any b w hb).mono ?_
  rintro e' w1 ⟨rfl, rfl⟩
  rw [HC.out]
  go_wp2_with fail
  go_ret
  exact ⟨by rw [HK.out]; rfl, rfl⟩
theorem canon_1 (b : Nat) (w : World) (hb : b < 18446744073709551616) (hc : cls b = 3) : Calls Tryd.prog 47 #[.int .u64 (b : Int)] w fun e w' => e = .returned (.int .u64 (canN b : Int)) ∧ w = w' := by
  have HK : Hid (canN b = 0) := by show _ = _; simp [canN, hc]
  have HC := Lib.hid hc
  clear hc
  go_enter Tryd.func47, Tryd.ntmps47
  go_wp2_with fail
  refine (class_any b w hb).mono ?_
  rintro e' w1 ⟨rfl, rfl⟩
  rw [HC.out]
  go_wp2_with fail
  go_ret
  exact ⟨by rw [HK.out]; rfl, rfl⟩
theorem canon_2 (b : Nat) (w : World) (hb : b < 18446744073709551616) (hc : cls b ≠ 0 ∧ cls b ≠ 3) : Calls Tryd.prog 47 #[.int .u64 (b : Int)] w fun e w' => e = .returned (.int .u64 (canN b : Int)) ∧ w = w' := by
  have HK : Hid (canN b = b) := by show _ = _; simp [canN, hc]
  have hc0 : ((cls b : Int) == 0) = false := by rw [beq_eq_false_iff_ne]; omega
  have hc3 : ((cls b : Int) == 3) = false := by rw [beq_eq_false_iff_ne]; omega
  clear hc
  go_enter Tryd.func47, Tryd.ntmps47
  go_wp2_with fail
  refine (class_any b w hb).mono ?_
  rintro e' w1 ⟨rfl, rfl⟩
  go_wp2_with fail
  go_ret
  exact ⟨by rw [HK.out]; rfl, rfl⟩
/-- canon. -/
theorem canon_any (b : Nat) (w : World) (hb : b < 18446744073709551616) : Calls Tryd.prog 47 #[.int .u64 (b : Int)] w fun e w' => e = .returned (.int .u64 (canN b : Int)) ∧ w = w' := by
  by_cases h0 : cls b = 0
  · exact canon_0 b w hb h0
  · by_cases h3 : cls b = 3
    · exact canon_1 b w hb h3
    · exact canon_2 b w hb ⟨h0, h3⟩

end Go.Proofs.YtolpggmcjengcaaDoor
