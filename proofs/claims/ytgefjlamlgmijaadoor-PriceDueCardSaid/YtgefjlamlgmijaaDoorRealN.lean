/-
  Plain: floats of 64 bits as rungs: how the standard's order, and its product by a power of two, read on the bits.
-/
import Derived.Laws.FloatArith
namespace Go.Proofs.YtgefjlamlgmijaaDoor
open Ieee

/-- A word without its sign. -/
def rung (b : Nat) : Nat := b % 9223372036854775808
/-- Its sign: below zero? -/
def ngB (b : Nat) : Bool := b / 9223372036854775808 % 2 == 1
/-- The rung with its sign. -/
def sg (b : Nat) : Int := if ngB b then -(rung b : Int) else (rung b : Int)
/-- A rung's magnitude and place. -/
def mg (r : Nat) : Nat := if r < 4503599627370496 then r else 4503599627370496 + r % 4503599627370496
def pl (r : Nat) : Nat := r / 4503599627370496 - 1
/-- What a rung stands for, in units of the least one. -/
def val (r : Nat) : Nat := mg r * 2 ^ pl r

theorem d_sign : Format.signWeight double = 9223372036854775808 := rfl
theorem d_bin : Format.binade double = 4503599627370496 := rfl
theorem d_inf : Format.infRung double = 9218868437227405312 := rfl
theorem d_least : Format.leastPlace double = -1074 := rfl

theorem mg_lt (r : Nat) : mg r < 9007199254740992 := by unfold mg; split <;> omega
theorem mg_pos {r : Nat} (h : 0 < r) : 0 < mg r := by unfold mg; split <;> omega

theorem read_eq (b : Nat) : double.read b = if rung b < 4503599627370496 then .number (ngB b) (rung b) (-1074)
    else if rung b < 9218868437227405312 then .number (ngB b) (4503599627370496 + rung b % 4503599627370496) (-1074 + ((rung b / 4503599627370496 - 1 : Nat) : Int))
    else if rung b = 9218868437227405312 then .infinity (ngB b) else .nan (ngB b) (rung b - 9218868437227405312) := rfl
theorem read_num (b : Nat) (h : rung b < 9218868437227405312) : double.read b = .number (ngB b) (mg (rung b)) (-1074 + (pl (rung b) : Int)) := by
  rw [read_eq]
  unfold mg pl
  split
  · rename_i h1
    have : rung b / 4503599627370496 - 1 = 0 := by omega
    rw [this]
    rfl
  · first | rfl | rw [if_pos h]
theorem read_inf (b : Nat) (h : rung b = 9218868437227405312) : double.read b = .infinity (ngB b) := by
  rw [read_eq, h, if_neg (by omega), if_neg (by omega), if_pos rfl]
theorem read_nan (b : Nat) (h : 9218868437227405312 < rung b) : ∃ f, double.read b = .nan (ngB b) f := by
  rw [read_eq, if_neg (by omega), if_neg (by omega), if_neg (by omega)]
  exact ⟨_, rfl⟩

theorem val_lt {r s : Nat} (h : r < s) : val r < val s := by
  unfold val
  by_cases e : pl r = pl s
  · rw [e]
    refine Nat.mul_lt_mul_of_pos_right ?_ (Nat.two_pow_pos _)
    unfold mg pl at *
    split <;> split <;> omega
  · have hp : pl r < pl s := by unfold pl at *; omega
    have h1 : mg r * 2 ^ pl r < 9007199254740992 * 2 ^ pl r := Nat.mul_lt_mul_of_pos_right (mg_lt r) (Nat.two_pow_pos _)
    have h2 : 2 ^ (pl r + 1) ≤ 2 ^ pl s := Nat.pow_le_pow_right (by omega) hp
    have h3 : 4503599627370496 * 2 ^ pl s ≤ mg s * 2 ^ pl s := by
      refine Nat.mul_le_mul_right _ ?_
      unfold mg pl at *
      split <;> omega
    rw [Nat.pow_succ] at h2
    omega
theorem val_lt_iff (r s : Nat) : val r < val s ↔ r < s := by
  refine ⟨fun h => ?_, val_lt⟩
  rcases Nat.lt_trichotomy r s with h1 | h1 | h1
  · exact h1
  · subst h1; omega
  · have := val_lt h1; omega
theorem val_le {r s : Nat} (h : r ≤ s) : val r ≤ val s := by
  rcases Nat.lt_or_eq_of_le h with h | h
  · exact Nat.le_of_lt (val_lt h)
  · rw [h]; exact Nat.le_refl _

theorem cmp_signed (A B r s : Nat) (x y : Bool) (h1 : A < B ↔ r < s) (h2 : B < A ↔ s < r) (h3 : A = 0 ↔ r = 0) (h4 : B = 0 ↔ s = 0) :
    compare (if x then -(A : Int) else (A : Int)) (if y then -(B : Int) else (B : Int)) = compare (if x then -(r : Int) else (r : Int)) (if y then -(s : Int) else (s : Int)) := by
  have e : ∀ a b : Int, compare a b = if a < b then Ordering.lt else if a = b then .eq else .gt := fun _ _ => rfl
  rw [e, e]
  cases x <;> cases y <;> simp only [if_true, if_false, Bool.false_eq_true] <;> (repeat' split) <;> first | rfl | omega

theorem order_num (a b : Nat) (ha : rung a ≤ 9218868437227405312) (hb : rung b ≤ 9218868437227405312) : double.order a b = some (compare (sg a) (sg b)) := by
  have e : ∀ a b : Int, compare a b = if a < b then Ordering.lt else if a = b then .eq else .gt := fun _ _ => rfl
  unfold Format.order
  rcases Nat.lt_or_eq_of_le ha with ha | ha <;> rcases Nat.lt_or_eq_of_le hb with hb | hb
  · rw [read_num a ha, read_num b hb]
    simp only [Datum.order]
    congr 1
    unfold sg signed
    generalize hq : min (-1074 + (pl (rung a) : Int)) (-1074 + (pl (rung b) : Int)) = q
    obtain ⟨u, hu, hu1⟩ : ∃ u : Nat, (-1074 + (pl (rung a) : Int) - q).toNat + u = pl (rung a) ∧ (-1074 + (pl (rung b) : Int) - q).toNat + u = pl (rung b) := ⟨(q + 1074).toNat, by omega, by omega⟩
    generalize (-1074 + (pl (rung a) : Int) - q).toNat = i at *
    generalize (-1074 + (pl (rung b) : Int) - q).toNat = j at *
    rw [Nat.shiftLeft_eq, Nat.shiftLeft_eq]
    have hA : val (rung a) = mg (rung a) * 2 ^ i * 2 ^ u := by rw [Nat.mul_assoc, ← Nat.pow_add, hu]; rfl
    have hB : val (rung b) = mg (rung b) * 2 ^ j * 2 ^ u := by rw [Nat.mul_assoc, ← Nat.pow_add, hu1]; rfl
    have hp := Nat.two_pow_pos u
    have l1 : mg (rung a) * 2 ^ i < mg (rung b) * 2 ^ j ↔ rung a < rung b := by
      rw [← val_lt_iff (rung a), hA, hB]; exact (Nat.mul_lt_mul_right hp).symm
    have l2 : mg (rung b) * 2 ^ j < mg (rung a) * 2 ^ i ↔ rung b < rung a := by
      rw [← val_lt_iff (rung b), hA, hB]; exact (Nat.mul_lt_mul_right hp).symm
    have z : ∀ (r k : Nat), mg r * 2 ^ k = 0 ↔ r = 0 := fun r k => by
      rw [Nat.mul_eq_zero]
      have := Nat.two_pow_pos k
      constructor
      · rintro (h | h)
        · unfold mg at h; split at h <;> omega
        · omega
      · rintro rfl; exact .inl rfl
    exact cmp_signed _ _ _ _ _ _ l1 l2 (z _ _) (z _ _)
  · rw [read_num a ha, read_inf b hb]
    simp only [Datum.order]
    congr 1
    unfold sg
    rw [hb, e]
    cases ngB a <;> cases ngB b <;> simp only [if_true, if_false, Bool.false_eq_true] <;> (repeat' split) <;> first | rfl | omega
  · rw [read_inf a ha, read_num b hb]
    simp only [Datum.order]
    congr 1
    unfold sg
    rw [ha, e]
    cases ngB a <;> cases ngB b <;> simp only [if_true, if_false, Bool.false_eq_true] <;> (repeat' split) <;> first | rfl | omega
  · rw [read_inf a ha, read_inf b hb]
    simp only [Datum.order]
    congr 1
    unfold sg
    rw [ha, hb]
    cases ngB a <;> cases ngB b <;> rfl
theorem order_nan_left (a b : Nat) (h : 9218868437227405312 < rung a) : double.order a b = none := by
  obtain ⟨f, hf⟩ := read_nan a h
  unfold Format.order
  rw [hf]
  rfl
theorem order_nan_right (a b : Nat) (h : 9218868437227405312 < rung b) : double.order a b = none := by
  obtain ⟨f, hf⟩ := read_nan b h
  unfold Format.order
  rw [hf]
  generalize double.read a = d
  cases d <;> rfl

/-- The four questions of Go's operators. -/
theorem ord_lt (a b : Nat) : (double.order a b == some .lt) = decide (rung a ≤ 9218868437227405312 ∧ rung b ≤ 9218868437227405312 ∧ sg a < sg b) := by
  by_cases ha : rung a ≤ 9218868437227405312
  · by_cases hb : rung b ≤ 9218868437227405312
    · rw [order_num a b ha hb]
      have e : compare (sg a) (sg b) = if sg a < sg b then Ordering.lt else if sg a = sg b then .eq else .gt := rfl
      rw [e]
      by_cases h : sg a < sg b
      · simp [h, ha, hb]
      · rw [if_neg h]
        by_cases h2 : sg a = sg b <;> simp [h, h2]
    · rw [order_nan_right a b (by omega)]; simp [hb]
  · rw [order_nan_left a b (by omega)]; simp [ha]
theorem ord_gt (a b : Nat) : (double.order a b == some .gt) = decide (rung a ≤ 9218868437227405312 ∧ rung b ≤ 9218868437227405312 ∧ sg b < sg a) := by
  by_cases ha : rung a ≤ 9218868437227405312
  · by_cases hb : rung b ≤ 9218868437227405312
    · rw [order_num a b ha hb]
      have e : compare (sg a) (sg b) = if sg a < sg b then Ordering.lt else if sg a = sg b then .eq else .gt := rfl
      rw [e]
      by_cases h : sg a < sg b
      · simp [h, show ¬ sg b < sg a by omega]
      · rw [if_neg h]
        by_cases h2 : sg a = sg b
        · simp [h2]
        · simp [h2, ha, hb, show sg b < sg a by omega]
    · rw [order_nan_right a b (by omega)]; simp [hb]
  · rw [order_nan_left a b (by omega)]; simp [ha]
theorem ord_eq (a b : Nat) : (double.order a b == some .eq) = decide (rung a ≤ 9218868437227405312 ∧ rung b ≤ 9218868437227405312 ∧ sg a = sg b) := by
  by_cases ha : rung a ≤ 9218868437227405312
  · by_cases hb : rung b ≤ 9218868437227405312
    · rw [order_num a b ha hb]
      have e : compare (sg a) (sg b) = if sg a < sg b then Ordering.lt else if sg a = sg b then .eq else .gt := rfl
      rw [e]
      by_cases h : sg a < sg b
      · simp [h, show ¬ sg a = sg b by omega]
      · rw [if_neg h]
        by_cases h2 : sg a = sg b
        · simp [h2, ha, hb]
        · simp [h2]
    · rw [order_nan_right a b (by omega)]; simp [hb]
  · rw [order_nan_left a b (by omega)]; simp [ha]
end Go.Proofs.YtgefjlamlgmijaaDoor
