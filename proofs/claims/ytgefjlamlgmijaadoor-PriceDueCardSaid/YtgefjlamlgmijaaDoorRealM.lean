/-
  Plain: the product of a float by a power of two, exact; a float as a whole number.
-/
import Derived.Test.YtgefjlamlgmijaaDoorRealN
namespace Go.Proofs.YtgefjlamlgmijaaDoor
open Ieee

theorem log2_mul_pow (m t : Nat) (hm : m ≠ 0) : (m * 2 ^ t).log2 = m.log2 + t := by
  rw [Nat.log2_eq_iff (Nat.mul_ne_zero hm (Nat.ne_of_gt (Nat.two_pow_pos t)))]
  have h1 := Nat.log2_self_le hm
  have h2 := Nat.lt_log2_self (n := m)
  refine ⟨?_, ?_⟩
  · rw [Nat.pow_add]; exact Nat.mul_le_mul_right _ h1
  · rw [show m.log2 + t + 1 = (m.log2 + 1) + t by omega, Nat.pow_add]; exact Nat.mul_lt_mul_of_pos_right h2 (Nat.two_pow_pos t)

/-- To cut where nothing is lost. -/
theorem cut_exact (way : Toward) (neg : Bool) (k d : Nat) (hd : d ≤ (k * 2 ^ d).log2 + 2) : way.cut neg (k * 2 ^ d) d = k := by
  unfold Toward.cut
  rw [Nat.min_eq_left hd]
  simp only [Nat.one_shiftLeft]
  have h1 : k * 2 ^ d % 2 ^ d = 0 := Nat.mul_mod_left _ _
  have h2 : k * 2 ^ d / 2 ^ d = k := Nat.mul_div_cancel _ (Nat.two_pow_pos d)
  rw [h1, h2]
  have hp := Nat.two_pow_pos d
  cases way <;> simp <;> omega
theorem cut_zero (neg : Bool) (n d : Nat) : Toward.zero.cut neg n d = n / 2 ^ d := by
  unfold Toward.cut
  simp only [Nat.one_shiftLeft]
  show n / 2 ^ min d (n.log2 + 2) + 0 = _
  rw [Nat.add_zero]
  rcases Nat.le_total d (n.log2 + 2) with h | h
  · rw [Nat.min_eq_left h]
  · rw [Nat.min_eq_right h]
    have h1 := Nat.lt_log2_self (n := n)
    have h2 : 2 ^ (n.log2 + 1) ≤ 2 ^ (n.log2 + 2) := Nat.pow_le_pow_right (by omega) (by omega)
    have h3 : 2 ^ (n.log2 + 2) ≤ 2 ^ d := Nat.pow_le_pow_right (by omega) h
    rw [Nat.div_eq_of_lt (by omega), Nat.div_eq_of_lt (by omega)]

/-- The significand of a magnitude: shifted till its first digit is the 53rd. -/
def nm (m : Nat) : Nat := m * 2 ^ (52 - m.log2)
theorem log2_le52 {m : Nat} (h : m < 9007199254740992) : m.log2 ≤ 52 := by
  by_cases h0 : m = 0
  · subst h0; decide
  · have := (Nat.log2_lt h0).2 (show m < 2 ^ 53 by omega)
    omega
theorem nm_ge {m : Nat} (h0 : 0 < m) (h : m < 9007199254740992) : 4503599627370496 ≤ nm m := by
  have h1 := Nat.log2_self_le (show m ≠ 0 by omega)
  have h2 := log2_le52 h
  have h3 : 2 ^ m.log2 * 2 ^ (52 - m.log2) ≤ m * 2 ^ (52 - m.log2) := Nat.mul_le_mul_right _ h1
  rw [← Nat.pow_add, show m.log2 + (52 - m.log2) = 52 by omega] at h3
  exact h3
theorem nm_lt {m : Nat} (h : m < 9007199254740992) : nm m < 9007199254740992 := by
  have h1 := Nat.lt_log2_self (n := m)
  have h2 := log2_le52 h
  have h3 : m * 2 ^ (52 - m.log2) < 2 ^ (m.log2 + 1) * 2 ^ (52 - m.log2) := Nat.mul_lt_mul_of_pos_right h1 (Nat.two_pow_pos _)
  rw [← Nat.pow_add, show m.log2 + 1 + (52 - m.log2) = 53 by omega] at h3
  exact h3

theorem nearest_eq (mag : Nat) (p last : Int) (h : mag ≠ 0) (hl : max (p + (mag.log2 : Int) - 52) (-1074) = last) :
    double.nearest false mag p = min ((last - -1074).toNat * 4503599627370496 + Toward.even.cut false (mag <<< (p - last).toNat) (last - p).toNat) 9218868437227405312 := by
  unfold Format.nearest
  rw [if_neg h]
  simp only [d_bin, d_inf, d_least, Format.word, Bool.false_eq_true, if_false]
  rw [← hl]
  rfl

/-- The word nearest to (m * 2^52) * 2^(i - 52), of a place not too low. -/
theorem nearest_up (m : Nat) (p : Int) (l : Nat) (h0 : 0 < m) (hm : m < 9007199254740992) (hp : p + m.log2 + 1074 = l) (hl : l < 2046) :
    double.nearest false (m * 4503599627370496) p = l * 4503599627370496 + nm m := by
  have hlog : (m * 4503599627370496).log2 = m.log2 + 52 := by
    have := log2_mul_pow m 52 (by omega)
    rwa [show (2 : Nat) ^ 52 = 4503599627370496 from rfl] at this
  have h1 := nm_ge h0 hm
  have h2 := nm_lt hm
  have h3 := log2_le52 hm
  have e5 : m * 4503599627370496 = nm m * 2 ^ m.log2 := by
    unfold nm
    rw [Nat.mul_assoc, ← Nat.pow_add, show 52 - m.log2 + m.log2 = 52 by omega]
  have e6 : m.log2 ≤ (nm m * 2 ^ m.log2).log2 + 2 := by
    rw [← e5, hlog]; omega
  rw [nearest_eq (m * 4503599627370496) p ((l : Int) - 1074) (by omega) (by rw [hlog]; omega)]
  have e2 : (p - ((l : Int) - 1074)).toNat = 0 := by omega
  have e3 : ((l : Int) - 1074 - p).toNat = m.log2 := by omega
  have e4 : ((l : Int) - 1074 - -1074).toNat = l := by omega
  rw [e2, e3, e4, Nat.shiftLeft_zero, e5, cut_exact _ _ _ _ e6]
  clear e2 e3 e4 e5 e6 hlog hp h3
  generalize nm m = k at *
  omega

/-- 2^52 and 2^53 as words. -/
theorem read_p52 : double.read 4841369599423283200 = .number false 4503599627370496 0 := by decide
theorem read_p53 : double.read 4845873199050653696 = .number false 4503599627370496 1 := by decide

theorem mul_up (c : Nat) (t : Int) (b l : Nat) (hc : double.read c = .number false 4503599627370496 t) (hn : ngB b = false) (h0 : 0 < rung b) (h : rung b < 9218868437227405312)
    (hl : (pl (rung b) : Int) + (mg (rung b)).log2 + t = l) (hl2 : l < 2046) : double.mul b c = some (l * 4503599627370496 + nm (mg (rung b))) := by
  unfold Format.mul
  rw [read_num b h, hc, hn]
  show some (double.nearest (false ^^ false) (mg (rung b) * 4503599627370496) (-1074 + (pl (rung b) : Int) + t)) = _
  rw [show (false ^^ false) = false from rfl, nearest_up (mg (rung b)) _ l (mg_pos h0) (mg_lt _) (by omega) hl2]

/-- The word of such a product: its rung, and what it stands for. -/
theorem up_parts (l m : Nat) (h0 : 0 < m) (hm : m < 9007199254740992) (hl : l < 2046) :
    rung (l * 4503599627370496 + nm m) = l * 4503599627370496 + nm m ∧ ngB (l * 4503599627370496 + nm m) = false ∧ mg (l * 4503599627370496 + nm m) = nm m ∧ pl (l * 4503599627370496 + nm m) = l := by
  have h1 := nm_ge h0 hm
  have h2 := nm_lt hm
  generalize nm m = k at *
  have e1 : (l * 4503599627370496 + k) / 9223372036854775808 % 2 = 0 := by omega
  have e2 : (l * 4503599627370496 + k) / 4503599627370496 = l + 1 := by omega
  have e3 : (l * 4503599627370496 + k) % 4503599627370496 = k - 4503599627370496 := by omega
  refine ⟨?_, ?_, ?_, ?_⟩
  · unfold rung; omega
  · unfold ngB; rw [e1]; rfl
  · unfold mg
    rw [if_neg (by omega), e3]
    omega
  · unfold pl; omega

/-- A float of a place not above 0 as a whole number. -/
theorem toInt_down (b d : Nat) (hn : ngB b = false) (h : rung b < 9218868437227405312) (hd : pl (rung b) + d = 1074) : (double.read b).toInt .zero = some ((mg (rung b) / 2 ^ d : Nat) : Int) := by
  rw [read_num b h, hn]
  have e1 : (-1074 + (pl (rung b) : Int)).toNat = 0 := by omega
  have e2 : (-(-1074 + (pl (rung b) : Int))).toNat = d := by omega
  simp only [Datum.toInt, Datum.integral, e1, e2, Nat.shiftLeft_zero, cut_zero, signed]
  rfl
end Go.Proofs.YtgefjlamlgmijaaDoor
