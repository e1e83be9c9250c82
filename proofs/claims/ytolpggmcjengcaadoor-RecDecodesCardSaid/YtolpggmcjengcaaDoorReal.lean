/-
  Plain: floats of 64 bits as rungs: how the standard's order, and its product by a power of two, read on the bits. Plain: the product of a float by a power of two, exact; a float as a whole number. Package real: classes, keys, the order; the library's questions on floats; the reference's.
-/
import Derived.Laws.FloatArith
import Derived.Test.YtolpggmcjengcaaDoorMem
import Derived.Laws.Externs
import Derived.Laws.Bits64b
import Derived.KernelRfl
namespace Go.Proofs.YtolpggmcjengcaaDoor
open Ieee

/-- A word without its sign. -/
def rung (b : Nat) : Nat := b % 9223372036854775808
/-- Its sign: below zero? -/
def ngB (b : Nat) : Bool := b / 9223372036854775808 % 2 == 1
/-- The rung with its sign. -/
def sg (b : Nat) : Int := if ngB b then -(rung b : Int) else (rung b : Int)
/-- A rung's magnitude and place. -/
def mg (r : Nat) : Nat := if r < 4503599627370496 then r else 4503599627370496 + r % 4503599627370496
def pl (r : Nat) : Nat := r / 4503599627370496 - 1
/-- What a rung stands for, in units of the least one. -/
def val (r : Nat) : Nat := mg r * 2 ^ pl r

theorem d_sign : Format.signWeight double = 9223372036854775808 := rfl
theorem d_bin : Format.binade double = 4503599627370496 := rfl
theorem d_inf : Format.infRung double = 9218868437227405312 := rfl
theorem d_least : Format.leastPlace double = -1074 := rfl

theorem mg_lt (r : Nat) : mg r < 9007199254740992 := by unfold mg; split <;> omega
theorem mg_pos {r : Nat} (h : 0 < r) : 0 < mg r := by unfold mg; split <;> omega

theorem read_eq (b : Nat) : double.read b = if rung b < 4503599627370496 then .number (ngB b) (rung b) (-1074)
    else if rung b < 9218868437227405312 then .number (ngB b) (4503599627370496 + rung b % 4503599627370496) (-1074 + ((rung b / 4503599627370496 - 1 : Nat) : Int))
    else if rung b = 9218868437227405312 then .infinity (ngB b) else .nan (ngB b) (rung b - 9218868437227405312) := rfl
theorem read_num (b : Nat) (h : rung b < 9218868437227405312) : double.read b = .number (ngB b) (mg (rung b)) (-1074 + (pl (rung b) : Int)) := by
  rw [read_eq]
  unfold mg pl
  split
  · rename_i h1
    have : rung b / 4503599627370496 - 1 = 0 := by omega
    rw [this]
    rfl
  · first | rfl | rw [if_pos h]
theorem read_inf (b : Nat) (h : rung b = 9218868437227405312) : double.read b = .infinity (ngB b) := by
  rw [read_eq, h, if_neg (by omega), if_neg (by omega), if_pos rfl]
theorem read_nan (b : Nat) (h : 9218868437227405312 < rung b) : ∃ f, double.read b = .nan (ngB b) f := by
  rw [read_eq, if_neg (by omega), if_neg (by omega), if_neg (by omega)]
  exact ⟨_, rfl⟩

theorem val_lt {r s : Nat} (h : r < s) : val r < val s := by
  unfold val
  by_cases e : pl r = pl s
  · rw [e]
    refine Nat.mul_lt_mul_of_pos_right ?_ (Nat.two_pow_pos _)
    unfold mg pl at *
    split <;> split <;> omega
  · have hp : pl r < pl s := by unfold pl at *; omega
    have h1 : mg r * 2 ^ pl r < 9007199254740992 * 2 ^ pl r := Nat.mul_lt_mul_of_pos_right (mg_lt r) (Nat.two_pow_pos _)
    have h2 : 2 ^ (pl r + 1) ≤ 2 ^ pl s := Nat.pow_le_pow_right (by omega) hp
    have h3 : 4503599627370496 * 2 ^ pl s ≤ mg s * 2 ^ pl s := by
      refine Nat.mul_le_mul_right _ ?_
      unfold mg pl at *
      split <;> omega
    rw [Nat.pow_succ] at h2
    omega
theorem val_lt_iff (r s : Nat) : val r < val s ↔ r < s := by
  refine ⟨fun h => ?_, val_lt⟩
  rcases Nat.lt_trichotomy r s with h1 | h1 | h1
  · exact h1
  · subst h1; omega
  · have := val_lt h1; omega
theorem val_le {r s : Nat} (h : r ≤ s) : val r ≤ val s := by
  rcases Nat.lt_or_eq_of_le h with h | h
  · exact Nat.le_of_lt (val_lt h)
  · rw [h]; exact Nat.le_refl _

theorem cmp_signed (A B r s : Nat) (x y : Bool) (h1 : A < B ↔ r < s) (h2 : B < A ↔ s < r) (h3 : A = 0 ↔ r = 0) (h4 : B = 0 ↔ s = 0) :
    compare (if x then -(A : Int) else (A : Int)) (if y then -(B : Int) else (B : Int)) = compare (if x then -(r : Int) else (r : Int)) (if y then -(s : Int) else (s : Int)) := by
  have e : ∀ a b : Int, compare a b = if a < b then Ordering.lt else if a = b then .eq else .gt := fun _ _ => rfl
  rw [e, e]
  cases x <;> cases y <;> simp only [if_true, if_false, Bool.false_eq_true] <;> (repeat' split) <;> first | rfl | omega

theorem order_num (a b : Nat) (ha : rung a ≤ 9218868437227405312) (hb : rung b ≤ 9218868437227405312) : double.order a b = some (compare (sg a) (sg b)) := by
  have e : ∀ a b : Int, compare a b = if a < b then Ordering.lt else if a = b then .eq else .gt := fun _ _ => rfl
  unfold Format.order
  rcases Nat.lt_or_eq_of_le ha with ha | ha <;> rcases Nat.lt_or_eq_of_le hb with hb | hb
  · rw [read_num a ha, read_num b hb]
    simp only [Datum.order]
    congr 1
    unfold sg signed
    generalize hq : min (-1074 + (pl (rung a) : Int)) (-1074 + (pl (rung b) : Int)) = q
    obtain ⟨u, hu, hu1⟩ : ∃ u : Nat, (-1074 + (pl (rung a) : Int) - q).toNat + u = pl (rung a) ∧ (-1074 + (pl (rung b) : Int) - q).toNat + u = pl (rung b) := ⟨(q + 1074).toNat, by omega, by omega⟩
    generalize (-1074 + (pl (rung a) : Int) - q).toNat = i at *
    generalize (-1074 + (pl (rung b) : Int) - q).toNat = j at *
    rw [Nat.shiftLeft_eq, Nat.shiftLeft_eq]
    have hA : val (rung a) = mg (rung a) * 2 ^ i * 2 ^ u := by rw [Nat.mul_assoc, ← Nat.pow_add, hu]; rfl
    have hB : val (rung b) = mg (rung b) * 2 ^ j * 2 ^ u := by rw [Nat.mul_assoc, ← Nat.pow_add, hu1]; rfl
    have hp := Nat.two_pow_pos u
    have l1 : mg (rung a) * 2 ^ i < mg (rung b) * 2 ^ j ↔ rung a < rung b := by
      rw [← val_lt_iff (rung a), hA, hB]; exact (Nat.mul_lt_mul_right hp).symm
    have l2 : mg (rung b) * 2 ^ j < mg (rung a) * 2 ^ i ↔ rung b < rung a := by
      rw [← val_lt_iff (rung b), hA, hB]; exact (Nat.mul_lt_mul_right hp).symm
    have z : ∀ (r k : Nat), mg r * 2 ^ k = 0 ↔ r = 0 := fun r k => by
      rw [Nat.mul_eq_zero]
      have := Nat.two_pow_pos k
      constructor
      · rintro (h | h)
        · unfold mg at h; split at h <;> omega
        · omega
      · rintro rfl; exact .inl rfl
    exact cmp_signed _ _ _ _ _ _ l1 l2 (z _ _) (z _ _)
  · rw [read_num a ha, read_inf b hb]
    simp only [Datum.order]
    congr 1
    unfold sg
    rw [hb, e]
    cases ngB a <;> cases ngB b <;> simp only [if_true, if_false, Bool.false_eq_true] <;> (repeat' split) <;> first | rfl | omega
  · rw [read_inf a ha, read_num b hb]
    simp only [Datum.order]
    congr 1
    unfold sg
    rw [ha, e]
    cases ngB a <;> cases ngB b <;> simp only [if_true, if_false, Bool.false_eq_true] <;> (repeat' split) <;> first | rfl | omega
  · rw [read_inf a ha, read_inf b hb]
    simp only [Datum.order]
    congr 1
    unfold sg
    rw [ha, hb]
    cases ngB a <;> cases ngB b <;> rfl
theorem order_nan_left (a b : Nat) (h : 9218868437227405312 < rung a) : double.order a b = none := by
  obtain ⟨f, hf⟩ := read_nan a h
  unfold Format.order
  rw [hf]
  rfl
theorem order_nan_right (a b : Nat) (h : 9218868437227405312 < rung b) : double.order a b = none := by
  obtain ⟨f, hf⟩ := read_nan b h
  unfold Format.order
  rw [hf]
  generalize double.read a = d
  cases d <;> rfl

/-- The four questions of Go's operators. -/
theorem ord_lt (a b : Nat) : (double.order a b == some .lt) = decide (rung a ≤ 9218868437227405312 ∧ rung b ≤ 9218868437227405312 ∧ sg a < sg b) := by
  by_cases ha : rung a ≤ 9218868437227405312
  · by_cases hb : rung b ≤ 9218868437227405312
    · rw [order_num a b ha hb]
      have e : compare (sg a) (sg b) = if sg a < sg b then Ordering.lt else if sg a = sg b then .eq else .gt := rfl
      rw [e]
      by_cases h : sg a < sg b
      · simp [h, ha, hb]
      · rw [if_neg h]
        by_cases h2 : sg a = sg b <;> simp [h, h2]
    · rw [order_nan_right a b (by omega)]; simp [hb]
  · rw [order_nan_left a b (by omega)]; simp [ha]
theorem ord_gt (a b : Nat) : (double.order a b == some .gt) = decide (rung a ≤ 9218868437227405312 ∧ rung b ≤ 9218868437227405312 ∧ sg b < sg a) := by
  by_cases ha : rung a ≤ 9218868437227405312
  · by_cases hb : rung b ≤ 9218868437227405312
    · rw [order_num a b ha hb]
      have e : compare (sg a) (sg b) = if sg a < sg b then Ordering.lt else if sg a = sg b then .eq else .gt := rfl
      rw [e]
      by_cases h : sg a < sg b
      · simp [h, show ¬ sg b < sg a by omega]
      · rw [if_neg h]
        by_cases h2 : sg a = sg b
        · simp [h2]
        · simp [h2, ha, hb, show sg b < sg a by omega]
    · rw [order_nan_right a b (by omega)]; simp [hb]
  · rw [order_nan_left a b (by omega)]; simp [ha]
theorem ord_eq (a b : Nat) : (double.order a b == some .eq) = decide (rung a ≤ 9218868437227405312 ∧ rung b ≤ 9218868437227405312 ∧ sg a = sg b) := by
  by_cases ha : rung a ≤ 9218868437227405312
  · by_cases hb : rung b ≤ 9218868437227405312
    · rw [order_num a b ha hb]
      have e : compare (sg a) (sg b) = if sg a < sg b then Ordering.lt else if sg a = sg b then .eq else .gt := rfl
      rw [e]
      by_cases h : sg a < sg b
      · simp [h, show ¬ sg a = sg b by omega]
      · rw [if_neg h]
        by_cases h2 : sg a = sg b
        · simp [h2, ha, hb]
        · simp [h2]
    · rw [order_nan_right a b (by omega)]; simp [hb]
  · rw [order_nan_left a b (by omega)]; simp [ha]
end Go.Proofs.YtolpggmcjengcaaDoor

namespace Go.Proofs.YtolpggmcjengcaaDoor
open Ieee

theorem log2_mul_pow (m t : Nat) (hm : m ≠ 0) : (m * 2 ^ t).log2 = m.log2 + t := by
  rw [Nat.log2_eq_iff (Nat.mul_ne_zero hm (Nat.ne_of_gt (Nat.two_pow_pos t)))]
  have h1 := Nat.log2_self_le hm
  have h2 := Nat.lt_log2_self (n := m)
  refine ⟨?_, ?_⟩
  · rw [Nat.pow_add]; exact Nat.mul_le_mul_right _ h1
  · rw [show m.log2 + t + 1 = (m.log2 + 1) + t by omega, Nat.pow_add]; exact Nat.mul_lt_mul_of_pos_right h2 (Nat.two_pow_pos t)

/-- To cut where nothing is lost. -/
theorem cut_exact (way : Toward) (neg : Bool) (k d : Nat) (hd : d ≤ (k * 2 ^ d).log2 + 2) : way.cut neg (k * 2 ^ d) d = k := by
  unfold Toward.cut
  rw [Nat.min_eq_left hd]
  simp only [Nat.one_shiftLeft]
  have h1 : k * 2 ^ d % 2 ^ d = 0 := Nat.mul_mod_left _ _
  have h2 : k * 2 ^ d / 2 ^ d = k := Nat.mul_div_cancel _ (Nat.two_pow_pos d)
  rw [h1, h2]
  have hp := Nat.two_pow_pos d
  cases way <;> simp <;> omega
theorem cut_zero (neg : Bool) (n d : Nat) : Toward.zero.cut neg n d = n / 2 ^ d := by
  unfold Toward.cut
  simp only [Nat.one_shiftLeft]
  show n / 2 ^ min d (n.log2 + 2) + 0 = _
  rw [Nat.add_zero]
  rcases Nat.le_total d (n.log2 + 2) with h | h
  · rw [Nat.min_eq_left h]
  · rw [Nat.min_eq_right h]
    have h1 := Nat.lt_log2_self (n := n)
    have h2 : 2 ^ (n.log2 + 1) ≤ 2 ^ (n.log2 + 2) := Nat.pow_le_pow_right (by omega) (by omega)
    have h3 : 2 ^ (n.log2 + 2) ≤ 2 ^ d := Nat.pow_le_pow_right (by omega) h
    rw [Nat.div_eq_of_lt (by omega), Nat.div_eq_of_lt (by omega)]

/-- The significand of a magnitude: shifted till its first digit is the 53rd. -/
def nm (m : Nat) : Nat := m * 2 ^ (52 - m.log2)
theorem log2_le52 {m : Nat} (h : m < 9007199254740992) : m.log2 ≤ 52 := by
  by_cases h0 : m = 0
  · subst h0; decide
  · have := (Nat.log2_lt h0).2 (show m < 2 ^ 53 by omega)
    omega
theorem nm_ge {m : Nat} (h0 : 0 < m) (h : m < 9007199254740992) : 4503599627370496 ≤ nm m := by
  have h1 := Nat.log2_self_le (show m ≠ 0 by omega)
  have h2 := log2_le52 h
  have h3 : 2 ^ m.log2 * 2 ^ (52 - m.log2) ≤ m * 2 ^ (52 - m.log2) := Nat.mul_le_mul_right _ h1
  rw [← Nat.pow_add, show m.log2 + (52 - m.log2) = 52 by omega] at h3
  exact h3
theorem nm_lt {m : Nat} (h : m < 9007199254740992) : nm m < 9007199254740992 := by
  have h1 := Nat.lt_log2_self (n := m)
  have h2 := log2_le52 h
  have h3 : m * 2 ^ (52 - m.log2) < 2 ^ (m.log2 + 1) * 2 ^ (52 - m.log2) := Nat.mul_lt_mul_of_pos_right h1 (Nat.two_pow_pos _)
  rw [← Nat.pow_add, show m.log2 + 1 + (52 - m.log2) = 53 by omega] at h3
  exact h3

theorem nearest_eq (mag : Nat) (p last : Int) (h : mag ≠ 0) (hl : max (p + (mag.log2 : Int) - 52) (-1074) = last) :
    double.nearest false mag p = min ((last - -1074).toNat * 4503599627370496 + Toward.even.cut false (mag <<< (p - last).toNat) (last - p).toNat) 9218868437227405312 := by
  unfold Format.nearest
  rw [if_neg h]
  simp only [d_bin, d_inf, d_least, Format.word, Bool.false_eq_true, if_false]
  rw [← hl]
  rfl

/-- The word nearest to (m * 2^52) * 2^(i - 52), of a place not too low. -/
theorem nearest_up (m : Nat) (p : Int) (l : Nat) (h0 : 0 < m) (hm : m < 9007199254740992) (hp : p + m.log2 + 1074 = l) (hl : l < 2046) :
    double.nearest false (m * 4503599627370496) p = l * 4503599627370496 + nm m := by
  have hlog : (m * 4503599627370496).log2 = m.log2 + 52 := by
    have := log2_mul_pow m 52 (by omega)
    rwa [show (2 : Nat) ^ 52 = 4503599627370496 from rfl] at this
  have h1 := nm_ge h0 hm
  have h2 := nm_lt hm
  have h3 := log2_le52 hm
  have e5 : m * 4503599627370496 = nm m * 2 ^ m.log2 := by
    unfold nm
    rw [Nat.mul_assoc, ← Nat.pow_add, show 52 - m.log2 + m.log2 = 52 by omega]
  have e6 : m.log2 ≤ (nm m * 2 ^ m.log2).log2 + 2 := by
    rw [← e5, hlog]; omega
  rw [nearest_eq (m * 4503599627370496) p ((l : Int) - 1074) (by omega) (by rw [hlog]; omega)]
  have e2 : (p - ((l : Int) - 1074)).toNat = 0 := by omega
  have e3 : ((l : Int) - 1074 - p).toNat = m.log2 := by omega
  have e4 : ((l : Int) - 1074 - -1074).toNat = l := by omega
  rw [e2, e3, e4, Nat.shiftLeft_zero, e5, cut_exact _ _ _ _ e6]
  clear e2 e3 e4 e5 e6 hlog hp h3
  generalize nm m = k at *
  omega

/-- 2^52 and 2^53 as words. -/
theorem read_p52 : double.read 4841369599423283200 = .number false 4503599627370496 0 := by decide
theorem read_p53 : double.read 4845873199050653696 = .number false 4503599627370496 1 := by decide

theorem mul_up (c : Nat) (t : Int) (b l : Nat) (hc : double.read c = .number false 4503599627370496 t) (hn : ngB b = false) (h0 : 0 < rung b) (h : rung b < 9218868437227405312)
    (hl : (pl (rung b) : Int) + (mg (rung b)).log2 + t = l) (hl2 : l < 2046) : double.mul b c = some (l * 4503599627370496 + nm (mg (rung b))) := by
  unfold Format.mul
  rw [read_num b h, hc, hn]
  show some (double.nearest (false ^^ false) (mg (rung b) * 4503599627370496) (-1074 + (pl (rung b) : Int) + t)) = _
  rw [show (false ^^ false) = false from rfl, nearest_up (mg (rung b)) _ l (mg_pos h0) (mg_lt _) (by omega) hl2]

/-- The word of such a product: its rung, and what it stands for. -/
theorem up_parts (l m : Nat) (h0 : 0 < m) (hm : m < 9007199254740992) (hl : l < 2046) :
    rung (l * 4503599627370496 + nm m) = l * 4503599627370496 + nm m ∧ ngB (l * 4503599627370496 + nm m) = false ∧ mg (l * 4503599627370496 + nm m) = nm m ∧ pl (l * 4503599627370496 + nm m) = l := by
  have h1 := nm_ge h0 hm
  have h2 := nm_lt hm
  generalize nm m = k at *
  have e1 : (l * 4503599627370496 + k) / 9223372036854775808 % 2 = 0 := by omega
  have e2 : (l * 4503599627370496 + k) / 4503599627370496 = l + 1 := by omega
  have e3 : (l * 4503599627370496 + k) % 4503599627370496 = k - 4503599627370496 := by omega
  refine ⟨?_, ?_, ?_, ?_⟩
  · unfold rung; omega
  · unfold ngB; rw [e1]; rfl
  · unfold mg
    rw [if_neg (by omega), e3]
    omega
  · unfold pl; omega

/-- A float of a place not above 0 as a whole number. -/
theorem toInt_down (b d : Nat) (hn : ngB b = false) (h : rung b < 9218868437227405312) (hd : pl (rung b) + d = 1074) : (double.read b).toInt .zero = some ((mg (rung b) / 2 ^ d : Nat) : Int) := by
  rw [read_num b h, hn]
  have e1 : (-1074 + (pl (rung b) : Int)).toNat = 0 := by omega
  have e2 : (-(-1074 + (pl (rung b) : Int))).toNat = d := by omega
  simp only [Datum.toInt, Datum.integral, e1, e2, Nat.shiftLeft_zero, cut_zero, signed]
  rfl
end Go.Proofs.YtolpggmcjengcaaDoor

namespace Go.Proofs.YtolpggmcjengcaaDoor
open Go.RowKit
set_option linter.unusedVariables false

@[go_sem] theorem call_from (n : Nat) (w : World) : (callFunc 55 #[.int .u64 (n : Int)]).run Tryd.prog w = .ok (.value (.float .f64 n)) w := by
  rw [run_callFunc_extern (e := Extern.MathFloatBits.float64frombits) Tryd.func55 (by kernel_rfl) (by kernel_rfl) (by kernel_rfl) (by kernel_rfl)]
  rfl
@[go_sem] theorem call_bits (n : Nat) (w : World) : (callFunc 63 #[.float .f64 n]).run Tryd.prog w = .ok (.value (.int .u64 (n : Int))) w := by
  rw [run_callFunc_extern (e := Extern.MathFloatBits.float64bits) Tryd.func63 (by kernel_rfl) (by kernel_rfl) (by kernel_rfl) (by kernel_rfl)]
  rfl

/-! ### plain -/
def nanB (b : Nat) : Bool := decide (9218868437227405312 < rung b)
def infB (b : Nat) : Bool := decide (rung b = 9218868437227405312)
/-- A word with the other sign. -/
def opp (b : Nat) : Nat := b ^^^ 9223372036854775808

theorem ng_iff {b : Nat} (h : b < 18446744073709551616) : ngB b = decide (9223372036854775808 ≤ b) := by
  unfold ngB
  by_cases h1 : 9223372036854775808 ≤ b
  · have : b / 9223372036854775808 % 2 = 1 := by omega
    simp [this, h1]
  · have : b / 9223372036854775808 % 2 = 0 := by omega
    simp [this, h1]
theorem opp_rung (b : Nat) : rung (opp b) = rung b := by
  unfold rung opp
  have := Nat.xor_mod_two_pow (a := b) (b := 9223372036854775808) (n := 63)
  rw [show (2 : Nat) ^ 63 = 9223372036854775808 from rfl, Nat.mod_self, Nat.xor_zero] at this
  exact this
theorem opp_ng {b : Nat} (h : b < 18446744073709551616) : ngB (opp b) = !ngB b := by
  unfold ngB opp
  have := Nat.xor_div_two_pow (a := b) (b := 9223372036854775808) (n := 63)
  rw [show (2 : Nat) ^ 63 = 9223372036854775808 from rfl, show (9223372036854775808 : Nat) / 9223372036854775808 = 1 from rfl] at this
  rw [this]
  have h1 : b / 9223372036854775808 = 0 ∨ b / 9223372036854775808 = 1 := by omega
  rcases h1 with h1 | h1 <;> rw [h1] <;> rfl
theorem sg_max : sg 9218868437227405311 = 9218868437227405311 := by decide
theorem rung_max : rung 9218868437227405311 = 9218868437227405311 := by decide
theorem sg_0 : sg 0 = 0 := by decide
theorem rung_0 : rung 0 = 0 := by decide

theorem nan_eq (b : Nat) : (FloatKind.f64.format.order b b != some .eq) = nanB b := by
  show (!(Ieee.double.order b b == some .eq)) = nanB b
  rw [ord_eq]
  unfold nanB
  by_cases h : 9218868437227405312 < rung b
  · simp [h]
  · simp [h, show rung b ≤ 9218868437227405312 by omega]
theorem inf_plus (b : Nat) : (FloatKind.f64.format.order b 9218868437227405311 == some .gt) = (infB b && !ngB b) := by
  show (Ieee.double.order b 9218868437227405311 == some .gt) = _
  rw [ord_gt, sg_max, rung_max]
  unfold infB sg
  by_cases h : rung b = 9218868437227405312
  · cases ngB b <;> simp [h]
  · cases ngB b <;> simp [h] <;> omega
theorem inf_minus {b : Nat} (hb : b < 18446744073709551616) : (FloatKind.f64.format.order (opp b) 9218868437227405311 == some .gt) = (infB b && ngB b) := by
  rw [inf_plus]
  unfold infB
  rw [opp_rung, opp_ng hb, Bool.not_not]
theorem below_zero (b : Nat) : (FloatKind.f64.format.order b 0 == some .lt) = (!nanB b && ngB b && decide (rung b ≠ 0)) := by
  show (Ieee.double.order b 0 == some .lt) = _
  rw [ord_lt, sg_0, rung_0]
  unfold nanB sg
  by_cases h : 9218868437227405312 < rung b
  · simp [h, show ¬ rung b ≤ 9218868437227405312 by omega]
  · by_cases h2 : rung b = 0 <;> cases ngB b <;> simp [h, h2] <;> omega
theorem above_zero (b : Nat) : (FloatKind.f64.format.order b 0 == some .gt) = (!nanB b && !ngB b && decide (rung b ≠ 0)) := by
  show (Ieee.double.order b 0 == some .gt) = _
  rw [ord_gt, sg_0, rung_0]
  unfold nanB sg
  by_cases h : 9218868437227405312 < rung b
  · simp [h, show ¬ rung b ≤ 9218868437227405312 by omega]
  · by_cases h2 : rung b = 0 <;> cases ngB b <;> simp [h, h2] <;> omega

@[go_sem] theorem run_neg_float (b : Nat) : Op.unary .neg (.float .f64 b) = pure (.float .f64 (opp b)) := rfl

/-- The class. -/
def cls (b : Nat) : Nat := if nanB b then 0 else if infB b then (if ngB b then 1 else 6) else if rung b = 0 then (if ngB b then 3 else 4) else if ngB b then 2 else 5

/-! ### math -/
theorem isnan_any (b : Nat) (w : World) : Calls Tryd.prog 57 #[.float .f64 b] w fun e w' => e = .returned (.bool (nanB b)) ∧ w = w' := by
  rw [← nan_eq]
  go_enter Tryd.func57, Tryd.ntmps57
  go_wp2
  all_goals (go_ret; exact ⟨rfl, rfl⟩)
theorem isinf_minus (b : Nat) (w : World) (hb : b < 18446744073709551616) : Calls Tryd.prog 58 #[.float .f64 b, .int .i64 (-1)] w fun e w' => e = .returned (.bool (infB b && ngB b)) ∧ w = w' := by
  rw [← inf_minus hb]
  go_enter Tryd.func58, Tryd.ntmps58
  go_wp2
  all_goals (go_ret; exact ⟨rfl, rfl⟩)
theorem isinf_plus (b : Nat) (w : World) : Calls Tryd.prog 58 #[.float .f64 b, .int .i64 1] w fun e w' => e = .returned (.bool (infB b && !ngB b)) ∧ w = w' := by
  rw [← inf_plus]
  go_enter Tryd.func58, Tryd.ntmps58
  go_wp2
  all_goals (go_ret; exact ⟨rfl, rfl⟩)
theorem signbit_any (b : Nat) (w : World) (hb : b < 18446744073709551616) : Calls Tryd.prog 59 #[.float .f64 b] w fun e w' => e = .returned (.bool (ngB b)) ∧ w = w' := by
  have e : decide (wrap64 (b : Int) < 0) = ngB b := by
    rw [ng_iff hb]
    unfold wrap64
    by_cases h : 9223372036854775808 ≤ b
    · simp [h]; omega
    · simp [h]; omega
  go_enter Tryd.func59, Tryd.ntmps59
  go_wp2
  all_goals (go_ret; exact ⟨by rw [← e]; rfl, rfl⟩)
theorem class_nan (b : Nat) (w : World) (hb : b < 18446744073709551616) (hn : nanB b = true) : Calls Tryd.prog 53 #[.int .u64 (b : Int)] w fun e w' => e = .returned (.int .i64 (cls b : Int)) ∧ w = w' := by
  have HC : Hid (cls b = 0) := by show _ = _; simp [cls, hn]
  go_enter Tryd.func53, Tryd.ntmps53
  go_wp2_with fail
  refine (isnan_any b w).mono ?_
  rintro e w1 ⟨rfl, rfl⟩
  go_wp2_with fail
  go_ret
  exact ⟨by rw [HC.out]; rfl, rfl⟩

theorem class_minf (b : Nat) (w : World) (hb : b < 18446744073709551616) (hn : nanB b = false) (hi : infB b = true) (hg : ngB b = true) : Calls Tryd.prog 53 #[.int .u64 (b : Int)] w fun e w' => e = .returned (.int .i64 (cls b : Int)) ∧ w = w' := by
  have HC : Hid (cls b = 1) := by show _ = _; simp [cls, hn, hi, hg]
  go_enter Tryd.func53, Tryd.ntmps53
  go_wp2_with fail
  refine (isnan_any b w).mono ?_
  rintro e w1 ⟨rfl, rfl⟩
  go_wp2_with fail
  refine (isinf_minus b w hb).mono ?_
  rintro e w1 ⟨rfl, rfl⟩
  go_wp2_with fail
  go_ret
  exact ⟨by rw [HC.out]; rfl, rfl⟩

theorem class_inf (b : Nat) (w : World) (hb : b < 18446744073709551616) (hn : nanB b = false) (hi : infB b = true) (hg : ngB b = false) : Calls Tryd.prog 53 #[.int .u64 (b : Int)] w fun e w' => e = .returned (.int .i64 (cls b : Int)) ∧ w = w' := by
  have HC : Hid (cls b = 6) := by show _ = _; simp [cls, hn, hi, hg]
  go_enter Tryd.func53, Tryd.ntmps53
  go_wp2_with fail
  refine (isnan_any b w).mono ?_
  rintro e w1 ⟨rfl, rfl⟩
  go_wp2_with fail
  refine (isinf_minus b w hb).mono ?_
  rintro e w1 ⟨rfl, rfl⟩
  go_wp2_with fail
  refine (isinf_plus b w).mono ?_
  rintro e w1 ⟨rfl, rfl⟩
  go_wp2_with fail
  go_ret
  exact ⟨by rw [HC.out]; rfl, rfl⟩

theorem class_minus (b : Nat) (w : World) (hb : b < 18446744073709551616) (hn : nanB b = false) (hi : infB b = false) (hg : ngB b = true) (hz : rung b ≠ 0) : Calls Tryd.prog 53 #[.int .u64 (b : Int)] w fun e w' => e = .returned (.int .i64 (cls b : Int)) ∧ w = w' := by
  have HC : Hid (cls b = 2) := by show _ = _; simp [cls, hn, hi, hg, hz]
  have f1 : (FloatKind.f64.format.order b 0 == some .lt) = true := by rw [below_zero]; simp [hn, hg, hz]
  have f2 : (FloatKind.f64.format.order b 0 == some .gt) = false := by rw [above_zero]; simp [hn, hg, hz]
  clear hz
  go_enter Tryd.func53, Tryd.ntmps53
  go_wp2_with fail
  refine (isnan_any b w).mono ?_
  rintro e w1 ⟨rfl, rfl⟩
  go_wp2_with fail
  refine (isinf_minus b w hb).mono ?_
  rintro e w1 ⟨rfl, rfl⟩
  go_wp2_with fail
  refine (isinf_plus b w).mono ?_
  rintro e w1 ⟨rfl, rfl⟩
  go_wp2_with fail
  go_ret
  exact ⟨by rw [HC.out]; rfl, rfl⟩

theorem class_plus (b : Nat) (w : World) (hb : b < 18446744073709551616) (hn : nanB b = false) (hi : infB b = false) (hg : ngB b = false) (hz : rung b ≠ 0) : Calls Tryd.prog 53 #[.int .u64 (b : Int)] w fun e w' => e = .returned (.int .i64 (cls b : Int)) ∧ w = w' := by
  have HC : Hid (cls b = 5) := by show _ = _; simp [cls, hn, hi, hg, hz]
  have f1 : (FloatKind.f64.format.order b 0 == some .lt) = false := by rw [below_zero]; simp [hn, hg, hz]
  have f2 : (FloatKind.f64.format.order b 0 == some .gt) = true := by rw [above_zero]; simp [hn, hg, hz]
  clear hz
  go_enter Tryd.func53, Tryd.ntmps53
  go_wp2_with fail
  refine (isnan_any b w).mono ?_
  rintro e w1 ⟨rfl, rfl⟩
  go_wp2_with fail
  refine (isinf_minus b w hb).mono ?_
  rintro e w1 ⟨rfl, rfl⟩
  go_wp2_with fail
  refine (isinf_plus b w).mono ?_
  rintro e w1 ⟨rfl, rfl⟩
  go_wp2_with fail
  go_ret
  exact ⟨by rw [HC.out]; rfl, rfl⟩

theorem class_mzero (b : Nat) (w : World) (hb : b < 18446744073709551616) (hn : nanB b = false) (hi : infB b = false) (hg : ngB b = true) (hz : rung b = 0) : Calls Tryd.prog 53 #[.int .u64 (b : Int)] w fun e w' => e = .returned (.int .i64 (cls b : Int)) ∧ w = w' := by
  have HC : Hid (cls b = 3) := by show _ = _; simp [cls, hn, hi, hg, hz]
  have f1 : (FloatKind.f64.format.order b 0 == some .lt) = false := by rw [below_zero]; simp [hn, hg, hz]
  have f2 : (FloatKind.f64.format.order b 0 == some .gt) = false := by rw [above_zero]; simp [hn, hg, hz]
  clear hz
  go_enter Tryd.func53, Tryd.ntmps53
  go_wp2_with fail
  refine (isnan_any b w).mono ?_
  rintro e w1 ⟨rfl, rfl⟩
  go_wp2_with fail
  refine (isinf_minus b w hb).mono ?_
  rintro e w1 ⟨rfl, rfl⟩
  go_wp2_with fail
  refine (isinf_plus b w).mono ?_
  rintro e w1 ⟨rfl, rfl⟩
  go_wp2_with fail
  refine (signbit_any b w hb).mono ?_
  rintro e w1 ⟨rfl, rfl⟩
  go_wp2_with fail
  go_ret
  exact ⟨by rw [HC.out]; rfl, rfl⟩

theorem class_zero (b : Nat) (w : World) (hb : b < 18446744073709551616) (hn : nanB b = false) (hi : infB b = false) (hg : ngB b = false) (hz : rung b = 0) : Calls Tryd.prog 53 #[.int .u64 (b : Int)] w fun e w' => e = .returned (.int .i64 (cls b : Int)) ∧ w = w' := by
  have HC : Hid (cls b = 4) := by show _ = _; simp [cls, hn, hi, hg, hz]
  have f1 : (FloatKind.f64.format.order b 0 == some .lt) = false := by rw [below_zero]; simp [hn, hg, hz]
  have f2 : (FloatKind.f64.format.order b 0 == some .gt) = false := by rw [above_zero]; simp [hn, hg, hz]
  clear hz
  go_enter Tryd.func53, Tryd.ntmps53
  go_wp2_with fail
  refine (isnan_any b w).mono ?_
  rintro e w1 ⟨rfl, rfl⟩
  go_wp2_with fail
  refine (isinf_minus b w hb).mono ?_
  rintro e w1 ⟨rfl, rfl⟩
  go_wp2_with fail
  refine (isinf_plus b w).mono ?_
  rintro e w1 ⟨rfl, rfl⟩
  go_wp2_with fail
  refine (signbit_any b w hb).mono ?_
  rintro e w1 ⟨rfl, rfl⟩
  go_wp2_with fail
  go_ret
  exact ⟨by rw [HC.out]; rfl, rfl⟩

/-- real.Class. -/
theorem class_any (b : Nat) (w : World) (hb : b < 18446744073709551616) : Calls Tryd.prog 53 #[.int .u64 (b : Int)] w fun e w' => e = .returned (.int .i64 (cls b : Int)) ∧ w = w' := by
  cases hn : nanB b
  · cases hi : infB b <;> cases hg : ngB b
    · by_cases hz : rung b = 0
      · exact class_zero b w hb hn hi hg hz
      · exact class_plus b w hb hn hi hg hz
    · by_cases hz : rung b = 0
      · exact class_mzero b w hb hn hi hg hz
      · exact class_minus b w hb hn hi hg hz
    · exact class_inf b w hb hn hi hg
    · exact class_minf b w hb hn hi hg
  · exact class_nan b w hb hn
end Go.Proofs.YtolpggmcjengcaaDoor
