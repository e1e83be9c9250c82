/-
  Package real: keys, the order, numbers without edges; the reference's.
-/
import Derived.Test.YtolpggmcjengcaaDoorReal
namespace Go.Proofs.YtolpggmcjengcaaDoor
open Go.RowKit
set_option linter.unusedVariables false

/-! ### the reference's class -/
theorem fields_any (b : Nat) (w : World) (hb : b < 18446744073709551616) : Calls Tryd.prog 36 #[.int .u64 (b : Int)] w fun e w' =>
    e = .returned (.tuple #[.int .u64 ((b / 9223372036854775808 : Nat) : Int), .int .u64 ((b / 4503599627370496 % 2048 : Nat) : Int), .int .u64 ((b % 4503599627370496 : Nat) : Int)]) ∧ w = w' := by
  go_enter Tryd.func36, Tryd.ntmps36
  go_wp2
  go_ret3
  refine ⟨?_, rfl⟩
  congr 1

theorem rung_ef (b : Nat) : rung b = b / 4503599627370496 % 2048 * 4503599627370496 + b % 4503599627370496 := by unfold rung; omega
theorem ng_s {b : Nat} (hb : b < 18446744073709551616) : ngB b = decide (b / 9223372036854775808 = 1) := by
  rw [ng_iff hb]
  by_cases h : 9223372036854775808 ≤ b
  · simp [h]; omega
  · simp [h]; omega
theorem rclass_nan (b : Nat) (w : World) (hb : b < 18446744073709551616) (s e f : Nat) (hs : Hid (b / 9223372036854775808 = s)) (he : Hid (b / 4503599627370496 % 2048 = e)) (hf : Hid (b % 4503599627370496 = f)) (h1 : e = 2047) (h2 : f ≠ 0) :
    Calls Tryd.prog 21 #[.int .u64 (b : Int)] w fun e w' => e = .returned (.int .i64 (cls b : Int)) ∧ w = w' := by
  have HC : Hid (cls b = 0) := by
    have h1 := rung_ef b
    have h2 := ng_s hb
    have h3 := hs.out; have h4 := he.out; have h5 := hf.out
    have hf2 : f < 4503599627370496 := by omega
    have he2 : e < 2048 := by omega
    have hs2 : s < 2 := by omega
    rw [h3] at h2
    rw [h4, h5] at h1
    clear h3 h4 h5 hs he hf hb
    show _ = _
    unfold cls nanB infB
    rw [h1, h2]
    (repeat' split) <;> simp_all <;> omega
  subst h1
  have hf0 : ((f : Int) == 0) = false := by rw [beq_eq_false_iff_ne]; omega
  clear h2
  go_enter Tryd.func21, Tryd.ntmps21
  go_wp2_with fail
  refine (fields_any b w hb).mono ?_
  rintro e' w1 ⟨rfl, rfl⟩
  rw [hs.out, he.out, hf.out]
  go_wp2
  go_ret
  exact ⟨by rw [HC.out]; rfl, rfl⟩
theorem rclass_minf (b : Nat) (w : World) (hb : b < 18446744073709551616) (s e f : Nat) (hs : Hid (b / 9223372036854775808 = s)) (he : Hid (b / 4503599627370496 % 2048 = e)) (hf : Hid (b % 4503599627370496 = f)) (h1 : e = 2047) (h2 : f = 0) (h3 : s = 1) :
    Calls Tryd.prog 21 #[.int .u64 (b : Int)] w fun e w' => e = .returned (.int .i64 (cls b : Int)) ∧ w = w' := by
  have HC : Hid (cls b = 1) := by
    have h1 := rung_ef b
    have h2 := ng_s hb
    have h3 := hs.out; have h4 := he.out; have h5 := hf.out
    have hf2 : f < 4503599627370496 := by omega
    have he2 : e < 2048 := by omega
    have hs2 : s < 2 := by omega
    rw [h3] at h2
    rw [h4, h5] at h1
    clear h3 h4 h5 hs he hf hb
    show _ = _
    unfold cls nanB infB
    rw [h1, h2]
    (repeat' split) <;> simp_all <;> omega
  subst h1 h2 h3
  go_enter Tryd.func21, Tryd.ntmps21
  go_wp2_with fail
  refine (fields_any b w hb).mono ?_
  rintro e' w1 ⟨rfl, rfl⟩
  rw [hs.out, he.out, hf.out]
  go_wp2
  go_ret
  exact ⟨by rw [HC.out]; rfl, rfl⟩
theorem rclass_inf (b : Nat) (w : World) (hb : b < 18446744073709551616) (s e f : Nat) (hs : Hid (b / 9223372036854775808 = s)) (he : Hid (b / 4503599627370496 % 2048 = e)) (hf : Hid (b % 4503599627370496 = f)) (h1 : e = 2047) (h2 : f = 0) (h3 : s = 0) :
    Calls Tryd.prog 21 #[.int .u64 (b : Int)] w fun e w' => e = .returned (.int .i64 (cls b : Int)) ∧ w = w' := by
  have HC : Hid (cls b = 6) := by
    have h1 := rung_ef b
    have h2 := ng_s hb
    have h3 := hs.out; have h4 := he.out; have h5 := hf.out
    have hf2 : f < 4503599627370496 := by omega
    have he2 : e < 2048 := by omega
    have hs2 : s < 2 := by omega
    rw [h3] at h2
    rw [h4, h5] at h1
    clear h3 h4 h5 hs he hf hb
    show _ = _
    unfold cls nanB infB
    rw [h1, h2]
    (repeat' split) <;> simp_all <;> omega
  subst h1 h2 h3
  go_enter Tryd.func21, Tryd.ntmps21
  go_wp2_with fail
  refine (fields_any b w hb).mono ?_
  rintro e' w1 ⟨rfl, rfl⟩
  rw [hs.out, he.out, hf.out]
  go_wp2
  go_ret
  exact ⟨by rw [HC.out]; rfl, rfl⟩
theorem rclass_mzero (b : Nat) (w : World) (hb : b < 18446744073709551616) (s e f : Nat) (hs : Hid (b / 9223372036854775808 = s)) (he : Hid (b / 4503599627370496 % 2048 = e)) (hf : Hid (b % 4503599627370496 = f)) (h1 : e = 0) (h2 : f = 0) (h3 : s = 1) :
    Calls Tryd.prog 21 #[.int .u64 (b : Int)] w fun e w' => e = .returned (.int .i64 (cls b : Int)) ∧ w = w' := by
  have HC : Hid (cls b = 3) := by
    have h1 := rung_ef b
    have h2 := ng_s hb
    have h3 := hs.out; have h4 := he.out; have h5 := hf.out
    have hf2 : f < 4503599627370496 := by omega
    have he2 : e < 2048 := by omega
    have hs2 : s < 2 := by omega
    rw [h3] at h2
    rw [h4, h5] at h1
    clear h3 h4 h5 hs he hf hb
    show _ = _
    unfold cls nanB infB
    rw [h1, h2]
    (repeat' split) <;> simp_all <;> omega
  subst h1 h2 h3
  go_enter Tryd.func21, Tryd.ntmps21
  go_wp2_with fail
  refine (fields_any b w hb).mono ?_
  rintro e' w1 ⟨rfl, rfl⟩
  rw [hs.out, he.out, hf.out]
  go_wp2
  go_ret
  exact ⟨by rw [HC.out]; rfl, rfl⟩
theorem rclass_zero (b : Nat) (w : World) (hb : b < 18446744073709551616) (s e f : Nat) (hs : Hid (b / 9223372036854775808 = s)) (he : Hid (b / 4503599627370496 % 2048 = e)) (hf : Hid (b % 4503599627370496 = f)) (h1 : e = 0) (h2 : f = 0) (h3 : s = 0) :
    Calls Tryd.prog 21 #[.int .u64 (b : Int)] w fun e w' => e = .returned (.int .i64 (cls b : Int)) ∧ w = w' := by
  have HC : Hid (cls b = 4) := by
    have h1 := rung_ef b
    have h2 := ng_s hb
    have h3 := hs.out; have h4 := he.out; have h5 := hf.out
    have hf2 : f < 4503599627370496 := by omega
    have he2 : e < 2048 := by omega
    have hs2 : s < 2 := by omega
    rw [h3] at h2
    rw [h4, h5] at h1
    clear h3 h4 h5 hs he hf hb
    show _ = _
    unfold cls nanB infB
    rw [h1, h2]
    (repeat' split) <;> simp_all <;> omega
  subst h1 h2 h3
  go_enter Tryd.func21, Tryd.ntmps21
  go_wp2_with fail
  refine (fields_any b w hb).mono ?_
  rintro e' w1 ⟨rfl, rfl⟩
  rw [hs.out, he.out, hf.out]
  go_wp2
  go_ret
  exact ⟨by rw [HC.out]; rfl, rfl⟩
theorem rclass_minus1 (b : Nat) (w : World) (hb : b < 18446744073709551616) (s e f : Nat) (hs : Hid (b / 9223372036854775808 = s)) (he : Hid (b / 4503599627370496 % 2048 = e)) (hf : Hid (b % 4503599627370496 = f)) (h1 : e ≠ 2047) (h2 : e ≠ 0) (h3 : s = 1) :
    Calls Tryd.prog 21 #[.int .u64 (b : Int)] w fun e w' => e = .returned (.int .i64 (cls b : Int)) ∧ w = w' := by
  have HC : Hid (cls b = 2) := by
    have h1 := rung_ef b
    have h2 := ng_s hb
    have h3 := hs.out; have h4 := he.out; have h5 := hf.out
    have hf2 : f < 4503599627370496 := by omega
    have he2 : e < 2048 := by omega
    have hs2 : s < 2 := by omega
    rw [h3] at h2
    rw [h4, h5] at h1
    clear h3 h4 h5 hs he hf hb
    show _ = _
    unfold cls nanB infB
    rw [h1, h2]
    (repeat' split) <;> simp_all <;> omega
  subst h3
  have he1 : ((e : Int) == 2047) = false := by rw [beq_eq_false_iff_ne]; omega
  have he0 : ((e : Int) == 0) = false := by rw [beq_eq_false_iff_ne]; omega
  clear h1 h2
  go_enter Tryd.func21, Tryd.ntmps21
  go_wp2_with fail
  refine (fields_any b w hb).mono ?_
  rintro e' w1 ⟨rfl, rfl⟩
  rw [hs.out, he.out, hf.out]
  go_wp2
  go_ret
  exact ⟨by rw [HC.out]; rfl, rfl⟩
theorem rclass_minus2 (b : Nat) (w : World) (hb : b < 18446744073709551616) (s e f : Nat) (hs : Hid (b / 9223372036854775808 = s)) (he : Hid (b / 4503599627370496 % 2048 = e)) (hf : Hid (b % 4503599627370496 = f)) (h1 : e = 0) (h2 : f ≠ 0) (h3 : s = 1) :
    Calls Tryd.prog 21 #[.int .u64 (b : Int)] w fun e w' => e = .returned (.int .i64 (cls b : Int)) ∧ w = w' := by
  have HC : Hid (cls b = 2) := by
    have h1 := rung_ef b
    have h2 := ng_s hb
    have h3 := hs.out; have h4 := he.out; have h5 := hf.out
    have hf2 : f < 4503599627370496 := by omega
    have he2 : e < 2048 := by omega
    have hs2 : s < 2 := by omega
    rw [h3] at h2
    rw [h4, h5] at h1
    clear h3 h4 h5 hs he hf hb
    show _ = _
    unfold cls nanB infB
    rw [h1, h2]
    (repeat' split) <;> simp_all <;> omega
  subst h1 h3
  have hf0 : ((f : Int) == 0) = false := by rw [beq_eq_false_iff_ne]; omega
  clear h2
  go_enter Tryd.func21, Tryd.ntmps21
  go_wp2_with fail
  refine (fields_any b w hb).mono ?_
  rintro e' w1 ⟨rfl, rfl⟩
  rw [hs.out, he.out, hf.out]
  go_wp2
  go_ret
  exact ⟨by rw [HC.out]; rfl, rfl⟩
theorem rclass_plus1 (b : Nat) (w : World) (hb : b < 18446744073709551616) (s e f : Nat) (hs : Hid (b / 9223372036854775808 = s)) (he : Hid (b / 4503599627370496 % 2048 = e)) (hf : Hid (b % 4503599627370496 = f)) (h1 : e ≠ 2047) (h2 : e ≠ 0) (h3 : s = 0) :
    Calls Tryd.prog 21 #[.int .u64 (b : Int)] w fun e w' => e = .returned (.int .i64 (cls b : Int)) ∧ w = w' := by
  have HC : Hid (cls b = 5) := by
    have h1 := rung_ef b
    have h2 := ng_s hb
    have h3 := hs.out; have h4 := he.out; have h5 := hf.out
    have hf2 : f < 4503599627370496 := by omega
    have he2 : e < 2048 := by omega
    have hs2 : s < 2 := by omega
    rw [h3] at h2
    rw [h4, h5] at h1
    clear h3 h4 h5 hs he hf hb
    show _ = _
    unfold cls nanB infB
    rw [h1, h2]
    (repeat' split) <;> simp_all <;> omega
  subst h3
  have he1 : ((e : Int) == 2047) = false := by rw [beq_eq_false_iff_ne]; omega
  have he0 : ((e : Int) == 0) = false := by rw [beq_eq_false_iff_ne]; omega
  clear h1 h2
  go_enter Tryd.func21, Tryd.ntmps21
  go_wp2_with fail
  refine (fields_any b w hb).mono ?_
  rintro e' w1 ⟨rfl, rfl⟩
  rw [hs.out, he.out, hf.out]
  go_wp2
  go_ret
  exact ⟨by rw [HC.out]; rfl, rfl⟩
theorem rclass_plus2 (b : Nat) (w : World) (hb : b < 18446744073709551616) (s e f : Nat) (hs : Hid (b / 9223372036854775808 = s)) (he : Hid (b / 4503599627370496 % 2048 = e)) (hf : Hid (b % 4503599627370496 = f)) (h1 : e = 0) (h2 : f ≠ 0) (h3 : s = 0) :
    Calls Tryd.prog 21 #[.int .u64 (b : Int)] w fun e w' => e = .returned (.int .i64 (cls b : Int)) ∧ w = w' := by
  have HC : Hid (cls b = 5) := by
    have h1 := rung_ef b
    have h2 := ng_s hb
    have h3 := hs.out; have h4 := he.out; have h5 := hf.out
    have hf2 : f < 4503599627370496 := by omega
    have he2 : e < 2048 := by omega
    have hs2 : s < 2 := by omega
    rw [h3] at h2
    rw [h4, h5] at h1
    clear h3 h4 h5 hs he hf hb
    show _ = _
    unfold cls nanB infB
    rw [h1, h2]
    (repeat' split) <;> simp_all <;> omega
  subst h1 h3
  have hf0 : ((f : Int) == 0) = false := by rw [beq_eq_false_iff_ne]; omega
  clear h2
  go_enter Tryd.func21, Tryd.ntmps21
  go_wp2_with fail
  refine (fields_any b w hb).mono ?_
  rintro e' w1 ⟨rfl, rfl⟩
  rw [hs.out, he.out, hf.out]
  go_wp2
  go_ret
  exact ⟨by rw [HC.out]; rfl, rfl⟩
/-- ref.Class. -/
theorem rclass_any (b : Nat) (w : World) (hb : b < 18446744073709551616) : Calls Tryd.prog 21 #[.int .u64 (b : Int)] w fun e w' => e = .returned (.int .i64 (cls b : Int)) ∧ w = w' := by
  have hs := Lib.hid (rfl : b / 9223372036854775808 = b / 9223372036854775808)
  have he := Lib.hid (rfl : b / 4503599627370496 % 2048 = b / 4503599627370496 % 2048)
  have hf := Lib.hid (rfl : b % 4503599627370496 = b % 4503599627370496)
  have hs2 : b / 9223372036854775808 = 0 ∨ b / 9223372036854775808 = 1 := by omega
  by_cases h1 : b / 4503599627370496 % 2048 = 2047
  · by_cases h2 : b % 4503599627370496 = 0
    · rcases hs2 with h3 | h3
      · exact rclass_inf b w hb _ _ _ hs he hf h1 h2 h3
      · exact rclass_minf b w hb _ _ _ hs he hf h1 h2 h3
    · exact rclass_nan b w hb _ _ _ hs he hf h1 h2
  · by_cases h0 : b / 4503599627370496 % 2048 = 0
    · by_cases h2 : b % 4503599627370496 = 0
      · rcases hs2 with h3 | h3
        · exact rclass_zero b w hb _ _ _ hs he hf h0 h2 h3
        · exact rclass_mzero b w hb _ _ _ hs he hf h0 h2 h3
      · rcases hs2 with h3 | h3
        · exact rclass_plus2 b w hb _ _ _ hs he hf h0 h2 h3
        · exact rclass_minus2 b w hb _ _ _ hs he hf h0 h2 h3
    · rcases hs2 with h3 | h3
      · exact rclass_plus1 b w hb _ _ _ hs he hf h1 h0 h3
      · exact rclass_minus1 b w hb _ _ _ hs he hf h1 h0 h3
end Go.Proofs.YtolpggmcjengcaaDoor
