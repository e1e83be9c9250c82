import Derived.Test.YtiooadmahnnogaaRef01b
import Derived.Test.YtiooadmahnnogaaOct1
namespace Go.Proofs.Ytiooadmahnnogaa
open Go.RowKit
set_option linter.unusedVariables false

def fitB (k : Int) (n : Nat) : Bool := isW k && decide (n < 256 ^ k.toNat)

theorem fit_eq (k n : Nat) (h : isW k = true) : (((leV (leB k n) : Nat) : Int) == (n : Int)) = fitB k n := by
  rw [leV_leB]
  unfold fitB
  rw [h, Bool.true_and, Int.toNat_natCast, Bool.eq_iff_iff]
  have hp : 0 < 256 ^ k := Nat.pow_pos (by omega)
  simp only [beq_iff_eq, decide_eq_true_eq]
  constructor
  · intro e
    have := Nat.mod_lt n hp
    omega
  · intro hlt
    rw [Nat.mod_eq_of_lt hlt]

set_option maxHeartbeats 400000 in
/-- ref.Fits. -/
theorem rfits_any (k : Int) (n : Nat) (w : World) (hn : n ≤ 18446744073709551615) :
    Calls Try.prog 13 #[.int .i64 k, .int .u64 n] w fun e w' => e = .returned (.bool (fitB k n)) ∧ Below w.heap.size w w' := by
  rcases hw : isW k with _ | _
  · have hf : fitB k n = false := by simp [fitB, hw]
    have HW := Lib.hid hw
    clear hw
    go_enter Try.func13, Try.ntmps13
    go_wp2_with fail
    refine (width_any _ _).mono ?_
    rintro e w' ⟨rfl, rfl⟩
    rw [HW.out]
    go_wp2_with fail
    go_ret
    exact ⟨by rw [hf]; rfl, Below.refl _ _⟩
  · obtain ⟨m, rfl⟩ : ∃ m : Nat, k = m := ⟨k.toNat, by have := isW_cases hw; omega⟩
    have hm : m ≤ 8 := by have := isW_cases hw; omega
    have HF := Lib.hid (fit_eq m n hw)
    have HW := Lib.hid hw
    clear hw
    go_enter Try.func13, Try.ntmps13
    go_wp2_with fail
    refine (width_any _ _).mono ?_
    rintro e w' ⟨rfl, rfl⟩
    rw [HW.out]
    go_wp2_with fail
    refine (bytes_any m n _ (by omega) hn).mono ?_
    rintro e w1 ⟨A, q, c, rfl, hq, hown, hc1, hc2, hbs, hb⟩
    go_wp2_with fail
    refine (number_any A _ c (leB m n) _ _ hq.out hbs (by have := hq.out; simp at this; omega)).mono ?_
    rintro e w2 ⟨rfl, rfl⟩
    go_wp2_with fail
    go_ret
    exact ⟨by rw [← HF.out]; rfl, hb⟩

set_option maxHeartbeats 400000 in
/-- octet.Fits. -/
theorem ofits_any (k : Int) (n : Nat) (w : World) (hn : n ≤ 18446744073709551615) :
    Calls Try.prog 12 #[.int .i64 k, .int .u64 n] w fun e w' => e = .returned (.bool (fitB k n)) ∧ w = w' := by
  rcases hw : isW k with _ | _
  · have hf : fitB k n = false := by simp [fitB, hw]
    have hs : sizeI k = 0 := by simp [sizeI, hw]
    have HS := Lib.hid hs
    clear hw hs
    go_enter Try.func12, Try.ntmps12
    go_wp2_with fail
    refine (size_any _ _).mono ?_
    rintro e w' ⟨rfl, rfl⟩
    rw [HS.out]
    go_wp2_with fail
    go_ret
    exact ⟨by rw [hf]; rfl, rfl⟩
  · rcases isW_cases hw with rfl | rfl | rfl | rfl
    all_goals clear hw
    · have HE : Hid (((n : Int) / 256 == 0) = fitB 1 n) := by
        show _ = _
        rw [Bool.eq_iff_iff]
        simp [fitB, isW]
        omega
      go_enter Try.func12, Try.ntmps12
      go_wp2_with fail
      refine (size_any _ _).mono ?_
      rintro e w' ⟨rfl, rfl⟩
      rw [show sizeI 1 = 1 from rfl]
      go_wp2_with fail
      go_ret
      exact ⟨by rw [← HE.out]; rfl, rfl⟩
    · have HE : Hid (((n : Int) / 65536 == 0) = fitB 2 n) := by
        show _ = _
        rw [Bool.eq_iff_iff]
        simp [fitB, isW]
        omega
      go_enter Try.func12, Try.ntmps12
      go_wp2_with fail
      refine (size_any _ _).mono ?_
      rintro e w' ⟨rfl, rfl⟩
      rw [show sizeI 2 = 2 from rfl]
      go_wp2_with fail
      go_ret
      exact ⟨by rw [← HE.out]; rfl, rfl⟩
    · have HE : Hid (((n : Int) / 4294967296 == 0) = fitB 4 n) := by
        show _ = _
        rw [Bool.eq_iff_iff]
        simp [fitB, isW]
        omega
      go_enter Try.func12, Try.ntmps12
      go_wp2_with fail
      refine (size_any _ _).mono ?_
      rintro e w' ⟨rfl, rfl⟩
      rw [show sizeI 4 = 4 from rfl]
      go_wp2_with fail
      go_ret
      exact ⟨by rw [← HE.out]; rfl, rfl⟩
    · have HE : Hid (((n : Int) / 18446744073709551616 == 0) = fitB 8 n) := by
        show _ = _
        rw [Bool.eq_iff_iff]
        simp [fitB, isW]
        omega
      go_enter Try.func12, Try.ntmps12
      go_wp2_with fail
      refine (size_any _ _).mono ?_
      rintro e w' ⟨rfl, rfl⟩
      rw [show sizeI 8 = 8 from rfl]
      go_wp2_with fail
      go_ret
      exact ⟨by rw [← HE.out]; rfl, rfl⟩
end Go.Proofs.Ytiooadmahnnogaa
