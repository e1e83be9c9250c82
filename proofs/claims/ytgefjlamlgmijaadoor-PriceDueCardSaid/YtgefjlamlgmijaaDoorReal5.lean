/-
  The reference's parts.
-/
import Derived.Test.YtgefjlamlgmijaaDoorReal3
import Derived.Test.YtgefjlamlgmijaaDoorRealQ
namespace Go.Proofs.YtgefjlamlgmijaaDoor
open Go.RowKit
set_option linter.unusedVariables false

def partsM (b : Nat) : Nat := if cls b = 5 then odd (mg (rung b)) else 0
def partsE (b : Nat) : Int := if cls b = 5 then -1074 + (pl (rung b) : Int) + (tz (mg (rung b)) : Int) else 0
def partsI (b : Nat) : Bool := decide (cls b = 3 ∨ cls b = 4 ∨ cls b = 5)

theorem cls5 {b : Nat} (hb : b < 18446744073709551616) (h : cls b = 5) : 0 < b ∧ b < 9218868437227405312 ∧ rung b = b := by
  rcases cls_where hb with h' | h' | h' | h' | h' | h' | h' | h' <;> first | omega | (refine ⟨by omega, by omega, ?_⟩; unfold rung; omega)
theorem rparts_0 (b : Nat) (w : World) (hb : b < 18446744073709551616) (hc : cls b = 0) : Calls Tryd.prog 18 #[.int .u64 (b : Int)] w fun e w' => e = .returned (.tuple #[.int .u64 (partsM b : Int), .int .i64 (partsE b), .bool (partsI b)]) ∧ w = w' := by
  have HM : Hid (partsM b = 0) := by show _ = _; simp [partsM, hc]
  have HE : Hid (partsE b = 0) := by show _ = _; simp [partsE, hc]
  have HI : Hid (partsI b = false) := by show _ = _; simp [partsI, hc]
  have HC := Lib.hid hc
  clear hc
  go_enter Tryd.func18, Tryd.ntmps18
  go_wp2_with fail
  refine (rclass_any b w hb).mono ?_
  rintro e' w1 ⟨rfl, rfl⟩
  rw [HC.out]
  go_wp2_with fail
  go_ret3
  exact ⟨by rw [HM.out, HE.out, HI.out]; rfl, rfl⟩
theorem rparts_1 (b : Nat) (w : World) (hb : b < 18446744073709551616) (hc : cls b = 1) : Calls Tryd.prog 18 #[.int .u64 (b : Int)] w fun e w' => e = .returned (.tuple #[.int .u64 (partsM b : Int), .int .i64 (partsE b), .bool (partsI b)]) ∧ w = w' := by
  have HM : Hid (partsM b = 0) := by show _ = _; simp [partsM, hc]
  have HE : Hid (partsE b = 0) := by show _ = _; simp [partsE, hc]
  have HI : Hid (partsI b = false) := by show _ = _; simp [partsI, hc]
  have HC := Lib.hid hc
  clear hc
  go_enter Tryd.func18, Tryd.ntmps18
  go_wp2_with fail
  refine (rclass_any b w hb).mono ?_
  rintro e' w1 ⟨rfl, rfl⟩
  rw [HC.out]
  go_wp2_with fail
  go_ret3
  exact ⟨by rw [HM.out, HE.out, HI.out]; rfl, rfl⟩
theorem rparts_2 (b : Nat) (w : World) (hb : b < 18446744073709551616) (hc : cls b = 2) : Calls Tryd.prog 18 #[.int .u64 (b : Int)] w fun e w' => e = .returned (.tuple #[.int .u64 (partsM b : Int), .int .i64 (partsE b), .bool (partsI b)]) ∧ w = w' := by
  have HM : Hid (partsM b = 0) := by show _ = _; simp [partsM, hc]
  have HE : Hid (partsE b = 0) := by show _ = _; simp [partsE, hc]
  have HI : Hid (partsI b = false) := by show _ = _; simp [partsI, hc]
  have HC := Lib.hid hc
  clear hc
  go_enter Tryd.func18, Tryd.ntmps18
  go_wp2_with fail
  refine (rclass_any b w hb).mono ?_
  rintro e' w1 ⟨rfl, rfl⟩
  rw [HC.out]
  go_wp2_with fail
  go_ret3
  exact ⟨by rw [HM.out, HE.out, HI.out]; rfl, rfl⟩
theorem rparts_3 (b : Nat) (w : World) (hb : b < 18446744073709551616) (hc : cls b = 3) : Calls Tryd.prog 18 #[.int .u64 (b : Int)] w fun e w' => e = .returned (.tuple #[.int .u64 (partsM b : Int), .int .i64 (partsE b), .bool (partsI b)]) ∧ w = w' := by
  have HM : Hid (partsM b = 0) := by show _ = _; simp [partsM, hc]
  have HE : Hid (partsE b = 0) := by show _ = _; simp [partsE, hc]
  have HI : Hid (partsI b = true) := by show _ = _; simp [partsI, hc]
  have HC := Lib.hid hc
  clear hc
  go_enter Tryd.func18, Tryd.ntmps18
  go_wp2_with fail
  refine (rclass_any b w hb).mono ?_
  rintro e' w1 ⟨rfl, rfl⟩
  rw [HC.out]
  go_wp2_with fail
  go_ret3
  exact ⟨by rw [HM.out, HE.out, HI.out]; rfl, rfl⟩
theorem rparts_4 (b : Nat) (w : World) (hb : b < 18446744073709551616) (hc : cls b = 4) : Calls Tryd.prog 18 #[.int .u64 (b : Int)] w fun e w' => e = .returned (.tuple #[.int .u64 (partsM b : Int), .int .i64 (partsE b), .bool (partsI b)]) ∧ w = w' := by
  have HM : Hid (partsM b = 0) := by show _ = _; simp [partsM, hc]
  have HE : Hid (partsE b = 0) := by show _ = _; simp [partsE, hc]
  have HI : Hid (partsI b = true) := by show _ = _; simp [partsI, hc]
  have HC := Lib.hid hc
  clear hc
  go_enter Tryd.func18, Tryd.ntmps18
  go_wp2_with fail
  refine (rclass_any b w hb).mono ?_
  rintro e' w1 ⟨rfl, rfl⟩
  rw [HC.out]
  go_wp2_with fail
  go_ret3
  exact ⟨by rw [HM.out, HE.out, HI.out]; rfl, rfl⟩
theorem rparts_6 (b : Nat) (w : World) (hb : b < 18446744073709551616) (hc : cls b = 6) : Calls Tryd.prog 18 #[.int .u64 (b : Int)] w fun e w' => e = .returned (.tuple #[.int .u64 (partsM b : Int), .int .i64 (partsE b), .bool (partsI b)]) ∧ w = w' := by
  have HM : Hid (partsM b = 0) := by show _ = _; simp [partsM, hc]
  have HE : Hid (partsE b = 0) := by show _ = _; simp [partsE, hc]
  have HI : Hid (partsI b = false) := by show _ = _; simp [partsI, hc]
  have HC := Lib.hid hc
  clear hc
  go_enter Tryd.func18, Tryd.ntmps18
  go_wp2_with fail
  refine (rclass_any b w hb).mono ?_
  rintro e' w1 ⟨rfl, rfl⟩
  rw [HC.out]
  go_wp2_with fail
  go_ret3
  exact ⟨by rw [HM.out, HE.out, HI.out]; rfl, rfl⟩
set_option maxHeartbeats 400000 in
theorem rparts_5 (b : Nat) (w : World) (hb : b < 18446744073709551616) (hc : cls b = 5) (hi : 0 < b / 4503599627370496 % 2048) : Calls Tryd.prog 18 #[.int .u64 (b : Int)] w fun e w' => e = .returned (.tuple #[.int .u64 (partsM b : Int), .int .i64 (partsE b), .bool (partsI b)]) ∧ w = w' := by
  obtain ⟨hb0, hb1, hr⟩ := cls5 hb hc
  have hm : mg (rung b) = b % 4503599627370496 + 4503599627370496 := by rw [hr]; unfold mg; rw [if_neg (by omega)]; omega
  have hp : (-1074 + (pl (rung b) : Int)) = ((b / 4503599627370496 % 2048 : Nat) : Int) - 1075 := by rw [hr]; unfold pl; omega
  have h0 := mg_pos (show 0 < rung b by omega)
  have hl := mg_lt (rung b)
  have HM : Hid (partsM b = mg (rung b) / 2 ^ tz (mg (rung b))) := by show _ = _; simp [partsM, hc, odd]
  have HE : Hid (partsE b = ((b / 4503599627370496 % 2048 : Nat) : Int) - 1075 + (tz (mg (rung b)) : Int)) := by show _ = _; simp only [partsE, hc, if_true, hp]
  have HI : Hid (partsI b = true) := by show _ = _; simp [partsI, hc]
  have HC := Lib.hid hc
  obtain ⟨-, -, -, hz⟩ := odd_spec h0 hl
  obtain ⟨M, hM⟩ : ∃ M, mg (rung b) = M := ⟨_, rfl⟩
  have hS := fun j hj => half_step h0 hl j hj
  have hT := half_end h0 hl
  rw [hM] at hm h0 hl HM HE hz hS hT
  obtain ⟨z, hz'⟩ : ∃ z, tz M = z := ⟨_, rfl⟩
  rw [hz'] at HM HE hz hS hT
  obtain ⟨e, he⟩ : ∃ e, b / 4503599627370496 % 2048 = e := ⟨_, rfl⟩
  obtain ⟨f, hf⟩ : ∃ f, b % 4503599627370496 = f := ⟨_, rfl⟩
  rw [he] at HE hi
  rw [hf] at hm
  have he2 : e < 2048 := by omega
  have hf2 : f < 4503599627370496 := by omega
  have HMM : Hid (f + 4503599627370496 = M) := hm.symm
  have HF1 := Lib.hid he
  have HF2 := Lib.hid hf
  clear hM hz' he hf hm hp hr hc hb1
  go_enter Tryd.func18, Tryd.ntmps18
  go_wp2_with fail
  refine (rclass_any b w hb).mono ?_
  rintro e' w1 ⟨rfl, rfl⟩
  rw [HC.out]
  go_wp2_with fail
  refine (fields_any b w hb).mono ?_
  rintro e' w1 ⟨rfl, rfl⟩
  rw [HF1.out, HF2.out]
  go_wp2_with fail
  go_loop [8, 9] (fun x p => ∃ j : Nat, j ≤ z ∧ x = .int .u64 ((M / 2 ^ j : Nat) : Int) ∧ p = .int .i64 ((e : Int) - 1075 + j)) (fun _ p => ((e : Int) - 1075 + z - intOf p).toNat)
  case atStart => exact ⟨0, Nat.zero_le _, by rw [Nat.pow_zero, Nat.div_one, ← HMM.out]; rfl, by simp⟩
  case round =>
    obtain ⟨j, hj, rfl, rfl⟩ := hrel
    have hle := Nat.div_le_self M (2 ^ j)
    by_cases hlt : j < z
    · obtain ⟨h1, h2⟩ := hS j hlt
      have HX := Lib.hid h2
      clear hS h2
      obtain ⟨x, hx⟩ : ∃ x, M / 2 ^ j = x := ⟨_, rfl⟩
      rw [hx] at h1 hle HX ⊢
      clear hx
      have h3 : (((x : Int) % 2) == 0) = true := by rw [beq_iff_eq]; omega
      go_wp2
      go_round
      case rel => exact ⟨j + 1, by omega, by rw [← HX.out]; go_num, by go_num⟩
      case measure => simp [intOf]; omega
    · obtain rfl : j = z := by omega
      clear hS
      obtain ⟨x, hx⟩ : ∃ x, M / 2 ^ j = x := ⟨_, rfl⟩
      rw [hx] at hT hle HM ⊢
      clear hx
      have h3 : (((x : Int) % 2) == 0) = false := by rw [beq_eq_false_iff_ne]; omega
      go_wp2
      go_ret3
      exact ⟨by rw [HM.out, HE.out, HI.out]; rfl, rfl⟩
set_option maxHeartbeats 400000 in
theorem rparts_low (b : Nat) (w : World) (hb : b < 18446744073709551616) (hc : cls b = 5) (hi : b / 4503599627370496 % 2048 = 0) : Calls Tryd.prog 18 #[.int .u64 (b : Int)] w fun e w' => e = .returned (.tuple #[.int .u64 (partsM b : Int), .int .i64 (partsE b), .bool (partsI b)]) ∧ w = w' := by
  obtain ⟨hb0, hb1, hr⟩ := cls5 hb hc
  have hm : mg (rung b) = b % 4503599627370496 := by rw [hr]; unfold mg; rw [if_pos (by omega)]; omega
  have hp : (-1074 + (pl (rung b) : Int)) = -1074 := by rw [hr]; unfold pl; omega
  have h0 := mg_pos (show 0 < rung b by omega)
  have hl := mg_lt (rung b)
  have HM : Hid (partsM b = mg (rung b) / 2 ^ tz (mg (rung b))) := by show _ = _; simp [partsM, hc, odd]
  have HE : Hid (partsE b = -1074 + (tz (mg (rung b)) : Int)) := by show _ = _; simp only [partsE, hc, if_true, hp]
  have HI : Hid (partsI b = true) := by show _ = _; simp [partsI, hc]
  have HC := Lib.hid hc
  obtain ⟨-, -, -, hz⟩ := odd_spec h0 hl
  obtain ⟨M, hM⟩ : ∃ M, mg (rung b) = M := ⟨_, rfl⟩
  have hS := fun j hj => half_step h0 hl j hj
  have hT := half_end h0 hl
  rw [hM] at hm h0 hl HM HE hz hS hT
  obtain ⟨z, hz'⟩ : ∃ z, tz M = z := ⟨_, rfl⟩
  rw [hz'] at HM HE hz hS hT
  obtain ⟨f, hf⟩ : ∃ f, b % 4503599627370496 = f := ⟨_, rfl⟩
  rw [hf] at hm
  have hf2 : f < 4503599627370496 := by omega
  have HMM : Hid (f = M) := hm.symm
  have HF1 := Lib.hid hi
  have HF2 := Lib.hid hf
  clear hM hz' hi hf hm hp hr hc hb1
  go_enter Tryd.func18, Tryd.ntmps18
  go_wp2_with fail
  refine (rclass_any b w hb).mono ?_
  rintro e' w1 ⟨rfl, rfl⟩
  rw [HC.out]
  go_wp2_with fail
  refine (fields_any b w hb).mono ?_
  rintro e' w1 ⟨rfl, rfl⟩
  rw [HF1.out, HF2.out]
  go_wp2_with fail
  go_loop [8, 9] (fun x p => ∃ j : Nat, j ≤ z ∧ x = .int .u64 ((M / 2 ^ j : Nat) : Int) ∧ p = .int .i64 (-1074 + (j : Int))) (fun _ p => (-1074 + (z : Int) - intOf p).toNat)
  case atStart => exact ⟨0, Nat.zero_le _, by rw [Nat.pow_zero, Nat.div_one, ← HMM.out], by simp⟩
  case round =>
    obtain ⟨j, hj, rfl, rfl⟩ := hrel
    have hle := Nat.div_le_self M (2 ^ j)
    by_cases hlt : j < z
    · obtain ⟨h1, h2⟩ := hS j hlt
      have HX := Lib.hid h2
      clear hS h2
      obtain ⟨x, hx⟩ : ∃ x, M / 2 ^ j = x := ⟨_, rfl⟩
      rw [hx] at h1 hle HX ⊢
      clear hx
      have h3 : (((x : Int) % 2) == 0) = true := by rw [beq_iff_eq]; omega
      go_wp2
      go_round
      case rel => exact ⟨j + 1, by omega, by rw [← HX.out]; go_num, by go_num⟩
      case measure => simp [intOf]; omega
    · obtain rfl : j = z := by omega
      clear hS
      obtain ⟨x, hx⟩ : ∃ x, M / 2 ^ j = x := ⟨_, rfl⟩
      rw [hx] at hT hle HM ⊢
      clear hx
      have h3 : (((x : Int) % 2) == 0) = false := by rw [beq_eq_false_iff_ne]; omega
      go_wp2
      go_ret3
      exact ⟨by rw [HM.out, HE.out, HI.out]; rfl, rfl⟩
/-- ref.Parts. -/
theorem rparts_any (b : Nat) (w : World) (hb : b < 18446744073709551616) : Calls Tryd.prog 18 #[.int .u64 (b : Int)] w fun e w' => e = .returned (.tuple #[.int .u64 (partsM b : Int), .int .i64 (partsE b), .bool (partsI b)]) ∧ w = w' := by
  rcases cls_cases b with ⟨hc, -⟩ | ⟨hc, -⟩ | ⟨hc, -⟩ | ⟨hc, -⟩ | ⟨hc, -⟩ | ⟨hc, -⟩ | ⟨hc, -⟩
  · exact rparts_0 b w hb hc
  · exact rparts_1 b w hb hc
  · exact rparts_2 b w hb hc
  · exact rparts_3 b w hb hc
  · exact rparts_4 b w hb hc
  · by_cases h : 0 < b / 4503599627370496 % 2048
    · exact rparts_5 b w hb hc h
    · exact rparts_low b w hb hc (by omega)
  · exact rparts_6 b w hb hc
end Go.Proofs.YtgefjlamlgmijaaDoor
