/-
  Package real: Parts.
-/
import Derived.Test.YtgefjlamlgmijaaDoorRealF
import Derived.Test.YtgefjlamlgmijaaDoorReal5
namespace Go.Proofs.YtgefjlamlgmijaaDoor
open Go.RowKit
set_option linter.unusedVariables false

theorem parts_0 (b : Nat) (w : World) (hb : b < 18446744073709551616) (hc : cls b = 0) : Calls Tryd.prog 15 #[.int .u64 (b : Int)] w fun e w' => e = .returned (.tuple #[.int .u64 (partsM b : Int), .int .i64 (partsE b), .bool (partsI b)]) ∧ w = w' := by
  have HM : Hid (partsM b = 0) := by show _ = _; simp [partsM, hc]
  have HE : Hid (partsE b = 0) := by show _ = _; simp [partsE, hc]
  have HI : Hid (partsI b = false) := by show _ = _; simp [partsI, hc]
  have HC := Lib.hid hc
  clear hc
  go_enter Tryd.func15, Tryd.ntmps15
  go_wp2_with fail
  refine (class_any b w hb).mono ?_
  rintro e' w1 ⟨rfl, rfl⟩
  rw [HC.out]
  go_wp2_with fail
  go_ret3
  exact ⟨by rw [HM.out, HE.out, HI.out]; rfl, rfl⟩
theorem parts_1 (b : Nat) (w : World) (hb : b < 18446744073709551616) (hc : cls b = 1) : Calls Tryd.prog 15 #[.int .u64 (b : Int)] w fun e w' => e = .returned (.tuple #[.int .u64 (partsM b : Int), .int .i64 (partsE b), .bool (partsI b)]) ∧ w = w' := by
  have HM : Hid (partsM b = 0) := by show _ = _; simp [partsM, hc]
  have HE : Hid (partsE b = 0) := by show _ = _; simp [partsE, hc]
  have HI : Hid (partsI b = false) := by show _ = _; simp [partsI, hc]
  have HC := Lib.hid hc
  clear hc
  go_enter Tryd.func15, Tryd.ntmps15
  go_wp2_with fail
  refine (class_any b w hb).mono ?_
  rintro e' w1 ⟨rfl, rfl⟩
  rw [HC.out]
  go_wp2_with fail
  go_ret3
  exact ⟨by rw [HM.out, HE.out, HI.out]; rfl, rfl⟩
theorem parts_2 (b : Nat) (w : World) (hb : b < 18446744073709551616) (hc : cls b = 2) : Calls Tryd.prog 15 #[.int .u64 (b : Int)] w fun e w' => e = .returned (.tuple #[.int .u64 (partsM b : Int), .int .i64 (partsE b), .bool (partsI b)]) ∧ w = w' := by
  have HM : Hid (partsM b = 0) := by show _ = _; simp [partsM, hc]
  have HE : Hid (partsE b = 0) := by show _ = _; simp [partsE, hc]
  have HI : Hid (partsI b = false) := by show _ = _; simp [partsI, hc]
  have HC := Lib.hid hc
  clear hc
  go_enter Tryd.func15, Tryd.ntmps15
  go_wp2_with fail
  refine (class_any b w hb).mono ?_
  rintro e' w1 ⟨rfl, rfl⟩
  rw [HC.out]
  go_wp2_with fail
  go_ret3
  exact ⟨by rw [HM.out, HE.out, HI.out]; rfl, rfl⟩
theorem parts_3 (b : Nat) (w : World) (hb : b < 18446744073709551616) (hc : cls b = 3) : Calls Tryd.prog 15 #[.int .u64 (b : Int)] w fun e w' => e = .returned (.tuple #[.int .u64 (partsM b : Int), .int .i64 (partsE b), .bool (partsI b)]) ∧ w = w' := by
  have HM : Hid (partsM b = 0) := by show _ = _; simp [partsM, hc]
  have HE : Hid (partsE b = 0) := by show _ = _; simp [partsE, hc]
  have HI : Hid (partsI b = true) := by show _ = _; simp [partsI, hc]
  have HC := Lib.hid hc
  clear hc
  go_enter Tryd.func15, Tryd.ntmps15
  go_wp2_with fail
  refine (class_any b w hb).mono ?_
  rintro e' w1 ⟨rfl, rfl⟩
  rw [HC.out]
  go_wp2_with fail
  go_ret3
  exact ⟨by rw [HM.out, HE.out, HI.out]; rfl, rfl⟩
theorem parts_4 (b : Nat) (w : World) (hb : b < 18446744073709551616) (hc : cls b = 4) : Calls Tryd.prog 15 #[.int .u64 (b : Int)] w fun e w' => e = .returned (.tuple #[.int .u64 (partsM b : Int), .int .i64 (partsE b), .bool (partsI b)]) ∧ w = w' := by
  have HM : Hid (partsM b = 0) := by show _ = _; simp [partsM, hc]
  have HE : Hid (partsE b = 0) := by show _ = _; simp [partsE, hc]
  have HI : Hid (partsI b = true) := by show _ = _; simp [partsI, hc]
  have HC := Lib.hid hc
  clear hc
  go_enter Tryd.func15, Tryd.ntmps15
  go_wp2_with fail
  refine (class_any b w hb).mono ?_
  rintro e' w1 ⟨rfl, rfl⟩
  rw [HC.out]
  go_wp2_with fail
  go_ret3
  exact ⟨by rw [HM.out, HE.out, HI.out]; rfl, rfl⟩
theorem parts_6 (b : Nat) (w : World) (hb : b < 18446744073709551616) (hc : cls b = 6) : Calls Tryd.prog 15 #[.int .u64 (b : Int)] w fun e w' => e = .returned (.tuple #[.int .u64 (partsM b : Int), .int .i64 (partsE b), .bool (partsI b)]) ∧ w = w' := by
  have HM : Hid (partsM b = 0) := by show _ = _; simp [partsM, hc]
  have HE : Hid (partsE b = 0) := by show _ = _; simp [partsE, hc]
  have HI : Hid (partsI b = false) := by show _ = _; simp [partsI, hc]
  have HC := Lib.hid hc
  clear hc
  go_enter Tryd.func15, Tryd.ntmps15
  go_wp2_with fail
  refine (class_any b w hb).mono ?_
  rintro e' w1 ⟨rfl, rfl⟩
  rw [HC.out]
  go_wp2_with fail
  go_ret3
  exact ⟨by rw [HM.out, HE.out, HI.out]; rfl, rfl⟩
theorem cast_shr (x z : Nat) : ((x / 2 ^ z : Nat) : Int) = (x : Int) / 2 ^ z := by norm_cast
theorem half_fr (b : Nat) (h0 : 0 < b) (hb : b < 9218868437227405312) : 0 < 4602678819172646912 + lowN b ∧ 4602678819172646912 + lowN b < 4607182418800017408 ∧ frN (4602678819172646912 + lowN b) = nm (mg b) := by
  have n1 := nm_ge (mg_pos h0) (mg_lt b)
  have n2 := nm_lt (mg_lt b)
  have e : 4602678819172646912 + lowN b = 4602678819172646912 + (nm (mg b) - 4503599627370496) := rfl
  rw [e]
  generalize nm (mg b) = N at *
  refine ⟨by omega, by omega, ?_⟩
  have e1 : mg (4602678819172646912 + (N - 4503599627370496)) = N := by unfold mg; rw [if_neg (by omega)]; omega
  have e2 : pl (4602678819172646912 + (N - 4503599627370496)) = exps := by unfold pl exps; omega
  unfold frN val sc
  rw [e1, e2, Nat.mul_div_cancel _ (Nat.two_pow_pos exps)]

set_option maxHeartbeats 400000 in
theorem parts_5 (b : Nat) (w : World) (hb : b < 18446744073709551616) (hc : cls b = 5) (hT : Dbj w) : Calls Tryd.prog 15 #[.int .u64 (b : Int)] w fun e w' => e = .returned (.tuple #[.int .u64 (partsM b : Int), .int .i64 (partsE b), .bool (partsI b)]) ∧ w = w' := by
  obtain ⟨h0, hb1, hr⟩ := cls5 hb hc
  obtain ⟨f0, f1, f2⟩ := half_fr b h0 hb1
  have fr := rung_low (show 4602678819172646912 + lowN b < 9223372036854775808 by omega)
  obtain ⟨r, hr1, hr2⟩ := fr_up (4602678819172646912 + lowN b) (ng_low (by omega)) (by omega) (by omega)
  rw [fr, f2] at hr2
  have m0 := mg_pos h0
  have m1 := mg_lt b
  have n1 := nm_ge m0 m1
  have n2 := nm_lt m1
  have hL := log2_le52 m1
  obtain ⟨t1, t2⟩ := tz_shift (j := 52 - (mg b).log2) m0 m1 n2
  have t3 : tz (nm (mg b)) = tz (mg b) + (52 - (mg b).log2) := t1
  rw [← t1] at t2
  obtain ⟨k, -, -, hz⟩ := odd_spec (show 0 < nm (mg b) by omega) n2
  have hP : powI b - 53 + (tz (nm (mg b)) : Int) = partsE b := by unfold powI partsE; rw [if_pos hc, hr, t3]; omega
  have hM : (nm (mg b)) / 2 ^ tz (nm (mg b)) = partsM b := by unfold partsM; rw [if_pos hc, hr]; exact t2
  have hpow : -1100 ≤ powI b ∧ powI b ≤ 1100 := by unfold powI pl; omega
  have HI : Hid (partsI b = true) := by show _ = _; simp [partsI, hc]
  have HC := Lib.hid hc
  have HF := Lib.hid (fun w => frexp_any b w h0 hb1)
  have hm1 := run_float_arith (P := Tryd.prog) w .mul 43 .f64 (4602678819172646912 + lowN b) 4845873199050653696 r hr1
  have hm2 := run_convert_float_int (P := Tryd.prog) w 43 22 .f64 .u64 r _ (by kernel_rfl) Tryd.underlying22 hr2
  obtain ⟨G, hG⟩ : ∃ G, 4602678819172646912 + lowN b = G := ⟨_, rfl⟩
  have HG := Lib.hid hG
  rw [hG] at hm1
  obtain ⟨N, hN⟩ : ∃ N, nm (mg b) = N := ⟨_, rfl⟩
  rw [hN] at hm2 hP hM n1 n2 hz
  have hc2 := ctz_any N w (by omega) (by omega) hT
  have HCT := Lib.hid hc2
  obtain ⟨Z, hZ⟩ : ∃ Z, tz N = Z := ⟨_, rfl⟩
  rw [hZ] at hP hM hz
  have HZ := Lib.hid hZ
  obtain ⟨E, hE⟩ : ∃ E, powI b = E := ⟨_, rfl⟩
  have HE := Lib.hid hE
  rw [hE] at hP hpow
  obtain ⟨hp1, hp2⟩ := hpow
  have HP := Lib.hid hP
  have HM : Hid ((partsM b : Int) = (N : Int) / 2 ^ Z) := by show _ = _; rw [← hM]; exact cast_shr N Z
  clear hc hr1 hr2 t1 t2 t3 hP hM hE hZ hN hG hc2 f0 f1 f2 fr m0 m1 hL hr hb1 hT
  go_enter Tryd.func15, Tryd.ntmps15
  go_wp2_with fail
  refine (class_any b w hb).mono ?_
  rintro e' w1 ⟨rfl, rfl⟩
  rw [HC.out]
  go_wp2_with fail
  refine (HF.out w).mono ?_
  rintro e' w1 ⟨rfl, rfl⟩
  rw [HG.out, HE.out]
  go_wp2_with fail
  refine (HCT.out).mono ?_
  rintro e' w1 ⟨rfl, rfl⟩
  rw [HZ.out]
  go_wp2_with fail
  go_ret3
  exact ⟨by rw [HM.out, ← HP.out, HI.out]; rfl, rfl⟩
/-- real.Parts. -/
theorem parts_any (b : Nat) (w : World) (hb : b < 18446744073709551616) (hT : Dbj w) : Calls Tryd.prog 15 #[.int .u64 (b : Int)] w fun e w' => e = .returned (.tuple #[.int .u64 (partsM b : Int), .int .i64 (partsE b), .bool (partsI b)]) ∧ w = w' := by
  rcases cls_cases b with ⟨hc, -⟩ | ⟨hc, -⟩ | ⟨hc, -⟩ | ⟨hc, -⟩ | ⟨hc, -⟩ | ⟨hc, -⟩ | ⟨hc, -⟩
  · exact parts_0 b w hb hc
  · exact parts_1 b w hb hc
  · exact parts_2 b w hb hc
  · exact parts_3 b w hb hc
  · exact parts_4 b w hb hc
  · exact parts_5 b w hb hc hT
  · exact parts_6 b w hb hc

end Go.Proofs.YtgefjlamlgmijaaDoor
