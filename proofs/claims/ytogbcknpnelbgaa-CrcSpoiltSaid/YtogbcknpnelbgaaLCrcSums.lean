import Derived.Test.YtogbcknpnelbgaaCrc3
import Derived.KernelRfl
import Derived.Lib.SlBytesConst
namespace Go.Proofs.Ytogbcknpnelbgaa
open Go.RowKit
set_option linter.unusedVariables false

theorem sum_ex : sumN [49, 50, 51, 52, 53, 54, 55, 56, 57] = 3808858755 := by kernel_rfl

set_option maxHeartbeats 800000 in
theorem awake02_any (w : World) : Calls Try.prog 6 #[] w fun e w' => e = .returned (.bool true) ∧ Below w.heap.size w w' := by
  have hcv := Lib.run_convert_bytes_const w 22 5 #[.int .u8 49, .int .u8 50, .int .u8 51, .int .u8 52, .int .u8 53, .int .u8 54, .int .u8 55, .int .u8 56, .int .u8 57] 9 9 Try.underlying22 Try.underlying5
  have hb0 := Bs.new w #[.int .u8 49, .int .u8 50, .int .u8 51, .int .u8 52, .int .u8 53, .int .u8 54, .int .u8 55, .int .u8 56, .int .u8 57] 5 (9, 10) [49, 50, 51, 52, 53, 54, 55, 56, 57] rfl
  have HE := Lib.hid sum_ex
  have HLX : Hid (([49, 50, 51, 52, 53, 54, 55, 56, 57] : List UInt8).length = 9) := Lib.hid rfl
  go_enter Try.func6, Try.ntmps6
  go_wp2_with fail
  refine (csum_any _ 9 _ [49, 50, 51, 52, 53, 54, 55, 56, 57] _ _ HLX hb0 (by omega)).mono ?_
  rintro e w' ⟨rfl, rfl⟩
  rw [HE.out]
  clear hb0
  go_wp2_with fail
  refine (cseal_any none 0 0 [] _ (Lib.hid rfl) (Bs.nil _ _ _) (by omega)).mono ?_
  rintro e w1 ⟨A, n, c, rfl, hn, -, -, -, -, hb⟩
  obtain rfl : 4 = n := by have := hn.out; simpa using this
  go_wp2_with fail
  go_ret
  exact ⟨rfl, ((Below.refl _ w).alloc (Nat.le_refl _) _).trans (hb.mono (by simp))⟩

theorem more_sum (a b : List UInt8) : 4294967295 - reg (4294967295 - sumN a) b = sumN (a ++ b) := by
  unfold sumN
  have := reg_lt a (show 4294967295 < 4294967296 by omega)
  rw [reg_app, show 4294967295 - (4294967295 - reg 4294967295 a) = reg 4294967295 a by omega]

set_option maxHeartbeats 1000000 in
theorem crcSums_go (A1 A2 : Option Addr) (m1 m2 c1 c2 : Nat) (a b : List UInt8) (w : World) (hm1 : Hid (a.length = m1)) (hm2 : Hid (b.length = m2)) (ha : Bs w w.heap.size A1 a) (hb : Bs w w.heap.size A2 b) :
    Calls Try.prog 3 #[.slice A1 m1 c1, .slice A2 m2 c2] w fun e w' => e = .returned (.bool true) ∧ Below w.heap.size w w' := by
  by_cases hbig : 1500 < m1 ∨ 1500 < m2
  · have hbb : (1500 : Int) < (m1 : Int) ∨ (¬ (1500 : Int) < (m1 : Int) ∧ (1500 : Int) < (m2 : Int)) := by omega
    clear hbig
    rcases hbb with hb | ⟨hb, hb'⟩
    all_goals
      go_enter Try.func3, Try.ntmps3
      go_wp2_with fail
      refine (awake02_any _).mono ?_
      rintro e w1 ⟨rfl, hb⟩
      go_wp2_with fail
      go_ret
      exact ⟨rfl, hb⟩
  have hm1' : m1 ≤ 1500 := by omega
  have hm2' : m2 ≤ 1500 := by omega
  clear hbig
  have h1a := bv_one a
  have h1b := bv_one b
  have HA : Hid ((a.map bv).length = m1) := by show _ = _; rw [List.length_map]; exact hm1.out
  have HB : Hid ((b.map bv).length = m2) := by show _ = _; rw [List.length_map]; exact hm2.out
  have HL : Hid ((a ++ b).length ≤ 3000) := by show _ ≤ _; rw [List.length_append, hm1.out, hm2.out]; omega
  have HM := Lib.hid (more_sum a b)
  have hsa := sumN_lt a
  go_enter Try.func3, Try.ntmps3
  go_wp2_with fail
  refine (csum_any _ _ _ a _ _ hm1 ha (by omega)).mono ?_
  rintro e w' ⟨rfl, rfl⟩
  go_wp2_with fail
  refine (rsum_any _ _ _ a _ _ hm1 ha (by omega)).mono ?_
  rintro e w' ⟨rfl, rfl⟩
  go_wp2_with fail
  refine (csum_any _ _ _ a _ _ hm1 ha (by omega)).mono ?_
  rintro e w' ⟨rfl, rfl⟩
  go_wp2_with fail
  refine (more_any (sumN a) _ _ _ b _ _ hsa hm2 hb (by omega)).mono ?_
  rintro e w' ⟨rfl, rfl⟩
  rw [HM.out]
  go_wp2_with (at_builtin; refine wp_appG (w.alloc (.cells #[] 5)) (by rfl) (.tmp 24) (.tmp 25) _ rfl w.heap.size 5 u8E (.slice (some ⟨w.heap.size, 0, none⟩) 0 0) [] rfl (World.ownsRow_made w #[] 0 (Nat.le_refl _) (Nat.zero_le _) rfl) _ _ _ _ _ rfl HA.out (Bs.alloc ha (Nat.le_refl _) _) h1a ?c1 ?c2 ?c3 ?_)
  case c1 => simp [maxLen]; omega
  case c2 => simp; omega
  case c3 => simp
  intro v1 w1 hown1 hg1 _
  have hb1 : Below w.heap.size w w1 := ((Below.refl _ w).alloc (Nat.le_refl _) _).trans (below_app (World.ownsRow_made w #[] 0 (Nat.le_refl _) (Nat.zero_le _) rfl) hg1 (by simp))
  clear hg1
  have hs1 := hb1.size
  go_wp2_with (at_builtin; refine wp_appG w1 (by rfl) (.tmp 26) (.tmp 27) _ rfl w.heap.size 5 u8E v1 _ rfl hown1 _ _ _ _ _ rfl HB.out (hb.below hb1 (Nat.le_refl _)) h1b ?d1 ?d2 ?d3 ?_)
  case d1 => simp only [List.length_map, hm1.out, maxLen]; omega
  case d2 => simp only [List.length_map, hm1.out]; omega
  case d3 => exact hs1
  intro v2 w2 hown2 hg2 _
  have hb2 := hb1.trans (below_app hown1 hg2 hs1)
  rw [← List.map_append] at hown2
  obtain ⟨A3, n3, c3, rfl, hn3, -, -, hv3⟩ := hown2.bform
  have hn3b : n3 ≤ 3000 := by rw [← hn3.out]; exact HL.out
  clear hg2 hown1 hown2
  go_wp2_with fail
  refine (rsum_any _ _ _ (a ++ b) _ _ hn3 hv3 (by omega)).mono ?_
  rintro e w' ⟨rfl, rfl⟩
  go_wp2_with fail
  refine (awake02_any _).mono ?_
  rintro e w3 ⟨rfl, hb3⟩
  go_wp2_with fail
  go_ret
  exact ⟨rfl, hb2.trans (hb3.mono hb2.size)⟩
end Go.Proofs.Ytogbcknpnelbgaa
