/-
  The walk of NameBytes.
-/
import Derived.Test.YtgmocagdhdbpnaaAwake07
import Derived.Test.YtgmocagdhdbpnaaName3
import Derived.Test.YtgmocagdhdbpnaaRef07b
import Derived.Test.YtgmocagdhdbpnaaSame
namespace Go.Proofs.Ytgmocagdhdbpnaa
open Go.RowKit
set_option linter.unusedVariables false

theorem str_same {s t : ByteArray} (h : bl s = bl t) : (s.toList == t.toList) = true := by
  rw [bl_toList, bl_toList, h, beq_self_eq_true]
theorem hexL_len (l : List UInt8) : (hexL l).length ≤ 2 * l.length + 1 := by
  unfold hexL
  split
  · rw [List.length_singleton]; omega
  · rw [hex_len]; omega

set_option maxHeartbeats 3200000 in
theorem nameBytes_go (A : Option Addr) (n c : Nat) (l : List UInt8) (s : ByteArray) (w : World) (hn : Hid (l.length = n)) (hc : n ≤ c) (hL : Bs w w.heap.size A l) :
    Calls Try.prog 3 #[.slice A n c, .string s] w fun e w' => e = .returned (.bool true) ∧ Below w.heap.size w w' := by
  by_cases hbig : 300 < n ∨ 300 < s.size
  · have hbb : (decide ((300 : Int) < (n : Int)) = true) ∨ (decide ((300 : Int) < (n : Int)) = false ∧ decide ((300 : Int) < (s.size : Int)) = true) := by
      simp only [decide_eq_true_iff, decide_eq_false_iff_not]
      omega
    clear hbig
    rcases hbb with hb | ⟨hb, hb'⟩
    all_goals
      go_enter Try.func3, Try.ntmps3
      go_wp2_with fail
      refine (awake07_any _).mono ?_
      rintro e w1 ⟨rfl, hb⟩
      go_wp2_with fail
      go_ret
      exact ⟨rfl, hb⟩
  have g1 : decide ((300 : Int) < (n : Int)) = false := by rw [decide_eq_false_iff_not]; omega
  have g2 : decide ((300 : Int) < (s.size : Int)) = false := by rw [decide_eq_false_iff_not]; omega
  have hn3 : n ≤ 300 := by omega
  have hs3 : s.size ≤ 300 := by omega
  have m1 : l.length ≤ maxLen := by rw [hn.out]; unfold maxLen; omega
  clear hbig
  go_enter Try.func3, Try.ntmps3
  go_wp2_with fail
  refine (nhex_any A n c l w hn hc (by omega) hL).mono ?_
  rintro e w1 ⟨S1, rfl, hS1, hb1⟩
  have hS1z : S1.size ≤ 65536 := by rw [← bl_length, hS1]; have := hexL_len l; have := hn.out; omega
  have hcall := nbytes_any S1 w1 hS1z
  rw [hS1, (bytes_hex l).1, (bytes_hex l).2] at hcall
  have HS1 := Lib.hid hS1
  clear hS1
  go_wp2_with fail
  refine hcall.mono ?_
  rintro e w2 ⟨A2, n2, c2, rfl, hn2, hnc2, hcm2, hv2, hb2⟩
  obtain rfl : n = n2 := hn.out.symm.trans hn2.out
  have hb12 := hb1.trans (hb2.mono hb1.size)
  go_wp2_with fail
  refine (nbytes_any s w2 (by omega)).mono ?_
  rintro e w3 ⟨A3, n3, c3, rfl, hn3', hnc3, hcm3, hv3, hb3⟩
  have hb13 := hb12.trans (hb3.mono hb12.size)
  go_wp2_with fail
  refine (nhex_any A n c l w3 hn hc (by omega) ((hL.below hb13 (Nat.le_refl _)).more hb13.size)).mono ?_
  rintro e w4 ⟨S2, rfl, hS2, hb4⟩
  have hb14 := hb13.trans (hb4.mono hb13.size)
  have HS2 := Lib.hid hS2
  clear hS2
  go_wp2_with fail
  refine (rhex_any A n c l w4 hn hc (by omega) ((hL.below hb14 (Nat.le_refl _)).more hb14.size)).mono ?_
  rintro e w5 ⟨S3, q, rfl, hS3, rfl⟩
  have hsame := str_same (HS2.out.trans hS3.symm)
  clear hS3
  go_wp2_with fail
  have hv2' : Bs w4 w4.heap.size A2 l := (hv2.below (hb3.trans (hb4.mono hb3.size)) (Nat.le_refl _)).more (hb3.trans (hb4.mono hb3.size)).size
  refine (same_any A2 A n n c2 c l l w4.heap.size (w4.drewN q) hn.out hn.out hv2' ((hL.below hb14 (Nat.le_refl _)).more hb14.size) m1 m1).mono ?_
  rintro e w6 ⟨rfl, q2, rfl⟩
  rw [decide_eq_true (rfl : l = l)]
  go_wp2_with fail
  have hRx := rhexes_any s (w4.drewN (q + q2)) (by unfold maxLen; omega)
  have hb5 := below_drewN hb14 (q + q2)
  cases hx : hexesL (bl s) with
  | false =>
    have hE : bytesE (bl s) = 2 := by unfold bytesE; rw [hx]; rfl
    have hV : bytesV (bl s) = [] := by
      unfold bytesV
      split
      · rfl
      · rw [hx]; rfl
    rw [hV] at hn3'
    obtain rfl : 0 = n3 := hn3'.out
    rw [hx] at hRx
    rw [hE]
    clear hx hE hV
    refine hRx.mono ?_
    rintro e w7 ⟨rfl, rfl⟩
    go_wp2_with fail
    refine (awake07_any _).mono ?_
    rintro e w8 ⟨rfl, hb8⟩
    go_wp2_with fail
    go_ret
    exact ⟨rfl, hb5.trans (hb8.mono hb5.size)⟩
  | true =>
    have hE : bytesE (bl s) = 0 := by unfold bytesE; rw [hx]; rfl
    have HX := Lib.hid (hex_bytes (bl s) hx)
    rw [hx] at hRx
    rw [hE]
    have hn300 : n3 ≤ 65536 := by
      rw [← hn3'.out]
      unfold bytesV
      rw [hx]
      split
      · exact Nat.zero_le _
      · rw [if_pos rfl, unhex_length, bl_length]; omega
    clear hx hE
    refine hRx.mono ?_
    rintro e w7 ⟨rfl, rfl⟩
    go_wp2_with fail
    have hv3' : Bs (w4.drewN (q + q2)) (w4.drewN (q + q2)).heap.size A3 (bytesV (bl s)) := (hv3.below hb4 (Nat.le_refl _)).more hb4.size
    refine (rhex_any A3 n3 c3 (bytesV (bl s)) (w4.drewN (q + q2)) hn3' hnc3 (by omega) hv3').mono ?_
    rintro e w8 ⟨S4, q3, rfl, hS4, rfl⟩
    have hsame2 := str_same (hS4.trans HX.out)
    clear hS4
    have hb8 := below_drewN hb14 (q + q2 + q3)
    go_wp2_with fail
    refine (awake07_any _).mono ?_
    rintro e w9 ⟨rfl, hb9⟩
    go_wp2_with fail
    go_ret
    exact ⟨rfl, hb8.trans (hb9.mono hb8.size)⟩
end Go.Proofs.Ytgmocagdhdbpnaa
