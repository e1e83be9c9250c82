/-
  The walk of NameNumbers.
-/
import Derived.Test.YtgmocagdhdbpnaaDoorAwake07
import Derived.Test.YtgmocagdhdbpnaaDoorFmt
import Derived.Test.YtgmocagdhdbpnaaDoorParse
namespace Go.Proofs.YtgmocagdhdbpnaaDoor
open Go.RowKit
set_option linter.unusedVariables false

theorem str_eq {s t : ByteArray} (h : bl s = bl t) : (s.toList == t.toList) = true := by
  rw [bl_toList, bl_toList, h, beq_self_eq_true]
theorem num_back (n : Nat) (hn : n < 18446744073709551616) : numV (decL n) = n ∧ numE (decL n) = 0 := by
  have h := num_ok (decL_good n) (by rw [decL_val]; omega)
  rw [decL_val] at h
  exact h
theorem Tens.stay {w w' : World} (h : Tens w) (hb : Below w.heap.size w w') : Tens w' := var_stay h hb

set_option maxHeartbeats 3200000 in
theorem nameNumbers_go (n : Nat) (s : ByteArray) (w : World) (hn : n < 18446744073709551616) (hT : Tens w) (hO : Over w) :
    Calls Tryd.prog 3 #[.int .u64 (n : Int), .string s] w fun e w' => e = .returned (.bool true) ∧ Below w.heap.size w w' := by
  by_cases hbig : 300 < s.size
  · have hb' : decide ((300 : Int) < (s.size : Int)) = true := by rw [decide_eq_true_iff]; omega
    clear hbig
    go_enter Tryd.func3, Tryd.ntmps3
    go_wp2_with fail
    refine (awake07_any _).mono ?_
    rintro e w1 ⟨rfl, hb⟩
    go_wp2_with fail
    go_ret
    exact ⟨rfl, hb⟩
  have g2 : decide ((300 : Int) < (s.size : Int)) = false := by rw [decide_eq_false_iff_not]; omega
  have hs3 : s.size ≤ 300 := by omega
  have hl20 := decL_len 20 n (by omega) (by omega)
  have HB1 := Lib.hid (num_back n hn).1
  have HB2 := Lib.hid (num_back n hn).2
  clear hbig
  go_enter Tryd.func3, Tryd.ntmps3
  go_wp2_with fail
  refine (ndigits_any n w hn hT).mono ?_
  rintro e w1 ⟨S1, rfl, hS1, hb1⟩
  have hcall := nnumber_any S1 w1 (by rw [← bl_length, hS1]; omega) (hO.stay hb1)
  rw [hS1, HB1.out, HB2.out] at hcall
  have HS1 := Lib.hid hS1
  clear hS1 hl20
  go_wp2_with fail
  refine hcall.mono ?_
  rintro e w2 ⟨rfl, hb2⟩
  have hb12 := hb1.trans (hb2.mono hb1.size)
  go_wp2_with fail
  refine (nnumber_any s w2 (by omega) (hO.stay hb12)).mono ?_
  rintro e w3 ⟨rfl, hb3⟩
  have hb13 := hb12.trans (hb3.mono hb12.size)
  go_wp2_with fail
  refine (rnumber_any s w3 (by unfold maxLen; omega)).mono ?_
  rintro e w4 ⟨rfl, rfl⟩
  go_wp2_with fail
  refine (ndigits_any n w3 hn (hT.stay hb13)).mono ?_
  rintro e w5 ⟨S2, rfl, hS2, hb5⟩
  have HS2 := Lib.hid hS2
  have hb15 := hb13.trans (hb5.mono hb13.size)
  clear hS2
  go_wp2_with fail
  refine (rdigits_any n w5 hn).mono ?_
  rintro e w6 ⟨S3, rfl, hS3, rfl⟩
  have hsame := str_eq (HS2.out.trans hS3.symm)
  clear hS3
  obtain ⟨v, hv⟩ : ∃ v, numV (bl s) = v := ⟨_, rfl⟩
  obtain ⟨z, hz⟩ : ∃ z, numE (bl s) = z := ⟨_, rfl⟩
  rw [hv, hz]
  clear hv hz
  go_wp2_with fail
  refine (awake07_any _).mono ?_
  rintro e w7 ⟨rfl, hb7⟩
  go_wp2_with fail
  go_ret
  exact ⟨rfl, hb15.trans (hb7.mono hb15.size)⟩
end Go.Proofs.YtgmocagdhdbpnaaDoor
