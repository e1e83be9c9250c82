import Derived.Test.YtfbdncjbpcgfnaaDoorAwake03
import Derived.Test.YtfbdncjbpcgfnaaDoorShaB
import Derived.Test.YtfbdncjbpcgfnaaDoorSame
import Derived.Deep.RegionHeld3
namespace Go.Proofs.YtfbdncjbpcgfnaaDoor
open Go.RowKit
set_option linter.unusedVariables false

set_option maxHeartbeats 1600000 in
theorem shaSums_go (A : Option Addr) (n c : Nat) (l : List UInt8) (w : World) (hn : Hid (l.length = n)) (hnc : n ≤ c) (hc : c ≤ 9223372036854775807) (hL : Bs w w.heap.size A l) (hK : Kons w) :
    Calls Tryd.prog 3 #[.slice A n c] w fun e w' => e = .returned (.bool true) ∧ Below w.heap.size w w' := by
  by_cases hbig : 1000 < n
  · have hb : (1000 : Int) < (n : Int) := by omega
    clear hbig
    go_enter Tryd.func3, Tryd.ntmps3
    go_wp2_with fail
    refine (awake03_any _ hK).mono ?_
    rintro e w1 ⟨rfl, hb⟩
    go_wp2_with fail
    go_ret
    exact ⟨rfl, hb⟩
  have hn' : ¬ (1000 : Int) < (n : Int) := by omega
  have hs : n ≤ 1099511627000 := by omega
  have HO1 := Lib.hid (bv_one (shaN l))
  have HO2 : Hid (((shaN l).map bv).length = 32) := by show _ = _; rw [List.length_map]; exact shaN_length _
  have hm : (shaN l).length ≤ maxLen := by rw [shaN_length]; unfold maxLen; omega
  have HSL : Hid ((shaN l).length = 32) := by show _ = _; exact shaN_length _
  have HM := Lib.hid hm
  clear hbig hm
  go_enter Tryd.func3, Tryd.ntmps3
  go_wp2_with fail
  refine (sum_any A n c l w hn hnc hc hL hK hs).mono ?_
  rintro e w1 ⟨rfl, hb1⟩
  go_wp2_with (refine by32.wpStore (by rfl) (.tmp 3) (.tmp 9) (by rfl) (by rfl) (Bk.new w1 _ _) (by rfl) ((shaN l).map bv) (by rfl) HO2.out HO1.out ?_)
  obtain ⟨W, hW⟩ : ∃ W, W = ((w1.alloc (.cells #[.int .u8 0, .int .u8 0, .int .u8 0, .int .u8 0, .int .u8 0, .int .u8 0, .int .u8 0, .int .u8 0, .int .u8 0, .int .u8 0, .int .u8 0, .int .u8 0, .int .u8 0, .int .u8 0, .int .u8 0, .int .u8 0, .int .u8 0, .int .u8 0, .int .u8 0, .int .u8 0, .int .u8 0, .int .u8 0, .int .u8 0, .int .u8 0, .int .u8 0, .int .u8 0, .int .u8 0, .int .u8 0, .int .u8 0, .int .u8 0, .int .u8 0, .int .u8 0] 24)).setRow w1.heap.size ((shaN l).map bv).toArray) := ⟨_, rfl⟩
  have hB : Bk W w1.heap.size 24 ((shaN l).map bv) := by
    have := (Bk.new w1 #[.int .u8 0, .int .u8 0, .int .u8 0, .int .u8 0, .int .u8 0, .int .u8 0, .int .u8 0, .int .u8 0, .int .u8 0, .int .u8 0, .int .u8 0, .int .u8 0, .int .u8 0, .int .u8 0, .int .u8 0, .int .u8 0, .int .u8 0, .int .u8 0, .int .u8 0, .int .u8 0, .int .u8 0, .int .u8 0, .int .u8 0, .int .u8 0, .int .u8 0, .int .u8 0, .int .u8 0, .int .u8 0, .int .u8 0, .int .u8 0, .int .u8 0, .int .u8 0] 24).row ((shaN l).map bv).toArray
    rw [List.toList_toArray] at this
    rw [hW]
    exact this
  have hb : Below w.heap.size w W := by rw [hW]; exact below_row (hb1.alloc hb1.size _) hb1.size _
  have hs2 : Bs W W.heap.size (some ⟨w1.heap.size, 0, none⟩) (shaN l) := by
    have := hB.part 0 32
    rwa [List.drop_zero, List.take_of_length_le (by rw [HO2.out]; omega)] at this
  have hLW : Bs W W.heap.size A l := (hL.below hb (Nat.le_refl _)).more hb.size
  have hKW := hK.below hb
  have hsl := slice_arr_all (P := Tryd.prog) Tryd.underlying24 (by kernel_rfl) ⟨w1.heap.size, 0, none⟩
  have hm := HM.out
  rw [← hW]
  clear hW hB hb1
  go_frame
  go_region_held3 (fun V => Below W.heap.size W V) (first | assumption | exact below_drewN (Below.refl _ _) 1 | exact Below.refl _ _) (first
    | (go_at_call 10; (with_reducible refine (rsum_any A n c l _ hn ?_ hs).mono ?_); exact hLW; rintro e w2 ⟨A2, n2, c2, rfl, hn2, -, -, -, hv2, hb2⟩; have hb2 : Below W.heap.size W w2 := (below_drewN (Below.refl _ _) 1).trans hb2)
    | (go_at_call 9; (with_reducible refine (same_any _ A2 32 n2 32 c2 (shaN l) (shaN l) w2.heap.size w2 HSL.out hn2.out ?_ hv2 hm hm).mono ?_); exact (hs2.below hb2 (Nat.le_refl _)).more hb2.size; rintro e w3 ⟨rfl, nq, rfl⟩; rw [decide_eq_true (rfl : shaN l = shaN l)]; have hb3 : Below W.heap.size W (w2.drewN nq) := below_drewN hb2 nq)
    | (go_at_call 7; (with_reducible refine (awake03_any _ ?_).mono ?_); exact hKW.below hb3; rintro e w4 ⟨rfl, hb4⟩; have hb4 : Below W.heap.size W w4 := hb3.trans (hb4.mono hb3.size)))
  go_wp2_with fail
  go_ret
  exact ⟨rfl, hb.trans (hb4.mono hb.size)⟩
end Go.Proofs.YtfbdncjbpcgfnaaDoor
