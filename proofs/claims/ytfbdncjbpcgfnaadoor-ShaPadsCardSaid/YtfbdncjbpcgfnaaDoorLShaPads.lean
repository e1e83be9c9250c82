import Derived.Test.YtfbdncjbpcgfnaaDoorAwake03
import Derived.Test.YtfbdncjbpcgfnaaDoorSha5
import Derived.Test.YtfbdncjbpcgfnaaDoorSame
namespace Go.Proofs.YtfbdncjbpcgfnaaDoor
open Go.RowKit
set_option linter.unusedVariables false

theorem padB_max (n : Nat) : (padB n).length ≤ maxLen := by rw [padB_length]; have := zerosN_lt n; unfold maxLen; omega

set_option maxHeartbeats 1600000 in
theorem shaPads_go (n : Int) (w : World) (hK : Kons w) (hn1 : n ≤ 9223372036854775807) :
    Calls Tryd.prog 5 #[.int .i64 n] w fun e w' => e = .returned (.bool true) ∧ Below w.heap.size w w' := by
  by_cases hbig : 1152921504606846976 < n
  · go_enter Tryd.func5, Tryd.ntmps5
    go_wp2_with fail
    refine (awake03_any _ hK).mono ?_
    rintro e w1 ⟨rfl, hb⟩
    go_wp2_with fail
    go_ret
    exact ⟨rfl, hb⟩
  by_cases hneg : n < 0
  · have hm := padB_max 0
    go_enter Tryd.func5, Tryd.ntmps5
    go_wp2_with fail
    refine (pad_neg _ _ hneg).mono ?_
    rintro e w1 ⟨A1, n1, c1, rfl, hn1, -, -, hv1, hb1⟩
    go_wp2_with fail
    refine (rpad_any 0 _ (by omega)).mono ?_
    rintro e w2 ⟨A2, n2, c2, rfl, hn2, -, -, -, hv2, hb2⟩
    go_wp2_with fail
    refine (same_any A1 A2 n1 n2 c1 c2 (padB 0) (padB 0) w2.heap.size w2 hn1.out hn2.out ((hv1.below hb2 (Nat.le_refl _)).more hb2.size) hv2 hm hm).mono ?_
    rintro e w3 ⟨rfl, nq, rfl⟩
    rw [decide_eq_true (rfl : padB 0 = padB 0)]
    have hb3 := hb1.trans (hb2.mono hb1.size)
    go_wp2_with fail
    refine (awake03_any _ (hK.below (below_drewN hb3 nq))).mono ?_
    rintro e w4 ⟨rfl, hb4⟩
    go_wp2_with fail
    go_ret
    exact ⟨rfl, (below_drewN hb3 nq).trans (hb4.mono hb3.size)⟩
  · obtain ⟨m, rfl⟩ : ∃ m : Nat, n = m := ⟨n.toNat, by omega⟩
    have hm2 : m ≤ 1152921504606846976 := by omega
    have hm := padB_max m
    have hz := zerosN_lt m
    have hmod := zerosN_mod m
    have HL := Lib.hid (padB_length m)
    go_enter Tryd.func5, Tryd.ntmps5
    go_wp2_with fail
    refine (pad_any m _ hm2).mono ?_
    rintro e w1 ⟨A1, n1, c1, rfl, hn1, -, -, hv1, hb1⟩
    have hn1' : n1 = 9 + zerosN m := by rw [← hn1.out]; exact HL.out
    have hb : ((((m : Int) + (n1 : Int)) % 64) == 0) = true := by
      rw [beq_iff_eq]
      omega
    have hn64 : n1 ≤ 128 := by omega
    clear hn1'
    go_wp2_with fail
    refine (rpad_any m _ hm2).mono ?_
    rintro e w2 ⟨A2, n2, c2, rfl, hn2, -, -, -, hv2, hb2⟩
    go_wp2_with fail
    refine (same_any A1 A2 n1 n2 c1 c2 (padB m) (padB m) w2.heap.size w2 hn1.out hn2.out ((hv1.below hb2 (Nat.le_refl _)).more hb2.size) hv2 hm hm).mono ?_
    rintro e w3 ⟨rfl, nq, rfl⟩
    rw [decide_eq_true (rfl : padB m = padB m)]
    have hb3 := hb1.trans (hb2.mono hb1.size)
    go_wp2_with fail
    refine (awake03_any _ (hK.below (below_drewN hb3 nq))).mono ?_
    rintro e w4 ⟨rfl, hb4⟩
    go_wp2_with fail
    go_ret
    exact ⟨rfl, (below_drewN hb3 nq).trans (hb4.mono hb3.size)⟩
end Go.Proofs.YtfbdncjbpcgfnaaDoor
