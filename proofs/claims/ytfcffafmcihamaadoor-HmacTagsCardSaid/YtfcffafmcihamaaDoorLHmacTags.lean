import Derived.Test.YtfcffafmcihamaaDoorAwake04
import Derived.Test.YtfcffafmcihamaaDoorHmac3
import Derived.Test.YtfcffafmcihamaaDoorSame
namespace Go.Proofs.YtfcffafmcihamaaDoor
open Go.RowKit
set_option linter.unusedVariables false

set_option maxHeartbeats 3200000 in
theorem hmacTags_go (A1 A2 A3 : Option Addr) (n1 n2 n3 c1 c2 c3 : Nat) (k b t : List UInt8) (w : World) (hn1 : Hid (k.length = n1)) (hn2 : Hid (b.length = n2)) (hn3 : Hid (t.length = n3)) (hnc1 : n1 ≤ c1) (hc1 : c1 ≤ 9223372036854775807)
    (hL1 : Bs w w.heap.size A1 k) (hL2 : Bs w w.heap.size A2 b) (hL3 : Bs w w.heap.size A3 t) (hK : Kons w) :
    Calls Tryd.prog 3 #[.slice A1 n1 c1, .slice A2 n2 c2, .slice A3 n3 c3] w fun e w' => e = .returned (.bool true) ∧ Below w.heap.size w w' := by
  by_cases hbig : 300 < n1 ∨ 500 < n2 ∨ 100 < n3
  · have hbb : (300 : Int) < (n1 : Int) ∨ (¬ (300 : Int) < (n1 : Int) ∧ (500 : Int) < (n2 : Int)) ∨ (¬ (300 : Int) < (n1 : Int) ∧ ¬ (500 : Int) < (n2 : Int) ∧ (100 : Int) < (n3 : Int)) := by omega
    clear hbig
    rcases hbb with hb | ⟨hb, hb'⟩ | ⟨hb, hb', hb''⟩
    all_goals
      go_enter Tryd.func3, Tryd.ntmps3
      go_wp2_with fail
      refine (awake04_any _ hK).mono ?_
      rintro e w1 ⟨rfl, hb⟩
      go_wp2_with fail
      go_ret
      exact ⟨rfl, hb⟩
  have g1 : ¬ (300 : Int) < (n1 : Int) := by omega
  have g2 : ¬ (500 : Int) < (n2 : Int) := by omega
  have g3 : ¬ (100 : Int) < (n3 : Int) := by omega
  have HO1 := Lib.hid (bv_one (tagN k b))
  have HO2 : Hid (((tagN k b).map bv).length = 32) := by show _ = _; rw [List.length_map]; exact tagN_length k b
  have HTL : Hid ((tagN k b).length = 32) := Lib.hid (tagN_length k b)
  have m3 : t.length ≤ maxLen := by rw [hn3.out]; unfold maxLen; omega
  have mT : (tagN k b).length ≤ maxLen := by rw [tagN_length]; unfold maxLen; omega
  obtain ⟨T, hT⟩ : ∃ T, tagN k b = T := ⟨_, rfl⟩
  have HT := Lib.hid hT
  rw [hT] at HO1 HO2 HTL mT
  clear hbig hT
  go_enter Tryd.func3, Tryd.ntmps3
  go_wp2_with fail
  refine (tag_any A1 A2 n1 n2 c1 c2 k b w hn1 hn2 hnc1 hc1 hL1 hL2 hK (by omega) (by omega)).mono ?_
  rintro e w1 ⟨rfl, hb1⟩
  rw [HT.out]
  obtain ⟨W, hW⟩ : ∃ W, W = (w1.alloc (.cells #[.int .u8 0, .int .u8 0, .int .u8 0, .int .u8 0, .int .u8 0, .int .u8 0, .int .u8 0, .int .u8 0, .int .u8 0, .int .u8 0, .int .u8 0, .int .u8 0, .int .u8 0, .int .u8 0, .int .u8 0, .int .u8 0, .int .u8 0, .int .u8 0, .int .u8 0, .int .u8 0, .int .u8 0, .int .u8 0, .int .u8 0, .int .u8 0, .int .u8 0, .int .u8 0, .int .u8 0, .int .u8 0, .int .u8 0, .int .u8 0, .int .u8 0, .int .u8 0] 24)).setRow w1.heap.size (T.map bv).toArray := ⟨_, rfl⟩
  have hD : Bs W W.heap.size (some ⟨w1.heap.size, 0, none⟩) T := by
    have := (Bk.new w1 #[.int .u8 0, .int .u8 0, .int .u8 0, .int .u8 0, .int .u8 0, .int .u8 0, .int .u8 0, .int .u8 0, .int .u8 0, .int .u8 0, .int .u8 0, .int .u8 0, .int .u8 0, .int .u8 0, .int .u8 0, .int .u8 0, .int .u8 0, .int .u8 0, .int .u8 0, .int .u8 0, .int .u8 0, .int .u8 0, .int .u8 0, .int .u8 0, .int .u8 0, .int .u8 0, .int .u8 0, .int .u8 0, .int .u8 0, .int .u8 0, .int .u8 0, .int .u8 0] 24).row (T.map bv).toArray
    rw [List.toList_toArray, ← hW] at this
    have := this.part 0 32
    rwa [List.drop_zero, List.take_of_length_le (by rw [List.length_map, HTL.out]; omega)] at this
  have hb2 : Below w1.heap.size w1 W := by rw [hW]; exact below_row ((Below.refl _ _).alloc (Nat.le_refl _) _) (Nat.le_refl _) _
  have hb3 := hb1.trans (hb2.mono hb1.size)
  go_wp2_with (refine by32.wpStore (by rfl) (.tmp 7) (.tmp 25) (by rfl) (by rfl) (Bk.new w1 _ _) (by rfl) (T.map bv) (by rfl) HO2.out HO1.out ?_)
  rw [← hW]
  clear hW hb2
  have kp : ∀ {A : Option Addr} {l : List UInt8}, Bs w w.heap.size A l → Bs W W.heap.size A l := fun h => (h.below hb3 (Nat.le_refl _)).more hb3.size
  refine (rtag_any A1 A2 n1 n2 c1 c2 k b W hn1 hn2 (kp hL1) (kp hL2) (by omega) (by omega)).mono ?_
  rintro e w2 ⟨A4, n4, c4, rfl, hn4, -, -, hc4, hv4, hb4⟩
  rw [HT.out] at hn4 hv4
  have hb5 := hb3.trans (hb4.mono hb3.size)
  have hD2 := (hD.below hb4 (Nat.le_refl _)).more hb4.size
  have n4m : n4 ≤ maxLen := by rw [← hn4.out]; exact mT
  clear kp hb4 hD hb3
  go_wp2_with fail
  refine (same_any _ A4 32 n4 _ c4 T T _ w2 HTL.out hn4.out hD2 hv4 mT mT).mono ?_
  rintro e w3 ⟨rfl, q1, rfl⟩
  rw [decide_eq_true (rfl : T = T)]
  have hb6 := below_drewN hb5 q1
  have kp : ∀ {A : Option Addr} {l : List UInt8}, Bs w w.heap.size A l → Bs (w2.drewN q1) (w2.drewN q1).heap.size A l := fun h => (h.below hb6 (Nat.le_refl _)).more hb6.size
  go_wp2_with fail
  refine (check_any A1 A2 A3 n1 n2 n3 c1 c2 c3 k b t (w2.drewN q1) hn1 hn2 hn3 hnc1 hc1 (kp hL1) (kp hL2) (kp hL3) (hK.below hb6) (by omega) (by omega) (by rw [← hn3.out]; exact m3)).mono ?_
  rintro e w4 ⟨rfl, hb7⟩
  rw [HT.out]
  have hb8 := hb6.trans (hb7.mono hb6.size)
  have hv5 : Bs w4 w4.heap.size A4 T := (Bs.below (hv4.drewN q1) hb7 (Nat.le_refl _)).more hb7.size
  clear kp hb7 hv4
  go_wp2_with fail
  refine (same_any A3 A4 n3 n4 c3 c4 t T _ w4 hn3.out hn4.out ((hL3.below hb8 (Nat.le_refl _)).more hb8.size) hv5 m3 mT).mono ?_
  rintro e w5 ⟨rfl, q2, rfl⟩
  have hb9 := below_drewN hb8 q2
  obtain ⟨d, hd⟩ : ∃ d, decide (T = t) = d := ⟨_, rfl⟩
  have hd' : decide (t = T) = d := by rw [← hd, decide_eq_decide]; exact eq_comm
  rw [hd, hd']
  clear hd hd'
  have hv6 := hv5.drewN q2
  have kp : ∀ {A : Option Addr} {l : List UInt8}, Bs w w.heap.size A l → Bs (w4.drewN q2) (w4.drewN q2).heap.size A l := fun h => (h.below hb9 (Nat.le_refl _)).more hb9.size
  go_wp2_with fail
  refine (check_any A1 A2 A4 n1 n2 n4 c1 c2 c4 k b T (w4.drewN q2) hn1 hn2 hn4 hnc1 hc1 (kp hL1) (kp hL2) hv6 (hK.below hb9) (by omega) (by omega) n4m).mono ?_
  rintro e w6 ⟨rfl, hb10⟩
  rw [HT.out, decide_eq_true (rfl : T = T)]
  have hb11 := hb9.trans (hb10.mono hb9.size)
  clear kp hb10
  go_wp2_with fail
  refine (awake04_any _ (hK.below hb11)).mono ?_
  rintro e w7 ⟨rfl, hb12⟩
  go_wp2_with fail
  go_ret
  exact ⟨rfl, hb11.trans (hb12.mono hb11.size)⟩
end Go.Proofs.YtfcffafmcihamaaDoor
