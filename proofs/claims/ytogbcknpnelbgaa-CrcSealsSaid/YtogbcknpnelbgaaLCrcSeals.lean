import Derived.Test.YtogbcknpnelbgaaLCrcSums
namespace Go.Proofs.Ytogbcknpnelbgaa
open Go.RowKit
set_option linter.unusedVariables false

theorem seal_same (l : List UInt8) (h : 4 ≤ l.length) : decide (l.take (l.length - 4) ++ leB 4 (sumN (l.take (l.length - 4))) = l) = sealB l := by
  unfold sealB
  rw [decide_eq_decide]
  have hd : (l.drop (l.length - 4)).length = 4 := by simp; omega
  constructor
  · intro e
    refine ⟨h, ?_⟩
    have h2 : (l.take (l.length - 4) ++ leB 4 (sumN (l.take (l.length - 4)))).drop (l.length - 4) = leB 4 (sumN (l.take (l.length - 4))) := by
      rw [List.drop_append_of_le_length (by simp), List.drop_of_length_le (by simp)]
      rfl
    have h3 := congrArg (List.drop (l.length - 4)) e
    rw [h2] at h3
    rw [← h3, leV_sum]
  · rintro ⟨-, e⟩
    have h2 : leB 4 (sumN (l.take (l.length - 4))) = l.drop (l.length - 4) := by
      have := leB_leV (l.drop (l.length - 4))
      rw [hd] at this
      rw [← e, this]
    rw [h2, List.take_append_drop]

theorem maxLen_of {l : List UInt8} {n : Nat} (h : l.length ≤ n) (hn : n ≤ 1099511627776) : l.length ≤ maxLen := by unfold maxLen; omega

set_option maxHeartbeats 1000000 in
set_option maxRecDepth 100000 in
theorem crcSeals_go (A : Option Addr) (m c : Nat) (l : List UInt8) (w : World) (hm : Hid (l.length = m)) (hmc : m ≤ c) (hcm : c ≤ 9223372036854775807) (hbs0 : Bs w w.heap.size A l) :
    Calls Try.prog 4 #[.slice A m c] w fun e w' => e = .returned (.bool true) ∧ Below w.heap.size w w' := by
  by_cases hbig : 1500 < m
  · have hb : (1500 : Int) < (m : Int) := by omega
    clear hbig
    go_enter Try.func4, Try.ntmps4
    go_wp2_with fail
    refine (awake02_any _).mono ?_
    rintro e w1 ⟨rfl, hb⟩
    go_wp2_with fail
    go_ret
    exact ⟨rfl, hb⟩
  have hm' : m ≤ 1500 := by omega
  clear hbig
  have HSS := Lib.hid (sealB_seal l)
  have HOS := Lib.hid (openB_seal l)
  have HLS : Hid ((l ++ leB 4 (sumN l)).length ≤ 1504) := by show _ ≤ _; rw [List.length_append, hm.out, leB_length]; omega
  have HLM : Hid (l.length ≤ maxLen) := by show _ ≤ _; unfold maxLen; rw [hm.out]; omega
  by_cases h4 : m < 4
  · have hs : sealB l = false := by have := hm.out; simp [sealB]; omega
    have ho : openB l = [] := by simp [openB, hs]
    have HS := Lib.hid hs
    have HO := Lib.hid ho
    have h4' : ¬ (4 : Int) ≤ (m : Int) := by omega
    clear hs ho h4
    go_enter Try.func4, Try.ntmps4
    go_wp2_with fail
    refine (cseal_any _ _ _ l _ hm hbs0 (by omega)).mono ?_
    rintro e w1 ⟨A1, n1, c1, rfl, hn1, -, hnc1, hc1, hbs1, hb1⟩
    have hn1' : n1 ≤ 1504 := by rw [← hn1.out]; exact HLS.out
    go_wp2_with fail
    refine (copen_any A1 n1 c1 _ _ hn1 hnc1 (by unfold maxLen at hc1; omega) hbs1 (by omega)).mono ?_
    rintro e w2 ⟨A2, n2, c2, rfl, hn2, hnc2, hc2, hbs2, hb2⟩
    rw [HSS.out]
    rw [HOS.out] at hn2 hbs2
    have hb12 := hb1.trans (hb2.mono hb1.size)
    go_wp2_with fail
    refine (copen_any A m c l _ hm hmc hcm ((hbs0.below hb12 (Nat.le_refl _)).more hb12.size) (by omega)).mono ?_
    rintro e w3 ⟨A3, n3, c3, rfl, hn3, hnc3, hc3, hbs3, hb3⟩
    rw [HS.out]
    rw [HO.out] at hn3 hbs3
    obtain rfl : 0 = n3 := hn3.out
    have hb13 := hb12.trans (hb3.mono hb12.size)
    go_wp2_with fail
    refine (rseal_any A m c l _ hm ((hbs0.below hb13 (Nat.le_refl _)).more hb13.size) (by omega)).mono ?_
    rintro e w4 ⟨A4, n4, c4, rfl, hn4, -, -, -, hbs4, hb4⟩
    have hb14 := hb13.trans (hb4.mono hb13.size)
    have hbs1' := ((hbs1.below hb2 (Nat.le_refl _)).more hb2.size).below hb3 (Nat.le_refl _)
    have hbs1'' := (hbs1'.more hb3.size).below hb4 (Nat.le_refl _)
    have HSL := Lib.hid (maxLen_of HLS.out (by omega))
    go_wp2_with fail
    refine (same_any A1 A4 n1 n4 c1 c4 _ _ _ _ hn1.out hn4.out (hbs1''.more hb4.size) hbs4 HSL.out HSL.out).mono ?_
    rintro e w' ⟨rfl, nq, rfl⟩
    rw [decide_eq_true rfl]
    have hbs2' := (((hbs2.below hb3 (Nat.le_refl _)).more hb3.size).below hb4 (Nat.le_refl _)).more hb4.size
    go_wp2_with fail
    refine (same_any A2 A n2 m c2 c _ _ _ _ hn2.out hm.out (hbs2'.drewN nq) (((hbs0.below hb14 (Nat.le_refl _)).more hb14.size).drewN nq) HLM.out HLM.out).mono ?_
    rintro e w' ⟨rfl, nq2, rfl⟩
    rw [decide_eq_true rfl]
    go_wp2_with fail
    refine (awake02_any _).mono ?_
    rintro e w5 ⟨rfl, hb5⟩
    go_wp2_with fail
    go_ret
    exact ⟨rfl, (below_drewN hb14 (nq + nq2)).trans (hb5.mono (by simpa using hb14.size))⟩
  · obtain ⟨k, rfl⟩ : ∃ k, m = k + 4 := ⟨m - 4, by omega⟩
    have hk : ((k + 4 : Nat) : Int) - 4 = (k : Int) := by omega
    have hss := seal_same l (by rw [hm.out]; omega)
    rw [hm.out, Nat.add_sub_cancel] at hss
    have HX := Lib.hid hss
    have HK : Hid ((l.take k).length = k) := by show _ = _; rw [List.length_take, hm.out]; omega
    have HLT : Hid ((l.take k ++ leB 4 (sumN (l.take k))).length ≤ maxLen) := by show _ ≤ _; unfold maxLen; rw [List.length_append, HK.out, leB_length]; omega
    have HLK : Hid ((l.take k).length ≤ maxLen) := by show _ ≤ _; unfold maxLen; rw [HK.out]; omega
    obtain ⟨b, o, rfl, -, -⟩ := hbs0.at_ (by rw [hm.out]; omega)
    have hs3 := fun w => slice_to u8E w (some ⟨b, o, none⟩) (k + 4) c k (by omega)
    have hx1 : (if 0 < k then (k : Int) else 0) = (k : Int) := by split <;> omega
    have hx2 : (if 0 < k then Value.int .i64 (k : Int) else Value.int .i64 0) = Value.int .i64 (k : Int) := by
      split
      · rfl
      · have : k = 0 := by omega
        subst this
        rfl
    clear h4 hss
    rcases hs : sealB l with _ | _
    · have ho : openB l = [] := by simp [openB, hs]
      have HS := Lib.hid hs
      have HO := Lib.hid ho
      clear hs ho
      go_enter Try.func4, Try.ntmps4
      go_wp2_with fail
      refine (cseal_any _ _ _ l _ hm hbs0 (by omega)).mono ?_
      rintro e w1 ⟨A1, n1, c1, rfl, hn1, -, hnc1, hc1, hbs1, hb1⟩
      have hn1' : n1 ≤ 1504 := by rw [← hn1.out]; exact HLS.out
      go_wp2_with fail
      refine (copen_any A1 n1 c1 _ _ hn1 hnc1 (by unfold maxLen at hc1; omega) hbs1 (by omega)).mono ?_
      rintro e w2 ⟨A2, n2, c2, rfl, hn2, hnc2, hc2, hbs2, hb2⟩
      rw [HSS.out]
      rw [HOS.out] at hn2 hbs2
      have hb12 := hb1.trans (hb2.mono hb1.size)
      go_wp2_with fail
      refine (copen_any (some ⟨b, o, none⟩) (k + 4) c l _ hm hmc hcm ((hbs0.below hb12 (Nat.le_refl _)).more hb12.size) (by omega)).mono ?_
      rintro e w3 ⟨A3, n3, c3, rfl, hn3, hnc3, hc3, hbs3, hb3⟩
      rw [HS.out]
      rw [HO.out] at hn3 hbs3
      obtain rfl : 0 = n3 := hn3.out
      have hb13 := hb12.trans (hb3.mono hb12.size)
      go_wp2_with fail
      refine (rseal_any (some ⟨b, o, none⟩) k c (l.take k) _ HK (((hbs0.below hb13 (Nat.le_refl _)).more hb13.size).take k) (by omega)).mono ?_
      rintro e w4 ⟨A4, n4, c4, rfl, hn4, -, -, -, hbs4, hb4⟩
      have hb14 := hb13.trans (hb4.mono hb13.size)
      go_wp2_with fail
      refine (same_any A4 (some ⟨b, o, none⟩) n4 (k + 4) c4 c _ _ w4.heap.size _ hn4.out hm.out hbs4 ((hbs0.below hb14 (Nat.le_refl _)).more hb14.size) HLT.out HLM.out).mono ?_
      rintro e w' ⟨rfl, nq, rfl⟩
      rw [HX.out, HS.out]
      have hb14q := below_drewN hb14 nq
      go_wp2_with fail
      refine (rseal_any (some ⟨b, o, none⟩) (k + 4) c l _ hm ((hbs0.below hb14q (Nat.le_refl _)).more hb14q.size) (by omega)).mono ?_
      rintro e w5 ⟨A5, n5, c5, rfl, hn5, -, -, -, hbs5, hb5⟩
      have hb15 := hb14q.trans (hb5.mono hb14q.size)
      have HSL := Lib.hid (maxLen_of HLS.out (by omega))
      have hbs1e := ((((((hbs1.below hb2 (Nat.le_refl _)).more hb2.size).below hb3 (Nat.le_refl _)).more hb3.size).below hb4 (Nat.le_refl _)).more hb4.size).drewN nq
      have hbs2e := ((((hbs2.below hb3 (Nat.le_refl _)).more hb3.size).below hb4 (Nat.le_refl _)).more hb4.size).drewN nq
      go_wp2_with fail
      refine (same_any A1 A5 n1 n5 c1 c5 _ _ _ _ hn1.out hn5.out ((hbs1e.below hb5 (Nat.le_refl _)).more hb5.size) hbs5 HSL.out HSL.out).mono ?_
      rintro e w' ⟨rfl, nq2, rfl⟩
      rw [decide_eq_true rfl]
      go_wp2_with fail
      refine (same_any A2 (some ⟨b, o, none⟩) n2 (k + 4) c2 c _ _ _ _ hn2.out hm.out (((hbs2e.below hb5 (Nat.le_refl _)).more hb5.size).drewN nq2) (((hbs0.below hb15 (Nat.le_refl _)).more hb15.size).drewN nq2) HLM.out HLM.out).mono ?_
      rintro e w' ⟨rfl, nq3, rfl⟩
      rw [decide_eq_true rfl]
      have hbq := below_drewN hb15 (nq2 + nq3)
      go_wp2_with fail
      refine (awake02_any _).mono ?_
      rintro e w7 ⟨rfl, hb7⟩
      go_wp2_with fail
      go_ret
      exact ⟨rfl, hbq.trans (hb7.mono hbq.size)⟩
    · have ho : openB l = l.take k := by unfold openB; rw [hs, if_pos rfl, hm.out, Nat.add_sub_cancel]
      have HS := Lib.hid hs
      have HO := Lib.hid ho
      clear hs ho
      go_enter Try.func4, Try.ntmps4
      go_wp2_with fail
      refine (cseal_any _ _ _ l _ hm hbs0 (by omega)).mono ?_
      rintro e w1 ⟨A1, n1, c1, rfl, hn1, -, hnc1, hc1, hbs1, hb1⟩
      have hn1' : n1 ≤ 1504 := by rw [← hn1.out]; exact HLS.out
      go_wp2_with fail
      refine (copen_any A1 n1 c1 _ _ hn1 hnc1 (by unfold maxLen at hc1; omega) hbs1 (by omega)).mono ?_
      rintro e w2 ⟨A2, n2, c2, rfl, hn2, hnc2, hc2, hbs2, hb2⟩
      rw [HSS.out]
      rw [HOS.out] at hn2 hbs2
      have hb12 := hb1.trans (hb2.mono hb1.size)
      go_wp2_with fail
      refine (copen_any (some ⟨b, o, none⟩) (k + 4) c l _ hm hmc hcm ((hbs0.below hb12 (Nat.le_refl _)).more hb12.size) (by omega)).mono ?_
      rintro e w3 ⟨A3, n3, c3, rfl, hn3, hnc3, hc3, hbs3, hb3⟩
      rw [HS.out]
      rw [HO.out] at hn3 hbs3
      have hb13 := hb12.trans (hb3.mono hb12.size)
      go_wp2_with fail
      refine (rseal_any (some ⟨b, o, none⟩) k c (l.take k) _ HK (((hbs0.below hb13 (Nat.le_refl _)).more hb13.size).take k) (by omega)).mono ?_
      rintro e w4 ⟨A4, n4, c4, rfl, hn4, -, -, -, hbs4, hb4⟩
      have hb14 := hb13.trans (hb4.mono hb13.size)
      go_wp2_with fail
      refine (same_any A4 (some ⟨b, o, none⟩) n4 (k + 4) c4 c _ _ w4.heap.size _ hn4.out hm.out hbs4 ((hbs0.below hb14 (Nat.le_refl _)).more hb14.size) HLT.out HLM.out).mono ?_
      rintro e w' ⟨rfl, nq, rfl⟩
      rw [HX.out, HS.out]
      have hb14q := below_drewN hb14 nq
      go_wp2_with fail
      refine (rseal_any (some ⟨b, o, none⟩) (k + 4) c l _ hm ((hbs0.below hb14q (Nat.le_refl _)).more hb14q.size) (by omega)).mono ?_
      rintro e w5 ⟨A5, n5, c5, rfl, hn5, -, -, -, hbs5, hb5⟩
      have hb15 := hb14q.trans (hb5.mono hb14q.size)
      have HSL := Lib.hid (maxLen_of HLS.out (by omega))
      have hbs1e := ((((((hbs1.below hb2 (Nat.le_refl _)).more hb2.size).below hb3 (Nat.le_refl _)).more hb3.size).below hb4 (Nat.le_refl _)).more hb4.size).drewN nq
      have hbs2e := ((((hbs2.below hb3 (Nat.le_refl _)).more hb3.size).below hb4 (Nat.le_refl _)).more hb4.size).drewN nq
      go_wp2_with fail
      refine (same_any A1 A5 n1 n5 c1 c5 _ _ _ _ hn1.out hn5.out ((hbs1e.below hb5 (Nat.le_refl _)).more hb5.size) hbs5 HSL.out HSL.out).mono ?_
      rintro e w' ⟨rfl, nq2, rfl⟩
      rw [decide_eq_true rfl]
      go_wp2_with fail
      refine (same_any A2 (some ⟨b, o, none⟩) n2 (k + 4) c2 c _ _ _ _ hn2.out hm.out (((hbs2e.below hb5 (Nat.le_refl _)).more hb5.size).drewN nq2) (((hbs0.below hb15 (Nat.le_refl _)).more hb15.size).drewN nq2) HLM.out HLM.out).mono ?_
      rintro e w' ⟨rfl, nq3, rfl⟩
      rw [decide_eq_true rfl]
      have hbq := below_drewN hb15 (nq2 + nq3)
      go_wp2_with fail
      refine (same_any A3 (some ⟨b, o, none⟩) n3 k c3 c _ _ w5.heap.size _ hn3.out HK.out ?_ ?_ HLK.out HLK.out).mono ?_
      · exact ((((((hbs3.below hb4 (Nat.le_refl _)).more hb4.size).drewN nq).below hb5 (Nat.le_refl _)).more hb5.size).drewN (nq2 + nq3))
      · exact (((hbs0.below hb15 (Nat.le_refl _)).more hb15.size).take k).drewN (nq2 + nq3)
      rintro e w' ⟨rfl, nq4, rfl⟩
      rw [decide_eq_true rfl]
      have hbq := below_drewN hb15 (nq2 + nq3 + nq4)
      go_wp2_with fail
      refine (awake02_any _).mono ?_
      rintro e w7 ⟨rfl, hb7⟩
      go_wp2_with fail
      go_ret
      exact ⟨rfl, hbq.trans (hb7.mono hbq.size)⟩
end Go.Proofs.Ytogbcknpnelbgaa
