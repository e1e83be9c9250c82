/-
  The reference's tag.
-/
import Derived.Test.YtfcffafmcihamaaDoorHmac
import Derived.Test.YtfcffafmcihamaaDoorShaB
namespace Go.Proofs.YtfcffafmcihamaaDoor
open Go.RowKit
set_option linter.unusedVariables false

theorem key64_at (k : List UInt8) (j : Nat) (hj : j < 64) : (key64 k)[j]? = some (if j < (keyN k).length then (keyN k).getD j 0 else 0) := by
  have := keyN_length k
  unfold key64
  by_cases h : j < (keyN k).length
  · rw [List.getElem?_append_left h, if_pos h]
    simp [h]
  · rw [List.getElem?_append_right (by omega), if_neg h, List.getElem?_replicate, if_pos (by omega)]
theorem padK_step (x : UInt8) (k : List UInt8) (j : Nat) (hj : j < 64) (c : UInt8) (hc : c = if j < (keyN k).length then (keyN k).getD j 0 else 0) :
    (padK x k).take (j + 1) = (padK x k).take j ++ [c ^^^ x] := by
  have hl := padK_length x k
  rw [List.take_succ_eq_append_getElem (by omega)]
  congr 2
  have h := key64_at k j hj
  rw [← hc] at h
  unfold padK
  rw [List.getElem_map]
  have := List.getElem?_eq_some_iff.1 h
  rw [this.2]

set_option maxHeartbeats 1600000 in
/-- ref.padded. -/
theorem rpad_go (x : UInt8) (A : Option Addr) (n c : Nat) (k : List UInt8) (w : World) (hn : Hid (k.length = n)) (hL : Bs w w.heap.size A k) (hs : n ≤ 1099511627000) :
    Calls Tryd.prog 16 #[.slice A n c, .int .u8 (x.toNat : Int)] w (RetO 5 (padK x k) w) := by
  have HPL := Lib.hid (padK_length x k)
  by_cases hbig : 64 < n
  · have hgt : (64 : Int) < (n : Int) := by omega
    have HN : Hid (keyN k = shaN k) := by show _ = _; rw [keyN, if_pos (by rw [hn.out]; exact hbig)]
    clear hbig
    go_enter Tryd.func16, Tryd.ntmps16
    go_wp2_with fail
    refine (rsum_any A n c k w hn hL hs).mono ?_
    rintro e w1 ⟨A1, n1, c1, rfl, hn1, -, -, hc1, hv1, hb1⟩
    rw [← HN.out] at hn1 hv1
    clear HN hL
    have hk := keyN_length k
    have hn1' : n1 ≤ 64 := by rw [← hn1.out]; exact hk
    clear hk
    go_wp2_with fail
    go_loopw [5, 6] (fun v i wr => ∃ j : Nat, j ≤ 64 ∧ i = .int .i64 j ∧ Own wr w1.heap.size 5 v (((padK x k).take j).map bv) ∧ Below w1.heap.size w1 wr) (fun _ i _ => 64 - (intOf i).toNat)
    case atStart => exact ⟨0, Nat.zero_le _, rfl, Own.nil _ _ _, Below.refl _ _⟩
    case round =>
      obtain ⟨j, hj, rfl, hown, hb⟩ := hrel
      have hbs := hb.size
      by_cases hlt : j < 64
      · have hstep := padK_step x k j hlt
        have HLT : Hid ((((padK x k).take j).map bv).length = j) := by show _ = _; rw [List.length_map, List.length_take, HPL.out]; omega
        rw [hn1.out] at hstep
        obtain ⟨V, hV⟩ : ∃ V, ((padK x k).take j).map bv = V := ⟨_, rfl⟩
        rw [hV] at hown HLT
        have HV := Lib.hid hV
        clear hV
        by_cases hin : j < n1
        · have hinn : (j : Int) < (n1 : Int) := by omega
          obtain ⟨b, o, rfl, hb0, hc⟩ := hv1.at_ (by rw [hn1.out]; omega)
          have hjl : j < (keyN k).length := by rw [hn1.out]; exact hin
          have hc1 := (hb.cell (p := ⟨b, o + j, none⟩) hb0).trans (hc j hjl)
          have hst := hstep (keyN k)[j] (by rw [if_pos hin]; simp [hjl])
          have HX : Hid (bits .xor .u8 ((keyN k)[j].toNat : Int) (x.toNat : Int) = ((((keyN k)[j] ^^^ x).toNat : Nat) : Int)) := by show _ = _; exact u8_xorB _ _
          obtain ⟨y, hy⟩ : ∃ y, (keyN k)[j] = y := ⟨_, rfl⟩
          rw [hy] at hc1 hst HX
          have HS := Lib.hid hst
          clear hy hst hstep hc hjl
          have j0 : (0 : Int) ≤ (j : Int) := by omega
          go_wp2_with (at_builtin; refine wp_app1 wr rfl (.tmp 25) (.tmp 29) _ rfl w1.heap.size 5 u8E u5 _ rfl hown (.int .u8 (bits .xor .u8 (y.toNat : Int) (x.toNat : Int))) _ _ rfl rfl ?c1 ?c2 ?c3 ?_)
          case c1 => rw [HLT.out]; simp [maxLen]; omega
          case c2 => rw [HLT.out]; omega
          case c3 => exact hbs
          intro v' w2 hown' hg
          have hown2 : Own w2 w1.heap.size 5 v' (((padK x k).take (j + 1)).map bv) := by
            rw [HS.out, List.map_append, HV.out]
            rw [HX.out] at hown'
            exact hown'
          have hb2 := hb.trans (below_app hown hg hbs)
          clear hown hown' hg hb hc1
          go_wp2
          go_roundw
          case rel => exact ⟨j + 1, by omega, by go_num, hown2, hb2⟩
          case measure => simp [intOf]; omega
        · have hinn : ¬ (j : Int) < (n1 : Int) := by omega
          have hst := hstep 0 (by rw [if_neg hin])
          have HX : Hid (bits .xor .u8 0 (x.toNat : Int) = ((((0 : UInt8) ^^^ x).toNat : Nat) : Int)) := by show _ = _; exact u8_xorB 0 x
          have HS := Lib.hid hst
          clear hst hstep
          have j0 : (0 : Int) ≤ (j : Int) := by omega
          go_wp2_with (at_builtin; refine wp_app1 wr rfl (.tmp 25) (.tmp 29) _ rfl w1.heap.size 5 u8E u5 _ rfl hown (.int .u8 (bits .xor .u8 0 (x.toNat : Int))) _ _ rfl rfl ?e1 ?e2 ?e3 ?_)
          case e1 => rw [HLT.out]; simp [maxLen]; omega
          case e2 => rw [HLT.out]; omega
          try case e3 => exact hbs
          intro v' w2 hown' hg
          have hown2 : Own w2 w1.heap.size 5 v' (((padK x k).take (j + 1)).map bv) := by
            rw [HS.out, List.map_append, HV.out]
            rw [HX.out] at hown'
            exact hown'
          have hb2 := hb.trans (below_app hown hg hbs)
          clear hown hown' hg hb
          go_wp2
          go_roundw
          case rel => exact ⟨j + 1, by omega, by go_num, hown2, hb2⟩
          case measure => simp [intOf]; omega
      · obtain rfl : j = 64 := by omega
        rw [List.take_of_length_le (by rw [HPL.out]; omega)] at hown
        rw [show ((64 : Nat) : Int) = 64 from rfl]
        go_wp2_with fail
        go_ret
        exact RetO.since hb1 (RetO.of rfl hown hb)
  · have hgt : ¬ (64 : Int) < (n : Int) := by omega
    have HN : keyN k = k := by rw [keyN, if_neg (by rw [hn.out]; exact hbig)]
    obtain ⟨w1, hw⟩ : ∃ w1, w1 = w := ⟨_, rfl⟩
    have hv1 : Bs w1 w1.heap.size A (keyN k) := by rw [hw, HN]; exact hL
    have hb1 : Below w.heap.size w w1 := by rw [hw]; exact Below.refl _ _
    have hn1 : Hid ((keyN k).length = n) := by show _ = _; rw [HN]; exact hn.out
    obtain ⟨A1, hA1⟩ : ∃ A1, A1 = A := ⟨_, rfl⟩
    obtain ⟨n1, hn1'⟩ : ∃ n1, n1 = n := ⟨_, rfl⟩
    rw [← hA1] at hv1
    rw [← hn1'] at hn1
    have HRW := Lib.hid hw
    have HRA := Lib.hid hA1
    have HRN := Lib.hid hn1'
    clear hbig HN hL hw hA1 hn1'
    go_enter Tryd.func16, Tryd.ntmps16
    go_wp2_with fail
    rw [← HRW.out, ← HRA.out, ← HRN.out]
    rw [← HRN.out] at hgt
    clear HRW HRA HRN
    have hk := keyN_length k
    have hn1' : n1 ≤ 64 := by rw [← hn1.out]; exact hk
    clear hk
    go_wp2_with fail
    go_loopw [5, 6] (fun v i wr => ∃ j : Nat, j ≤ 64 ∧ i = .int .i64 j ∧ Own wr w1.heap.size 5 v (((padK x k).take j).map bv) ∧ Below w1.heap.size w1 wr) (fun _ i _ => 64 - (intOf i).toNat)
    case atStart => exact ⟨0, Nat.zero_le _, rfl, Own.nil _ _ _, Below.refl _ _⟩
    case round =>
      obtain ⟨j, hj, rfl, hown, hb⟩ := hrel
      have hbs := hb.size
      by_cases hlt : j < 64
      · have hstep := padK_step x k j hlt
        have HLT : Hid ((((padK x k).take j).map bv).length = j) := by show _ = _; rw [List.length_map, List.length_take, HPL.out]; omega
        rw [hn1.out] at hstep
        obtain ⟨V, hV⟩ : ∃ V, ((padK x k).take j).map bv = V := ⟨_, rfl⟩
        rw [hV] at hown HLT
        have HV := Lib.hid hV
        clear hV
        by_cases hin : j < n1
        · have hinn : (j : Int) < (n1 : Int) := by omega
          obtain ⟨b, o, rfl, hb0, hc⟩ := hv1.at_ (by rw [hn1.out]; omega)
          have hjl : j < (keyN k).length := by rw [hn1.out]; exact hin
          have hc1 := (hb.cell (p := ⟨b, o + j, none⟩) hb0).trans (hc j hjl)
          have hst := hstep (keyN k)[j] (by rw [if_pos hin]; simp [hjl])
          have HX : Hid (bits .xor .u8 ((keyN k)[j].toNat : Int) (x.toNat : Int) = ((((keyN k)[j] ^^^ x).toNat : Nat) : Int)) := by show _ = _; exact u8_xorB _ _
          obtain ⟨y, hy⟩ : ∃ y, (keyN k)[j] = y := ⟨_, rfl⟩
          rw [hy] at hc1 hst HX
          have HS := Lib.hid hst
          clear hy hst hstep hc hjl
          have j0 : (0 : Int) ≤ (j : Int) := by omega
          go_wp2_with (at_builtin; refine wp_app1 wr rfl (.tmp 25) (.tmp 29) _ rfl w1.heap.size 5 u8E u5 _ rfl hown (.int .u8 (bits .xor .u8 (y.toNat : Int) (x.toNat : Int))) _ _ rfl rfl ?p1 ?p2 ?p3 ?_)
          case p1 => rw [HLT.out]; simp [maxLen]; omega
          case p2 => rw [HLT.out]; omega
          case p3 => exact hbs
          intro v' w2 hown' hg
          have hown2 : Own w2 w1.heap.size 5 v' (((padK x k).take (j + 1)).map bv) := by
            rw [HS.out, List.map_append, HV.out]
            rw [HX.out] at hown'
            exact hown'
          have hb2 := hb.trans (below_app hown hg hbs)
          clear hown hown' hg hb hc1
          go_wp2
          go_roundw
          case rel => exact ⟨j + 1, by omega, by go_num, hown2, hb2⟩
          case measure => simp [intOf]; omega
        · have hinn : ¬ (j : Int) < (n1 : Int) := by omega
          have hst := hstep 0 (by rw [if_neg hin])
          have HX : Hid (bits .xor .u8 0 (x.toNat : Int) = ((((0 : UInt8) ^^^ x).toNat : Nat) : Int)) := by show _ = _; exact u8_xorB 0 x
          have HS := Lib.hid hst
          clear hst hstep
          have j0 : (0 : Int) ≤ (j : Int) := by omega
          go_wp2_with (at_builtin; refine wp_app1 wr rfl (.tmp 25) (.tmp 29) _ rfl w1.heap.size 5 u8E u5 _ rfl hown (.int .u8 (bits .xor .u8 0 (x.toNat : Int))) _ _ rfl rfl ?q1 ?q2 ?q3 ?_)
          case q1 => rw [HLT.out]; simp [maxLen]; omega
          case q2 => rw [HLT.out]; omega
          try case q3 => exact hbs
          intro v' w2 hown' hg
          have hown2 : Own w2 w1.heap.size 5 v' (((padK x k).take (j + 1)).map bv) := by
            rw [HS.out, List.map_append, HV.out]
            rw [HX.out] at hown'
            exact hown'
          have hb2 := hb.trans (below_app hown hg hbs)
          clear hown hown' hg hb
          go_wp2
          go_roundw
          case rel => exact ⟨j + 1, by omega, by go_num, hown2, hb2⟩
          case measure => simp [intOf]; omega
      · obtain rfl : j = 64 := by omega
        rw [List.take_of_length_le (by rw [HPL.out]; omega)] at hown
        rw [show ((64 : Nat) : Int) = 64 from rfl]
        go_wp2_with fail
        go_ret
        exact RetO.since hb1 (RetO.of rfl hown hb)

theorem rpad36 (A : Option Addr) (n c : Nat) (k : List UInt8) (w : World) (hn : Hid (k.length = n)) (hL : Bs w w.heap.size A k) (hs : n ≤ 1099511627000) :
    Calls Tryd.prog 16 #[.slice A n c, .int .u8 54] w (RetO 5 (padK 0x36 k) w) := rpad_go 0x36 A n c k w hn hL hs
theorem rpad5c (A : Option Addr) (n c : Nat) (k : List UInt8) (w : World) (hn : Hid (k.length = n)) (hL : Bs w w.heap.size A k) (hs : n ≤ 1099511627000) :
    Calls Tryd.prog 16 #[.slice A n c, .int .u8 92] w (RetO 5 (padK 0x5c k) w) := rpad_go 0x5c A n c k w hn hL hs

set_option maxHeartbeats 1600000 in
/-- ref.Tag. -/
theorem rtag_any (A1 A2 : Option Addr) (n1 n2 c1 c2 : Nat) (k b : List UInt8) (w : World) (hn1 : Hid (k.length = n1)) (hn2 : Hid (b.length = n2)) (hL1 : Bs w w.heap.size A1 k) (hL2 : Bs w w.heap.size A2 b) (hs1 : n1 ≤ 1099511627000) (hs2 : n2 ≤ 1099511620000) :
    Calls Tryd.prog 8 #[.slice A1 n1 c1, .slice A2 n2 c2] w (RetO 5 (tagN k b) w) := by
  have h1b := bv_one b
  have HB := bytes_len b n2 hn2.out
  go_enter Tryd.func8, Tryd.ntmps8
  go_wp2_with fail
  refine (rpad36 A1 n1 c1 k w hn1 hL1 hs1).mono ?_
  rintro e w1 ⟨Ap, np, cp, rfl, hnp, hown1, -, -, -, hb1⟩
  have HP := bytes_len _ _ hnp.out
  have hnp2 : (padK 0x36 k).length = 64 := padK_length _ _
  obtain rfl : np = 64 := by rw [← hnp.out]; exact hnp2
  clear hnp2
  have hs1' := hb1.size
  obtain ⟨X, hX⟩ : ∃ X, padK 0x36 k = X := ⟨_, rfl⟩
  rw [hX] at hown1 HP hnp
  go_wp2_with (at_builtin; refine wp_appG w1 (by rfl) (.tmp 8) (.tmp 9) _ rfl w.heap.size 5 u8E (.slice Ap 64 cp) (X.map bv) rfl hown1 _ _ _ _ _ rfl HB.out (hL2.below hb1 (Nat.le_refl _)) h1b ?c1 ?c2 ?c3 ?_)
  case c1 => rw [HP.out]; simp [maxLen]; omega
  case c2 => rw [HP.out]; omega
  case c3 => exact hs1'
  intro v2 w2 hown2 hg2 _
  have hb2 := hb1.trans (below_app hown1 hg2 hs1')
  rw [← List.map_append] at hown2
  obtain ⟨A2', n2', c2', rfl, hn2', hnc2', hc2', hv2⟩ := hown2.bform
  have hle : n2' ≤ 1099511627000 := by rw [← hn2'.out, List.length_append, hnp.out, hn2.out]; omega
  clear hown1 hg2 h1b HB HP
  go_wp2_with fail
  refine (rpad5c A1 n1 c1 k w2 hn1 ((hL1.below hb2 (Nat.le_refl _)).more hb2.size) hs1).mono ?_
  rintro e w3 ⟨Aq, nq, cq, rfl, hnq, hown3, -, -, -, hb3⟩
  have HQ := bytes_len _ _ hnq.out
  obtain rfl : nq = 64 := by rw [← hnq.out]; exact padK_length _ _
  have hv3 := (hv2.below hb3 (Nat.le_refl _)).more hb3.size
  have hb3' := hb2.trans (hb3.mono hb2.size)
  replace hown3 := hown3.mono hb2.size
  clear hb3 hown2 hv2
  go_wp2_with fail
  refine (rsum_any A2' n2' c2' (X ++ b) w3 hn2' hv3 hle).mono ?_
  rintro e w4 ⟨As, ns, cs, rfl, hns, -, -, -, hv4, hb4⟩
  obtain ⟨I, hI⟩ : ∃ I, shaN (X ++ b) = I := ⟨_, rfl⟩
  have HT : Hid (tagN k b = shaN (padK 0x5c k ++ I)) := by show _ = _; rw [← hI, ← hX]; rfl
  have hIl : I.length = 32 := by rw [← hI]; exact shaN_length _
  rw [hI] at hns hv4
  obtain rfl : ns = 32 := by rw [← hns.out]; exact hIl
  have hown4 := hown3.below hb4 (Nat.le_refl _)
  have hb4' := hb3'.trans (hb4.mono hb3'.size)
  have h1i := bv_one I
  have HIL := bytes_len I 32 hIl
  have hs4 := hb4'.size
  obtain ⟨Y, hY⟩ : ∃ Y, padK 0x5c k = Y := ⟨_, rfl⟩
  rw [hY] at hown4 HQ hnq HT
  clear hY hX hI hIl hown3 hb4 hv3
  go_wp2_with (at_builtin; refine wp_appG w4 (by rfl) (.tmp 12) (.tmp 14) _ rfl w.heap.size 5 u8E (.slice Aq 64 cq) (Y.map bv) rfl hown4 _ _ _ _ _ rfl HIL.out hv4 h1i ?d1 ?d2 ?d3 ?_)
  case d1 => rw [HQ.out]; simp [maxLen]
  case d2 => rw [HQ.out]; omega
  case d3 => exact hs4
  intro v5 w5 hown5 hg5 _
  have hb5 := hb4'.trans (below_app hown4 hg5 hs4)
  rw [← List.map_append] at hown5
  obtain ⟨A5, n5, c5, rfl, hn5, hnc5, hc5, hv5⟩ := hown5.bform
  obtain rfl : n5 = 96 := by rw [← hn5.out, List.length_append, hnq.out]; have := HIL.out; rw [List.length_map] at this; rw [this]
  clear hown4 hg5 h1i HIL hv4
  go_wp2_with fail
  refine (rsum_any A5 96 c5 (Y ++ I) w5 hn5 hv5 (by omega)).mono ?_
  intro e w6 hr
  rw [← HT.out] at hr
  have hr2 := RetO.since hb5 hr
  obtain ⟨A6, n6, c6, rfl, hn6, ho6, hnc6, hc6, hv6, hb6⟩ := hr2
  go_wp2_with fail
  go_ret
  exact ⟨A6, n6, c6, rfl, hn6, ho6, hnc6, hc6, hv6, hb6⟩
end Go.Proofs.YtfcffafmcihamaaDoor
