import Derived.Test.YtfcffafmcihamaaDoorAwake04
import Derived.Test.YtfcffafmcihamaaDoorShaB
import Derived.Test.YtfcffafmcihamaaDoorArrEq
namespace Go.Proofs.YtfcffafmcihamaaDoor
open Go.RowKit
set_option linter.unusedVariables false

theorem key64_zeros (k : List UInt8) (j : Nat) (h : k.length + j ≤ 64) : key64 (k ++ List.replicate j 0) = key64 k := by
  unfold key64 keyN
  rw [if_neg (by simp; omega), if_neg (by omega)]
  simp only [List.length_append, List.length_replicate, List.append_assoc, List.replicate_append_replicate]
  congr 2
  omega
theorem tagN_zeros (k b : List UInt8) (j : Nat) (h : j = 0 ∨ k.length + j ≤ 64) : tagN (k ++ List.replicate j 0) b = tagN k b := by
  rcases h with rfl | h
  · simp
  · unfold tagN padK
    rw [key64_zeros k j h]
theorem tagN_sha (k b : List UInt8) (h : 64 < k.length) : tagN (shaN k) b = tagN k b := by
  have e : key64 (shaN k) = key64 k := by
    unfold key64
    have h1 : keyN (shaN k) = shaN k := by unfold keyN; rw [if_neg (by rw [shaN_length]; omega)]
    have h2 : keyN k = shaN k := by unfold keyN; rw [if_pos h]
    rw [h1, h2]
  unfold tagN padK
  rw [e]
theorem eql_same (w : World) (l : List UInt8) (hl : l.length = 32) : (Op.equalIn 10000 24 (.agg (l.map bv).toArray) (.agg (l.map bv).toArray)).run Tryd.prog w = .ok true w := by
  have e : l.map bv = (l.map fun x => (x.toNat : Int)).map (Value.int .u8) := by rw [List.map_map]; rfl
  rw [e]
  exact run_equalIn_selfI w Tryd.underlying24 Tryd.underlying5 (by kernel_rfl) _ (by simpa using hl)

set_option maxHeartbeats 3200000 in
theorem hmacKeys_go (A1 A2 : Option Addr) (n1 n2 c1 c2 : Nat) (z : Nat) (k b : List UInt8) (w : World) (hz1 : z < 256) (hn1 : Hid (k.length = n1)) (hn2 : Hid (b.length = n2)) (hnc1 : n1 ≤ c1) (hc1 : c1 ≤ 9223372036854775807)
    (hL1 : Bs w w.heap.size A1 k) (hL2 : Bs w w.heap.size A2 b) (hK : Kons w) :
    Calls Tryd.prog 5 #[.slice A1 n1 c1, .int .u8 (z : Int), .slice A2 n2 c2] w fun e w' => e = .returned (.bool true) ∧ Below w.heap.size w w' := by
  by_cases hbig : 300 < n1 ∨ 500 < n2
  · have hbb : (300 : Int) < (n1 : Int) ∨ (¬ (300 : Int) < (n1 : Int) ∧ (500 : Int) < (n2 : Int)) := by omega
    clear hbig
    rcases hbb with hb | ⟨hb, hb'⟩
    all_goals
      go_enter Tryd.func5, Tryd.ntmps5
      go_wp2_with fail
      refine (awake04_any _ hK).mono ?_
      rintro e w1 ⟨rfl, hb⟩
      go_wp2_with fail
      go_ret
      exact ⟨rfl, hb⟩
  have g1 : ¬ (300 : Int) < (n1 : Int) := by omega
  have g2 : ¬ (500 : Int) < (n2 : Int) := by omega
  have h1k := bv_one k
  have HKL := bytes_len k n1 hn1.out
  clear hbig
  go_enter Tryd.func5, Tryd.ntmps5
  go_wp2_with (at_builtin; refine wp_appG (w.alloc (.cells #[] 5)) (by rfl) (.tmp 18) (.tmp 19) _ rfl w.heap.size 5 u8E (.slice (some ⟨w.heap.size, 0, none⟩) 0 0) [] rfl (World.ownsRow_made w #[] 0 (Nat.le_refl _) (Nat.zero_le _) rfl) _ _ _ _ _ rfl HKL.out (Bs.alloc hL1 (Nat.le_refl _) _) h1k ?c1 ?c2 ?c3 ?_)
  case c1 => simp [maxLen]; omega
  case c2 => first | omega | (simp; omega)
  try case c3 => simp
  intro v1 w1 hown1 hg1 _
  have hb1 : Below w.heap.size w w1 := ((Below.refl _ w).alloc (Nat.le_refl _) _).trans (below_app (World.ownsRow_made w #[] 0 (Nat.le_refl _) (Nat.zero_le _) rfl) hg1 (by simp))
  clear hg1
  obtain ⟨T, hT⟩ : ∃ T, tagN k b = T := ⟨_, rfl⟩
  have HT := Lib.hid hT
  have HQ : Hid (∀ W : World, (Op.equalIn 10000 24 (.agg (T.map bv).toArray) (.agg (T.map bv).toArray)).run Tryd.prog W = .ok true W) := fun W => eql_same W T (by rw [← hT]; exact tagN_length k b)
  clear hT
  go_wp2_with fail
  go_loopw [7, 8] (fun v i wr => ∃ j : Nat, i = .int .i64 j ∧ j ≤ z ∧ (j = 0 ∨ n1 + j ≤ 64) ∧ Own wr w.heap.size 5 v ((k ++ List.replicate j 0).map bv) ∧ Below w.heap.size w wr) (fun _ i _ => z - (intOf i).toNat)
  case atStart => exact ⟨0, rfl, Nat.zero_le _, .inl rfl, by simpa using hown1, hb1⟩
  case round =>
    clear hown1 hb1 h1k
    obtain ⟨j, rfl, hjz, hj, hown, hb⟩ := hrel
    obtain ⟨A, n, c, rfl, hn, hnc, -, -⟩ := hown.bform
    obtain rfl : n = n1 + j := by have := hn.out; rw [List.length_append, hn1.out] at this; simpa using this.symm
    have hbs := hb.size
    have HLT := bytes_len _ _ hn.out
    by_cases hgo : j < z ∧ n1 + j < 64
    · obtain ⟨h1, h2⟩ := hgo
      have i1 : (j : Int) < (z : Int) := by omega
      have i2 : (n1 : Int) + (j : Int) < 64 := by omega
      obtain ⟨V, hV⟩ : ∃ V, (k ++ List.replicate j (0 : UInt8)).map bv = V := ⟨_, rfl⟩
      rw [hV] at hown HLT
      have HV := Lib.hid hV
      clear hV hn
      go_wp2_with (at_builtin; refine wp_app1 wr (by rfl) (.tmp 32) (.tmp 33) _ rfl w.heap.size 5 u8E (.slice A (n1 + j) c) _ rfl hown (.int .u8 0) _ _ rfl rfl ?d1 ?d2 ?d3 ?_)
      case d1 => rw [HLT.out]; simp [maxLen]; omega
      case d2 => rw [HLT.out]; omega
      try case d3 => exact hbs
      intro v' w2 hown' hg
      have hown2 : Own w2 w.heap.size 5 v' ((k ++ List.replicate (j + 1) 0).map bv) := by
        have e : (k ++ List.replicate (j + 1) (0 : UInt8)).map bv = V ++ [Value.int .u8 0] := by rw [← HV.out, List.replicate_succ', ← List.append_assoc, List.map_append]; rfl
        rw [e]
        exact hown'
      have hb2 := hb.trans (below_app hown hg hbs)
      clear hown hown' hg hb
      go_wp2
      go_roundw
      case rel => exact ⟨j + 1, by go_num, by omega, .inr (by omega), hown2, hb2⟩
      case measure => simp [intOf]; omega
    · have hex : ¬ (j : Int) < (z : Int) ∨ ((j : Int) < (z : Int) ∧ ¬ (n1 : Int) + (j : Int) < 64) := by omega
      have h300 : n1 ≤ 300 := by omega
      clear hgo
      by_cases hbig : 64 < n1
      · have ib : (64 : Int) < (n1 : Int) := by omega
        have HB : Hid (64 < k.length) := by show _ < _; rw [hn1.out]; exact hbig
        rcases hex with h1 | ⟨h1, h2⟩
        all_goals
          go_wp2_with fail
          refine (rsum_any A1 n1 c1 k wr hn1 ((hL1.below hb (Nat.le_refl _)).more hb.size) (by omega)).mono ?_
          rintro e wx ⟨A3, n3, c3, rfl, hn3, -, hnc3, hc3, hvo, hb2⟩
          have hn3s : n3 ≤ 1099511627000 := by rw [← hn3.out, shaN_length]; omega
          have hbx := hb.trans (hb2.mono hb.size)
          have kp : ∀ {A : Option Addr} {l : List UInt8}, Bs w w.heap.size A l → Bs wx wx.heap.size A l := fun h => (h.below hbx (Nat.le_refl _)).more hbx.size
          clear hb2
          go_wp2_with fail
          refine (tag_any A1 A2 n1 n2 c1 c2 k b _ hn1 hn2 hnc1 hc1 (kp hL1) (kp hL2) (hK.below hbx) (by omega) (by omega)).mono ?_
          rintro e w4 ⟨rfl, hb4⟩
          have hb5 := hbx.trans (hb4.mono hbx.size)
          have hvo' := (hvo.below hb4 (Nat.le_refl _)).more hb4.size
          have kp4 : ∀ {A : Option Addr} {l : List UInt8}, Bs w w.heap.size A l → Bs w4 w4.heap.size A l := fun h => (h.below hb5 (Nat.le_refl _)).more hb5.size
          clear hb4 hvo kp
          go_wp2_with fail
          refine (tag_any A3 A2 n3 n2 c3 c2 (shaN k) b _ hn3 hn2 hnc3 (by unfold maxLen at hc3; omega) hvo' (kp4 hL2) (hK.below hb5) hn3s (by omega)).mono ?_
          rintro e w5 ⟨rfl, hb6⟩
          rw [tagN_sha k b HB.out, HT.out]
          have hb7 := hb5.trans (hb6.mono hb5.size)
          have hq := HQ.out w5
          clear hb6 hvo' kp4
          go_wp2_with fail
          refine (awake04_any _ (hK.below hb7)).mono ?_
          rintro e w6 ⟨rfl, hb8⟩
          go_wp2_with fail
          go_ret
          exact ⟨rfl, hb7.trans (hb8.mono hb7.size)⟩
      · have ib : ¬ (64 : Int) < (n1 : Int) := by omega
        rcases hex with h1 | ⟨h1, h2⟩
        all_goals
          obtain ⟨A3, n3, c3, he, hn3, hnc3, hc3, hvo⟩ := hown.bform
          injection he with he1 he2 he3
          subst he1 he2 he3
          have hn3s : n1 + j ≤ 1099511627000 := by omega
          have hbx := hb
          have kp : ∀ {A : Option Addr} {l : List UInt8}, Bs w w.heap.size A l → Bs wr wr.heap.size A l := fun h => (h.below hbx (Nat.le_refl _)).more hbx.size
          go_wp2_with fail
          refine (tag_any A1 A2 n1 n2 c1 c2 k b _ hn1 hn2 hnc1 hc1 (kp hL1) (kp hL2) (hK.below hbx) (by omega) (by omega)).mono ?_
          rintro e w4 ⟨rfl, hb4⟩
          have hb5 := hbx.trans (hb4.mono hbx.size)
          have hvo' := (hvo.below hb4 (Nat.le_refl _)).more hb4.size
          have kp4 : ∀ {A : Option Addr} {l : List UInt8}, Bs w w.heap.size A l → Bs w4 w4.heap.size A l := fun h => (h.below hb5 (Nat.le_refl _)).more hb5.size
          clear hb4 hvo kp
          go_wp2_with fail
          refine (tag_any A A2 (n1 + j) n2 c c2 (k ++ List.replicate j 0) b _ hn3 hn2 hnc3 (by unfold maxLen at hc3; omega) hvo' (kp4 hL2) (hK.below hb5) hn3s (by omega)).mono ?_
          rintro e w5 ⟨rfl, hb6⟩
          rw [tagN_zeros k b j (by rw [hn1.out]; exact hj), HT.out]
          have hb7 := hb5.trans (hb6.mono hb5.size)
          have hq := HQ.out w5
          clear hb6 hvo' kp4
          go_wp2_with fail
          refine (awake04_any _ (hK.below hb7)).mono ?_
          rintro e w6 ⟨rfl, hb8⟩
          go_wp2_with fail
          go_ret
          exact ⟨rfl, hb7.trans (hb8.mono hb7.size)⟩
end Go.Proofs.YtfcffafmcihamaaDoor
