import Derived.Test.YtiooadmahnnogaaAwake01
namespace Go.Proofs.Ytiooadmahnnogaa
open Go.RowKit
set_option linter.unusedVariables false

set_option maxHeartbeats 1000000 in
theorem octetPuts_go (A : Option Addr) (m c : Nat) (l : List UInt8) (k : Int) (n : Nat) (w : World) (hm : Hid (l.length = m)) (h : Bs w w.heap.size A l) (hc : c ≤ maxLen) (hn : n ≤ 18446744073709551615) :
    Calls Try.prog 3 #[.slice A m c, .int .i64 k, .int .u64 n] w fun e w' => e = .returned (.bool true) ∧ Below w.heap.size w w' := by
  have hmc := hm.out
  by_cases hbig : 500 < m
  · clear hmc
    have hbig' : (500 : Int) < (m : Int) := by omega
    go_enter Try.func3, Try.ntmps3
    go_wp2_with fail
    refine (awake_any _).mono ?_
    rintro e w1 ⟨rfl, hb⟩
    go_wp2_with fail
    go_ret
    exact ⟨rfl, hb⟩
  clear hmc
  have hm' : m ≤ 500 := by omega
  clear hbig
  have h1 := bv_one l
  have hlm : (l.map bv).length = m := by rw [List.length_map]; exact hm.out
  have HLM := Lib.hid hlm
  clear hlm
  rcases hw : isW k with _ | _
  · have HW := Lib.hid hw
    have HP : Hid (l = l ++ putB k n) := by show _ = _; simp [putB, hw]
    clear hw
    go_enter Try.func3, Try.ntmps3
    go_wp2_with (at_builtin; refine wp_app (w.alloc (.cells #[] 5)) rfl (.tmp 12) (.tmp 13) _ rfl w.heap.size 5 u8E (.slice (some ⟨w.heap.size, 0, none⟩) 0 0) [] rfl (World.ownsRow_made w #[] 0 (Nat.le_refl _) (Nat.zero_le _) rfl) _ _ _ _ _ rfl HLM.out (Bs.alloc h (Nat.le_refl _) _) h1 ?c1 ?c2 ?c3 ?_)
    case c1 => simp [maxLen]; omega
    case c2 => simp; omega
    case c3 => simp
    intro v1 w1 hown1 hg1 _
    have hb1 : Below w.heap.size w w1 := ((Below.refl _ w).alloc (Nat.le_refl _) _).trans (below_app (World.ownsRow_made w #[] 0 (Nat.le_refl _) (Nat.zero_le _) rfl) hg1 (by simp))
    rw [HP.out] at hown1
    clear hg1 HLM
    go_wp2_with fail
    refine (width_any _ _).mono ?_
    rintro e w' ⟨rfl, rfl⟩
    rw [HW.out]
    obtain ⟨A2, m2, c2, rfl, hm2, -, -, hv2⟩ := hown1.bform
    clear hown1
    go_wp2_with fail
    refine (put_any A m c l k n _ hm.out ((h.below hb1 (Nat.le_refl _)).more hb1.size) (by omega) hn).mono ?_
    rintro e w3 ⟨A3, n3, c3, rfl, hn3, -, -, -, hbs3, hb3⟩
    have hl3 : Hid ((l ++ putB k n).length ≤ 508) := by have := hm.out; have := putB_le k n; show _ ≤ _; simp; omega
    go_wp2_with fail
    refine (same_any A3 A2 n3 m2 c3 c2 (l ++ putB k n) (l ++ putB k n) w3.heap.size w3 hn3.out hm2.out hbs3 ((Bs.below hv2 hb3 (Nat.le_refl _)).more hb3.size) (by have := hl3.out; unfold maxLen; omega) (by have := hl3.out; unfold maxLen; omega)).mono ?_
    rintro e w' ⟨rfl, nq, rfl⟩
    rw [decide_eq_true rfl]
    go_wp2_with fail
    refine (ofits_any k n _ hn).mono ?_
    rintro e w' ⟨rfl, rfl⟩
    go_wp2_with fail
    refine (rfits_any k n _ hn).mono ?_
    rintro e w4 ⟨rfl, hb4⟩
    have hff : (fitB k n == fitB k n) = true := by simp
    go_wp2_with fail
    refine (awake_any _).mono ?_
    rintro e w5 ⟨rfl, hb5⟩
    go_wp2_with fail
    go_ret
    refine ⟨rfl, ?_⟩
    have h3 := hb1.trans (hb3.mono hb1.size)
    have h4 := (below_drewN h3 nq).trans (hb4.mono (by simpa using h3.size))
    exact h4.trans (hb5.mono h4.size)
  · have hkk := isW_cases hw
    obtain ⟨kn, rfl⟩ : ∃ kn : Nat, k = kn := ⟨k.toNat, by omega⟩
    have hk8 : kn ≤ 8 := by omega
    have HP : Hid (leB kn n = putB kn n) := by show _ = _; simp [putB, hw]
    have HW := Lib.hid hw
    clear hw hkk
    obtain ⟨k, hk⟩ : ∃ k : Int, k = (kn : Int) := ⟨_, rfl⟩
    rw [← hk] at HW HP ⊢
    have HK := Lib.hid hk
    clear hk
    go_enter Try.func3, Try.ntmps3
    go_wp2_with (at_builtin; refine wp_app (w.alloc (.cells #[] 5)) rfl (.tmp 12) (.tmp 13) _ rfl w.heap.size 5 u8E (.slice (some ⟨w.heap.size, 0, none⟩) 0 0) [] rfl (World.ownsRow_made w #[] 0 (Nat.le_refl _) (Nat.zero_le _) rfl) _ _ _ _ _ rfl HLM.out (Bs.alloc h (Nat.le_refl _) _) h1 ?c1 ?c2 ?c3 ?_)
    case c1 => simp [maxLen]; omega
    case c2 => simp; omega
    case c3 => simp
    intro v1 w1 hown1 hg1 _
    have hb1 : Below w.heap.size w w1 := ((Below.refl _ w).alloc (Nat.le_refl _) _).trans (below_app (World.ownsRow_made w #[] 0 (Nat.le_refl _) (Nat.zero_le _) rfl) hg1 (by simp))
    clear hg1
    go_wp2_with fail
    refine (width_any _ _).mono ?_
    rintro e w' ⟨rfl, rfl⟩
    rw [HW.out]
    go_wp2_with fail
    rw [HK.out]
    refine (bytes_any kn n _ (by omega) hn).mono ?_
    rw [← HK.out]
    rintro e w2 ⟨A1, n1, c1, rfl, hn1, -, -, -, hbs1, hb2⟩
    have hn1' : Hid (n1 = kn) := by have := hn1.out; simp at this; exact this.symm
    have hn1b : n1 ≤ 8 := by rw [hn1'.out]; exact hk8
    have hown1' := hown1.below hb2 (Nat.le_refl _)
    have h1b := bv_one (leB kn n)
    have hb12 := hb1.trans (hb2.mono hb1.size)
    have hbs12 := hb12.size
    go_wp2_with (at_builtin; refine wp_app w2 rfl (.tmp 17) (.tmp 20) _ rfl w.heap.size 5 u8E v1 _ rfl hown1' _ _ _ _ _ rfl ((List.length_map _).trans hn1.out) hbs1 h1b ?d1 ?d2 ?d3 ?_)
    case d1 => rw [HLM.out, maxLen]; omega
    case d2 => rw [HLM.out]; omega
    case d3 => exact hbs12
    intro v2 w2b hown2 hg2 _
    have hb22 := hb12.trans (below_app hown1' hg2 hbs12)
    rw [← List.map_append, HP.out] at hown2
    clear hg2 HLM hown1 hown1' hbs1
    obtain ⟨A2, m2, c2, rfl, hm2, -, -, hv2⟩ := hown2.bform
    clear hown2
    go_wp2_with fail
    refine (put_any A m c l k n _ hm.out ((h.below hb22 (Nat.le_refl _)).more hb22.size) (by omega) hn).mono ?_
    rintro e w3 ⟨A3, n3, c3, rfl, hn3, -, -, -, hbs3, hb3⟩
    have hl3 : Hid ((l ++ putB k n).length ≤ 508) := by have := hm.out; have := putB_le k n; show _ ≤ _; simp; omega
    go_wp2_with fail
    refine (same_any A3 A2 n3 m2 c3 c2 (l ++ putB k n) (l ++ putB k n) w3.heap.size w3 hn3.out hm2.out hbs3 ((Bs.below hv2 hb3 (Nat.le_refl _)).more hb3.size) (by have := hl3.out; unfold maxLen; omega) (by have := hl3.out; unfold maxLen; omega)).mono ?_
    rintro e w' ⟨rfl, nq, rfl⟩
    rw [decide_eq_true rfl]
    go_wp2_with fail
    refine (ofits_any k n _ hn).mono ?_
    rintro e w' ⟨rfl, rfl⟩
    go_wp2_with fail
    refine (rfits_any k n _ hn).mono ?_
    rintro e w4 ⟨rfl, hb4⟩
    have hff : (fitB k n == fitB k n) = true := by simp
    go_wp2_with fail
    refine (awake_any _).mono ?_
    rintro e w5 ⟨rfl, hb5⟩
    go_wp2_with fail
    go_ret
    refine ⟨rfl, ?_⟩
    have h3 := hb22.trans (hb3.mono hb22.size)
    have h4 := (below_drewN h3 nq).trans (hb4.mono (by simpa using h3.size))
    exact h4.trans (hb5.mono h4.size)
end Go.Proofs.Ytiooadmahnnogaa
