import Derived.Test.YtiooadmahnnogaaAwake01
import Derived.Test.YtiooadmahnnogaaCur3
namespace Go.Proofs.Ytiooadmahnnogaa
open Go.RowKit
set_option linter.unusedVariables false

theorem isW_parts {k : Int} (h : isW k = true) : ∃ kn : Nat, k = kn ∧ kn ≤ 8 ∧ 1 ≤ kn ∧ sizeI k = kn := by
  have := isW_cases h
  refine ⟨k.toNat, by omega, by omega, by omega, ?_⟩
  simp [sizeI, h]
  omega
theorem takeF_ok (l : List UInt8) (k n : Nat) (h : n ≤ l.length - k) : takeF l k 0 (n : Int) = ((l.drop k).take n, k + n, 0) := by
  unfold takeF
  rcases Nat.eq_zero_or_pos n with rfl | h0
  · simp
  · rw [if_neg (by omega), if_neg (by omega), Int.toNat_natCast]
theorem takeF_short (l : List UInt8) (k n : Nat) (h : l.length - k < n) : takeF l k 0 (n : Int) = ([], k, 1) := by
  unfold takeF
  rw [if_neg (by omega), if_pos (by omega)]
theorem text_short (l : List UInt8) (k : Int) (kn : Nat) (most : Int) (hs : sizeI k = kn) (h : l.length < kn) : textF l 0 0 k most = ([], 0, 1) := by
  unfold textF
  rw [hs, takeF_short l 0 kn (by omega)]
  simp
theorem text_form (l : List UInt8) (k : Int) (kn : Nat) (most : Int) (hs : sizeI k = kn) (h : kn ≤ l.length) (hm : most < 0 ∨ most < (leV (l.take kn) : Int)) : textF l 0 0 k most = ([], kn, 2) := by
  unfold textF
  rw [hs, takeF_ok l 0 kn (by omega)]
  simp [hm]
theorem text_take (l : List UInt8) (k : Int) (kn : Nat) (most : Int) (hs : sizeI k = kn) (h : kn ≤ l.length) (hm : ¬ (most < 0 ∨ most < (leV (l.take kn) : Int))) : textF l 0 0 k most = takeF l kn 0 (leV (l.take kn) : Int) := by
  unfold textF
  rw [hs, takeF_ok l 0 kn (by omega)]
  simp [hm]

set_option maxHeartbeats 2000000 in
theorem octetTexts_go (A : Option Addr) (m c : Nat) (l : List UInt8) (k most : Int) (w : World) (hm : Hid (l.length = m)) (hmc : m ≤ c) (hcm : c ≤ 9223372036854775807) (h : Bs w w.heap.size A l)
    (hm1 : -9223372036854775808 ≤ most) (hm2 : most ≤ 9223372036854775807) :
    Calls Try.prog 5 #[.slice A m c, .int .i64 k, .int .i64 most] w fun e w' => e = .returned (.bool true) ∧ Below w.heap.size w w' := by
  by_cases hbig : 500 < m
  · have hbig' : (500 : Int) < (m : Int) := by omega
    go_enter Try.func5, Try.ntmps5
    go_wp2_with fail
    refine (awake_any _).mono ?_
    rintro e w1 ⟨rfl, hb⟩
    go_wp2_with fail
    go_ret
    exact ⟨rfl, hb⟩
  have hm' : ¬ (500 : Int) < (m : Int) := by omega
  rcases hw : isW k with _ | _
  · have HW := Lib.hid hw
    clear hw hbig
    go_enter Try.func5, Try.ntmps5
    go_wp2_with fail
    refine (width_any _ _).mono ?_
    rintro e w' ⟨rfl, rfl⟩
    rw [HW.out]
    go_wp2_with fail
    refine (awake_any _).mono ?_
    rintro e w1 ⟨rfl, hb⟩
    go_wp2_with fail
    go_ret
    exact ⟨rfl, hb⟩
  obtain ⟨kn, rfl, hk8, hk1, hs⟩ := isW_parts hw
  have HW := Lib.hid hw
  clear hw
  by_cases hshort : m < kn
  · have HT : Hid (textF l 0 0 kn most = ([], 0, 1)) := text_short l kn kn most hs (by rw [hm.out]; exact hshort)
    clear hs hbig
    go_enter Try.func5, Try.ntmps5
    go_wp2_with fail
    refine (width_any _ _).mono ?_
    rintro e w' ⟨rfl, rfl⟩
    rw [HW.out]
    go_wp2_with fail
    refine (newCursor_any A m c l _ _ hm h (Nat.le_refl _) (by omega)).mono ?_
    rintro e w1 ⟨g, rfl, hg, hcur, hb⟩
    go_wp2_with fail
    refine (text_any kn most hcur hm1 hm2).mono ?_
    rw [HT.out]
    rintro e w2 ⟨rfl, hcur2, hg2, hs2⟩
    have hb2 := hb.grown hg2 hb.size (fun q hq => by simp at hq; omega)
    go_wp2_with fail
    refine (err_any hcur2).mono ?_
    rintro e w' ⟨rfl, rfl⟩
    go_wp2_with fail
    refine (awake_any _).mono ?_
    rintro e w3 ⟨rfl, hb3⟩
    go_wp2_with fail
    go_ret
    exact ⟨rfl, hb2.trans (hb3.mono hb2.size)⟩
  have hlk : kn ≤ l.length := by rw [hm.out]; omega
  have hle : leV (l.take kn) ≤ 18446744073709551615 := by
    have h2 := leV_lt (l.take kn)
    have h3 : 256 ^ (l.take kn).length ≤ 256 ^ 8 := Nat.pow_le_pow_right (by omega) (by simp; omega)
    have h4 : 256 ^ 8 = 18446744073709551616 := rfl
    omega
  obtain ⟨n, hn⟩ : ∃ n, leV (l.take kn) = n := ⟨_, rfl⟩
  have HN := Lib.hid hn
  have htk := h.take kn
  have HK : Hid ((l.take kn).length = kn) := by show _ = _; simp; omega
  by_cases hform : most < 0 ∨ most < (n : Int)
  · have HT : Hid (textF l 0 0 kn most = ([], kn, 2)) := text_form l kn kn most hs hlk (by rw [hn]; exact hform)
    rw [hn] at hle
    clear hs hlk hn hbig
    have hbr : most < 0 ∨ (¬ most < 0 ∧ most < (n : Int)) := by omega
    clear hform
    rcases hbr with hneg | ⟨hneg, hbg⟩
    all_goals
      go_enter Try.func5, Try.ntmps5
      go_wp2_with fail
      refine (width_any _ _).mono ?_
      rintro e w' ⟨rfl, rfl⟩
      rw [HW.out]
      go_wp2_with fail
      refine (newCursor_any A m c l _ _ hm h (Nat.le_refl _) (by omega)).mono ?_
      rintro e w1 ⟨g, rfl, hg, hcur, hb⟩
      go_wp2_with fail
      refine (text_any kn most hcur hm1 hm2).mono ?_
      rw [HT.out]
      rintro e w2 ⟨rfl, hcur2, hg2, hs2⟩
      have hb2 := hb.grown hg2 hb.size (fun q hq => by simp at hq; omega)
      have htk2 := htk.below hb2 (Nat.le_refl _)
      go_wp2_with fail
      refine (number_any A kn c _ _ _ HK.out htk2 hk8).mono ?_
      rw [HN.out]
      rintro e w' ⟨rfl, rfl⟩
      go_wp2_with fail
      refine (err_any hcur2).mono ?_
      rintro e w' ⟨rfl, rfl⟩
      go_wp2_with fail
      refine (awake_any _).mono ?_
      rintro e w3 ⟨rfl, hb3⟩
      go_wp2_with fail
      go_ret
      exact ⟨rfl, hb2.trans (hb3.mono hb2.size)⟩
  have HT0 : Hid (textF l 0 0 kn most = takeF l kn 0 (n : Int)) := by
    have := text_take l kn kn most hs hlk (by rw [hn]; exact hform)
    rw [hn] at this
    exact this
  rw [hn] at hle
  have hneg : ¬ most < 0 := by omega
  have hbg : ¬ most < (n : Int) := by omega
  clear hform hn
  by_cases hfew : m - kn < n
  · have HT : Hid (textF l 0 0 kn most = ([], kn, 1)) := HT0.out.trans (takeF_short l kn n (by rw [hm.out]; exact hfew))
    clear hs hlk HT0
    go_enter Try.func5, Try.ntmps5
    go_wp2_with fail
    refine (width_any _ _).mono ?_
    rintro e w' ⟨rfl, rfl⟩
    rw [HW.out]
    go_wp2_with fail
    refine (newCursor_any A m c l _ _ hm h (Nat.le_refl _) (by omega)).mono ?_
    rintro e w1 ⟨g, rfl, hg, hcur, hb⟩
    go_wp2_with fail
    refine (text_any kn most hcur hm1 hm2).mono ?_
    rw [HT.out]
    rintro e w2 ⟨rfl, hcur2, hg2, hs2⟩
    have hb2 := hb.grown hg2 hb.size (fun q hq => by simp at hq; omega)
    have htk2 := htk.below hb2 (Nat.le_refl _)
    go_wp2_with fail
    refine (number_any A kn c _ _ _ HK.out htk2 hk8).mono ?_
    rw [HN.out]
    rintro e w' ⟨rfl, rfl⟩
    go_wp2_with fail
    refine (err_any hcur2).mono ?_
    rintro e w' ⟨rfl, rfl⟩
    go_wp2_with fail
    refine (awake_any _).mono ?_
    rintro e w3 ⟨rfl, hb3⟩
    go_wp2_with fail
    go_ret
    exact ⟨rfl, hb2.trans (hb3.mono hb2.size)⟩
  · have HT : Hid (textF l 0 0 kn most = ((l.drop kn).take n, kn + n, 0)) := HT0.out.trans (takeF_ok l kn n (by rw [hm.out]; omega))
    have HL : Hid (((l.drop kn).take n).length = n) := by show _ = _; have := hm.out; simp; omega
    have HLe : Hid (l.length - (kn + n) = m - kn - n) := by show _ = _; have := hm.out; omega
    obtain ⟨b, o, rfl, -, -⟩ := h.at_ (by omega)
    have hdt := (h.drop kn rfl).take n
    clear hs hlk HT0
    have hnn : n ≤ m - kn := by omega
    clear hfew
    by_cases hck : kn < c
    · go_enter Try.func5, Try.ntmps5
      go_wp2_with fail
      refine (width_any _ _).mono ?_
      rintro e w' ⟨rfl, rfl⟩
      rw [HW.out]
      go_wp2_with fail
      refine (newCursor_any _ m c l _ _ hm h (Nat.le_refl _) (by omega)).mono ?_
      rintro e w1 ⟨g, rfl, hg, hcur, hb⟩
      go_wp2_with fail
      refine (text_any kn most hcur hm1 hm2).mono ?_
      rw [HT.out]
      rintro e w2 ⟨rfl, hcur2, hg2, hs2⟩
      have hb2 := hb.grown hg2 hb.size (fun q hq => by simp at hq; omega)
      have htk2 := htk.below hb2 (Nat.le_refl _)
      have hdt2 := hdt.below hb2 (Nat.le_refl _)
      go_wp2_with fail
      refine (number_any _ kn c _ _ _ HK.out htk2 hk8).mono ?_
      rw [HN.out]
      rintro e w' ⟨rfl, rfl⟩
      have hcv := run_str (P := Try.prog) (n := n) (c := c - kn) 22 9 5 Try.underlying22 Try.underlying5 Try.underlying9 HL.out hdt2
      go_wp2_with fail
      refine (err_any hcur2).mono ?_
      rintro e w' ⟨rfl, rfl⟩
      go_wp2_with fail
      refine (left_any hcur2).mono ?_
      rw [HLe.out]
      rintro e w' ⟨rfl, nq, rfl⟩
      go_wp2_with fail
      refine (awake_any _).mono ?_
      rintro e w3 ⟨rfl, hb3⟩
      go_wp2_with fail
      go_ret
      have hb2q := below_drewN hb2 nq
      exact ⟨rfl, hb2q.trans (hb3.mono hb2q.size)⟩
    · obtain rfl : c = kn := by omega
      have hn0 : n = 0 := by omega
      subst hn0
      go_enter Try.func5, Try.ntmps5
      go_wp2_with fail
      refine (width_any _ _).mono ?_
      rintro e w' ⟨rfl, rfl⟩
      rw [HW.out]
      go_wp2_with fail
      refine (newCursor_any _ m c l _ _ hm h (Nat.le_refl _) (by omega)).mono ?_
      rintro e w1 ⟨g, rfl, hg, hcur, hb⟩
      go_wp2_with fail
      refine (text_any c most hcur hm1 hm2).mono ?_
      rw [HT.out]
      rintro e w2 ⟨rfl, hcur2, hg2, hs2⟩
      have hb2 := hb.grown hg2 hb.size (fun q hq => by simp at hq; omega)
      have htk2 := htk.below hb2 (Nat.le_refl _)
      have hdt2 := hdt.below hb2 (Nat.le_refl _)
      go_wp2_with fail
      refine (number_any _ c c _ _ _ HK.out htk2 hk8).mono ?_
      rw [HN.out]
      rintro e w' ⟨rfl, rfl⟩
      have hcv : (convert 22 9 (.slice (some ⟨b, o, none⟩) 0 0)).run Try.prog w2 = .ok (.string ⟨#[]⟩) w2 := run_str (P := Try.prog) (l := []) 22 9 5 Try.underlying22 Try.underlying5 Try.underlying9 rfl (Bs.nil w2 0 _)
      go_wp2_with fail
      refine (err_any hcur2).mono ?_
      rintro e w' ⟨rfl, rfl⟩
      go_wp2_with fail
      refine (left_any hcur2).mono ?_
      rw [HLe.out]
      rintro e w' ⟨rfl, nq, rfl⟩
      go_wp2_with fail
      refine (awake_any _).mono ?_
      rintro e w3 ⟨rfl, hb3⟩
      go_wp2_with fail
      go_ret
      have hb2q := below_drewN hb2 nq
      exact ⟨rfl, hb2q.trans (hb3.mono hb2q.size)⟩
end Go.Proofs.Ytiooadmahnnogaa
