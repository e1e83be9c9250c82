import Derived.Test.YtiooadmahnnogaaAwake01
import Derived.Test.YtiooadmahnnogaaCur3
namespace Go.Proofs.Ytiooadmahnnogaa
open Go.RowKit
set_option linter.unusedVariables false

theorem fit_parts {k : Int} {n : Nat} (h : fitB k n = true) : ∃ kn : Nat, k = kn ∧ isW k = true ∧ kn ≤ 8 ∧ 1 ≤ kn ∧ n < 256 ^ kn ∧ putB k n = leB kn n ∧ sizeI k = kn := by
  unfold fitB at h
  simp only [Bool.and_eq_true, decide_eq_true_eq] at h
  obtain ⟨h1, h2⟩ := h
  have := isW_cases h1
  refine ⟨k.toNat, by omega, h1, by omega, by omega, h2, by simp [putB, h1], ?_⟩
  simp [sizeI, h1]
  omega
theorem take_put (kn n : Nat) (l : List UInt8) (h1 : 1 ≤ kn) (h2 : n < 256 ^ kn) : takeF (leB kn n ++ l) 0 0 (kn : Int) = (leB kn n, kn, 0) ∧ leV (leB kn n) = n := by
  refine ⟨?_, by rw [leV_leB, Nat.mod_eq_of_lt h2]⟩
  unfold takeF
  rw [if_neg (by omega), if_neg (by simp; omega)]
  simp

set_option maxHeartbeats 2000000 in
theorem octetBack_go (k : Int) (n : Nat) (A : Option Addr) (m c : Nat) (l : List UInt8) (w : World) (hm : Hid (l.length = m)) (h : Bs w w.heap.size A l) (hn : n ≤ 18446744073709551615) :
    Calls Try.prog 6 #[.int .i64 k, .int .u64 n, .slice A m c] w fun e w' => e = .returned (.bool true) ∧ Below w.heap.size w w' := by
  by_cases hbig : 500 < m
  · have hbig' : (500 : Int) < (m : Int) := by omega
    go_enter Try.func6, Try.ntmps6
    go_wp2_with fail
    refine (awake_any _).mono ?_
    rintro e w1 ⟨rfl, hb⟩
    go_wp2_with fail
    go_ret
    exact ⟨rfl, hb⟩
  have hm' : m ≤ 500 := by omega
  clear hbig
  rcases hf : fitB k n with _ | _
  · have HF := Lib.hid hf
    clear hf
    go_enter Try.func6, Try.ntmps6
    go_wp2_with fail
    refine (cnumber_nil _ _).mono ?_
    rintro e w' ⟨rfl, n1, rfl⟩
    go_wp2_with fail
    refine (cbytes_nil _ _).mono ?_
    rintro e w1 ⟨A1, q1, c1, rfl, hq1, -, -, -, -, hb1⟩
    obtain rfl : 0 = q1 := hq1.out
    clear hq1
    go_wp2_with fail
    refine (text_nil _ _ _).mono ?_
    rintro e w' ⟨rfl, n2, rfl⟩
    go_wp2_with fail
    refine (left_nil _).mono ?_
    rintro e w' ⟨rfl, n3, rfl⟩
    go_wp2_with fail
    refine (err_nil _).mono ?_
    rintro e w' ⟨rfl, rfl⟩
    go_wp2_with fail
    refine (done_nil _).mono ?_
    rintro e w' ⟨rfl, rfl⟩
    go_wp2_with fail
    refine (rfits_any k n _ hn).mono ?_
    rintro e w2 ⟨rfl, hb2⟩
    rw [HF.out]
    go_wp2_with fail
    refine (awake_any _).mono ?_
    rintro e w3 ⟨rfl, hb3⟩
    go_wp2_with fail
    go_ret
    have hb1' : Below w.heap.size w (w1.drewN (n2 + n3)) := below_drewN ((below_drewN (Below.refl _ w) n1).trans hb1) _
    exact ⟨rfl, (hb1'.trans (hb2.mono hb1'.size)).trans (hb3.mono (Nat.le_trans hb1'.size hb2.size))⟩
  · obtain ⟨kn, hk, hw, hk8, hk1, hlt, hp, hs⟩ := fit_parts hf
    obtain ⟨ht1, ht2⟩ := take_put kn n l hk1 hlt
    have HF := Lib.hid hf
    have HP := Lib.hid hp
    have HS := Lib.hid hs
    have HT1 := Lib.hid ht1
    have HT2 := Lib.hid ht2
    have hlb := bv_one l
    clear hf hw hlt hp hs ht1 ht2 hk
    go_enter Try.func6, Try.ntmps6
    go_wp2_with fail
    refine (cnumber_nil _ _).mono ?_
    rintro e w' ⟨rfl, n1, rfl⟩
    go_wp2_with fail
    refine (cbytes_nil _ _).mono ?_
    rintro e w1 ⟨A1, q1, c1, rfl, hq1, -, -, -, -, hb1⟩
    obtain rfl : 0 = q1 := hq1.out
    clear hq1
    go_wp2_with fail
    refine (text_nil _ _ _).mono ?_
    rintro e w' ⟨rfl, n2, rfl⟩
    go_wp2_with fail
    refine (left_nil _).mono ?_
    rintro e w' ⟨rfl, n3, rfl⟩
    go_wp2_with fail
    refine (err_nil _).mono ?_
    rintro e w' ⟨rfl, rfl⟩
    go_wp2_with fail
    refine (done_nil _).mono ?_
    rintro e w' ⟨rfl, rfl⟩
    go_wp2_with fail
    refine (rfits_any k n _ hn).mono ?_
    rintro e w2 ⟨rfl, hb2⟩
    rw [HF.out]
    have hb12 : Below w.heap.size w w2 := (below_drewN ((below_drewN (Below.refl _ w) n1).trans hb1) _).trans (hb2.mono hb1.size)
    clear hb1 hb2
    go_wp2_with fail
    refine (put_any none 0 0 [] k n _ rfl (Bs.nil _ _ _) (by omega) hn).mono ?_
    intro e w3 hr
    obtain ⟨A3, n3, c3, rfl, hn3, hown3, -, -, -, hb3⟩ := hr.list (show [] ++ putB k n = leB kn n by rw [HP.out]; rfl)
    have hn3' : Hid (n3 = kn) := by have := hn3.out; simp at this; exact this.symm
    have hn3b : n3 ≤ 8 := by rw [hn3'.out]; exact hk8
    have hb13 := hb12.trans (hb3.mono hb12.size)
    have h3 := h.below hb13 (Nat.le_refl _)
    have hs3 := hb3.size
    have HL3 : Hid ((List.map bv (leB kn n)).length ≤ 8) := by show _ ≤ _; simp; exact hk8
    go_wp2_with (at_builtin; refine wp_app w3 rfl (.tmp 50) (.tmp 51) _ rfl w2.heap.size 5 u8E (.slice A3 n3 c3) _ rfl hown3 _ _ _ _ _ rfl ((List.length_map _).trans hm.out) h3 hlb ?d1 ?d2 ?d3 ?_)
    case d1 => have := HL3.out; unfold maxLen; omega
    case d2 => have := HL3.out; omega
    case d3 => exact hs3
    intro v4 w4 hown4 hg4 _
    have hb4 := hb3.trans (below_app hown3 hg4 hs3)
    have hb14 := hb12.trans (hb4.mono hb12.size)
    rw [← List.map_append] at hown4
    obtain ⟨A4, n4, c4, rfl, hn4, -, -, hbs4⟩ := hown4.bform
    have HN4 : Hid (n4 ≤ 508) := by have := hn4.out; have := hm.out; show _ ≤ _; simp at *; omega
    clear hown3 hown4 hg4 h3 hr hn3
    go_wp2_with fail
    refine (newCursor_any A4 n4 c4 _ _ _ hn4 hbs4 (Nat.le_refl _) (Nat.le_trans HN4.out (by omega))).mono ?_
    rintro e w5 ⟨g, rfl, hg5, hcur, hb5⟩
    have hb15 := hb14.trans (hb5.mono hb14.size)
    go_wp2_with fail
    refine (cnumber_any k hcur).mono ?_
    rw [HS.out, HT1.out, HT2.out]
    rintro e w6 ⟨rfl, hcur6, hg6, hs6⟩
    have hb16 := hb15.grown hg6 hb15.size (fun q hq => by simp at hq; have := hb14.size; omega)
    go_wp2_with fail
    refine (left_any hcur6).mono ?_
    rintro e w' ⟨rfl, nq, rfl⟩
    rw [show (leB kn n ++ l).length - kn = m by rw [List.length_append, leB_length, ← hm.out]; omega]
    go_wp2_with fail
    refine (err_any (hcur6.drewN nq)).mono ?_
    rintro e w' ⟨rfl, rfl⟩
    go_wp2_with fail
    refine (awake_any _).mono ?_
    rintro e w7 ⟨rfl, hb7⟩
    go_wp2_with fail
    go_ret
    exact ⟨rfl, (below_drewN hb16 nq).trans (hb7.mono hb16.size)⟩
end Go.Proofs.Ytiooadmahnnogaa
