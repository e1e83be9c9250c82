/-
  The walk of LineWord.
-/
import Derived.Test.YtcofhjkmpkfbfaaDoorAwake08
namespace Go.Proofs.YtcofhjkmpkfbfaaDoor
open Go.RowKit
set_option linter.unusedVariables false

set_option maxHeartbeats 3200000 in
theorem lineWord_go (s : ByteArray) (w : World) (hm : MaxL w) (hO : Over w) :
    Calls Tryd.prog 3 #[.string s] w fun e w' => e = .returned (.bool true) ∧ Below w.heap.size w w' := by
  by_cases hbig : 300 < s.size
  · have hb' : decide ((300 : Int) < (s.size : Int)) = true := by rw [decide_eq_true_iff]; omega
    clear hbig
    go_enter Tryd.func3, Tryd.ntmps3
    go_wp2_with fail
    refine (awake08_any _ hm hO).mono ?_
    rintro e w1 ⟨rfl, hb⟩
    go_wp2_with fail
    go_ret
    exact ⟨rfl, hb⟩
  have g2 : decide ((300 : Int) < (s.size : Int)) = false := by rw [decide_eq_false_iff_not]; omega
  have hs3 : s.size ≤ 65536 := by omega
  clear hbig
  have hcall := fun W h => lword_any s W hs3 h
  have href := rwords_any s w hs3
  obtain ⟨r, hr⟩ : ∃ r, wordsL (bl s) = r := ⟨_, rfl⟩
  rw [hr] at hcall href
  have HR := Lib.hid href
  have HC := Lib.hid hcall
  clear href hcall hr hs3
  go_enter Tryd.func3, Tryd.ntmps3
  go_wp2_with fail
  refine HR.out.mono ?_
  rintro e w1 ⟨A, n, c, rfl, hn, hnc, hcm, hv, hb1⟩
  have hm1 := hm.stay hb1
  have hO1 := hO.stay hb1
  have hnn := hn.out
  rcases Nat.eq_zero_or_pos n with h0 | h0
  · subst h0
    have hF : firstL r = [] := by
      unfold firstL
      rw [List.eq_nil_of_length_eq_zero hnn]
      rfl
    rw [hF] at HC
    rw [show sv [] = .string ⟨#[]⟩ from rfl] at HC
    clear hF hnn hn hv
    cases hr : r.isSome
    all_goals
      go_wp2_with fail
      refine (HC.out _ hm1).mono ?_
      rintro e w2 ⟨rfl, hb2⟩
      have hm2 := hm1.stay hb2
      have hO2 := hO1.stay hb2
      go_wp2_with fail
      refine (awake08_any _ hm2 hO2).mono ?_
      rintro e w3 ⟨rfl, hb3⟩
      go_wp2_with fail
      go_ret
      have hb12 := hb1.trans (hb2.mono hb1.size)
      exact ⟨rfl, hb12.trans (hb3.mono hb12.size)⟩
  · obtain ⟨b, o, rfl, hbb, hc⟩ := hv.at_ (by rw [List.length_map]; omega)
    have h1 := hc 0 (by rw [List.length_map]; omega)
    rw [firstL_at r (by rw [List.length_map]; omega)] at h1
    obtain ⟨X, hX⟩ : ∃ X, sv (firstL r) = .string X := ⟨_, rfl⟩
    rw [hX] at h1 HC
    have hc1 : w1.cell? ⟨b, o, none⟩ = some (.string X) := h1
    have hr : r.isSome = true := by
      cases r with
      | none => simp at hnn; omega
      | some L => rfl
    have g1 : (0 : Int) < (n : Int) := by omega
    have g3 : decide ((0 : Int) < (n : Int)) = true := by rw [decide_eq_true_iff]; exact g1
    rw [hr]
    clear hX hc h1 hnn hn hv hr h0
    go_wp2_with fail
    refine (HC.out _ hm1).mono ?_
    rintro e w2 ⟨rfl, hb2⟩
    have hm2 := hm1.stay hb2
    have hO2 := hO1.stay hb2
    go_wp2_with fail
    refine (awake08_any _ hm2 hO2).mono ?_
    rintro e w3 ⟨rfl, hb3⟩
    go_wp2_with fail
    go_ret
    have hb12 := hb1.trans (hb2.mono hb1.size)
    exact ⟨rfl, hb12.trans (hb3.mono hb12.size)⟩
end Go.Proofs.YtcofhjkmpkfbfaaDoor
