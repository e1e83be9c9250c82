/-
  The walk of NameWords.
-/
import Derived.Test.YtgmocagdhdbpnaaDoorAwake07
import Derived.Test.YtgmocagdhdbpnaaDoorName4
namespace Go.Proofs.YtgmocagdhdbpnaaDoor
open Go.RowKit
set_option linter.unusedVariables false

set_option maxHeartbeats 3200000 in
theorem nameWords_go (s : ByteArray) (w : World) (hm : MaxL w) :
    Calls Tryd.prog 4 #[.string s] w fun e w' => e = .returned (.bool true) ∧ Below w.heap.size w w' := by
  by_cases hbig : 300 < s.size
  · have hb' : decide ((300 : Int) < (s.size : Int)) = true := by rw [decide_eq_true_iff]; omega
    clear hbig
    go_enter Tryd.func4, Tryd.ntmps4
    go_wp2_with fail
    refine (awake07_any _).mono ?_
    rintro e w1 ⟨rfl, hb⟩
    go_wp2_with fail
    go_ret
    exact ⟨rfl, hb⟩
  have g2 : decide ((300 : Int) < (s.size : Int)) = false := by rw [decide_eq_false_iff_not]; omega
  have hs3 : s.size ≤ 300 := by omega
  clear hbig
  have hcall := nwords_any s w (by omega) hm
  have href := fun W => rwords_any s W (by omega)
  cases hr : wordsL (bl s) with
  | none =>
    rw [hr] at hcall href
    have HR := Lib.hid href
    clear href hr
    go_enter Tryd.func4, Tryd.ntmps4
    go_wp2_with fail
    refine hcall.mono ?_
    rintro e w1 ⟨A, n, c, rfl, hn, hnc, hcm, hv, hb1⟩
    obtain rfl : 0 = n := hn.out
    rw [show wordsE none = 2 from rfl]
    go_wp2_with fail
    refine (HR.out w1).mono ?_
    rintro e w2 ⟨A2, n2, c2, rfl, hn2, hnc2, hcm2, hv2, hb2⟩
    rw [show (none : Option (List (List UInt8))).isSome = false from rfl]
    have hb12 := hb1.trans (hb2.mono hb1.size)
    go_wp2_with fail
    refine (awake07_any _).mono ?_
    rintro e w3 ⟨rfl, hb3⟩
    go_wp2_with fail
    go_ret
    exact ⟨rfl, hb12.trans (hb3.mono hb12.size)⟩
  | some L =>
    have hL : L.length ≤ 65536 := by
      have h0 : bl s = [] ∨ bl s ≠ [] := Classical.em _
      rcases h0 with h0 | h0
      · rw [h0] at hr
        obtain rfl : [] = L := Option.some.inj hr
        exact Nat.zero_le _
      · rw [words_sp h0] at hr
        split at hr
        · obtain rfl := Option.some.inj hr
          have := sp_length (bl s)
          rw [bl_length] at this
          omega
        · cases hr
    rw [hr] at hcall href
    have HR := Lib.hid href
    clear href hr
    go_enter Tryd.func4, Tryd.ntmps4
    go_wp2_with fail
    refine hcall.mono ?_
    rintro e w1 ⟨A, n, c, rfl, hn, hnc, hcm, hv, hb1⟩
    rw [show wordsE (some L) = 0 from rfl]
    go_wp2_with fail
    refine (HR.out w1).mono ?_
    rintro e w2 ⟨A2, n2, c2, rfl, hn2, hnc2, hcm2, hv2, hb2⟩
    rw [show (some L).isSome = true from rfl]
    have hb12 := hb1.trans (hb2.mono hb1.size)
    have hn' : L.length = n := hn.out
    have hn2' : L.length = n2 := hn2.out
    have ht := (texts_any A A2 n n2 c c2 L L w2.heap.size w2 hn' hn2' ((hv.below hb2 (Nat.le_refl _)).more hb2.size) hv2 (by unfold maxLen; omega) (by unfold maxLen; omega))
    rw [decide_eq_true (rfl : L = L)] at ht
    have HT := Lib.hid ht
    clear hn' hn2' hv hv2 ht
    go_wp2_with fail
    refine HT.out.mono ?_
    rintro e w3 ⟨rfl, q, rfl⟩
    have hb4 := below_drewN hb12 q
    go_wp2_with fail
    refine (awake07_any _).mono ?_
    rintro e w4 ⟨rfl, hb5⟩
    go_wp2_with fail
    go_ret
    exact ⟨rfl, hb4.trans (hb5.mono hb4.size)⟩
end Go.Proofs.YtgmocagdhdbpnaaDoor
