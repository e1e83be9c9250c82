/-
  The walk of PriceDue.
-/
import Derived.Test.YtgefjlamlgmijaaDoorPrice4
namespace Go.Proofs.YtgefjlamlgmijaaDoor
open Go.RowKit
set_option linter.unusedVariables false

theorem Dbj.below {w w' : World} (h : Dbj w) (hb : Below w.heap.size w w') : Dbj w' := fun i hi => by
  have hlt := World.block_lt_of_cell? w _ (h i hi)
  rw [hb.cell hlt]
  exact h i hi

theorem priceDue_go (n b : Nat) (w : World) (hT : Dbj w) (hn : n < 18446744073709551616) (hb : b < 18446744073709551616) : Calls Tryd.prog 3 #[.int .u64 (n : Int), .int .u64 (b : Int)] w fun e w' => e = .returned (.bool true) ∧ Below w.heap.size w w' := by
  have HD := Lib.hid (due_any n b w hn hb hT)
  obtain ⟨d, hd⟩ : ∃ d, dueOf n b = d := ⟨_, rfl⟩
  have HR := Lib.hid (fun W : World => rdue_any n b W hn hb)
  have H0 : Hid (partsI b = false → d = 0) := Lib.hid fun h => by rw [← hd]; unfold dueOf; rw [h]; rfl
  rw [hd] at HD HR
  clear hd
  cases hI : partsI b with
  | false =>
    have HE : Hid (errOf b = 13) := by show _ = _; unfold errOf; rw [hI]; rfl
    have HK : Hid (chkOf b = 0) := by show _ = _; unfold chkOf; rw [hI]; rfl
    rw [hI] at HR
    obtain rfl : d = 0 := H0.out hI
    clear hI H0
    go_enter Tryd.func3, Tryd.ntmps3
    go_wp2_with fail
    refine (HD.out).mono ?_
    rintro e' w1 ⟨rfl, q, hq⟩
    rw [HE.out]
    have hT1 : Dbj w1 := by rw [hq]; exact hT
    have hB1 : Below w.heap.size w w1 := by rw [hq]; exact below_drewN (Below.refl _ _) q
    clear hq hT
    go_wp2_with fail
    refine (check_any b w1 hb hT1).mono ?_
    rintro e' w2 ⟨rfl, rfl⟩
    rw [HE.out, HK.out]
    go_wp2_with fail
    refine (HR.out w1).mono ?_
    rintro e' w2 ⟨rfl, hB2⟩
    have hB := hB1.trans (hB2.mono hB1.size)
    have hT2 : Dbj w2 := hT1.below hB2
    clear hB1 hB2 hT1
    go_wp2_with fail
    refine (awake06_any w2 hT2).mono ?_
    rintro e' w3 ⟨rfl, q, rfl⟩
    go_wp2_with fail
    go_ret
    exact ⟨rfl, below_drewN hB q⟩
  | true =>
    have HE : Hid (errOf b = 0) := by show _ = _; unfold errOf; rw [hI]; rfl
    have HK : Hid (chkOf b = canN b) := by show _ = _; unfold chkOf; rw [hI]; rfl
    rw [hI] at HR
    have HC := Lib.hid (fun W : World => rcanon_any b W hb)
    obtain ⟨k, hk⟩ : ∃ k, canN b = k := ⟨_, rfl⟩
    rw [hk] at HK HC
    clear hk hI H0
    go_enter Tryd.func3, Tryd.ntmps3
    go_wp2_with fail
    refine (HD.out).mono ?_
    rintro e' w1 ⟨rfl, q, hq⟩
    rw [HE.out]
    have hT1 : Dbj w1 := by rw [hq]; exact hT
    have hB1 : Below w.heap.size w w1 := by rw [hq]; exact below_drewN (Below.refl _ _) q
    clear hq hT
    go_wp2_with fail
    refine (check_any b w1 hb hT1).mono ?_
    rintro e' w2 ⟨rfl, rfl⟩
    rw [HE.out, HK.out]
    go_wp2_with fail
    refine (HR.out w1).mono ?_
    rintro e' w2 ⟨rfl, hB2⟩
    have hB := hB1.trans (hB2.mono hB1.size)
    have hT2 : Dbj w2 := hT1.below hB2
    clear hB1 hB2 hT1
    go_wp2_with fail
    refine (HC.out w2).mono ?_
    rintro e' w3 ⟨rfl, rfl⟩
    go_wp2_with fail
    refine (awake06_any w2 hT2).mono ?_
    rintro e' w3 ⟨rfl, q, rfl⟩
    go_wp2_with fail
    go_ret
    exact ⟨rfl, below_drewN hB q⟩
end Go.Proofs.YtgefjlamlgmijaaDoor
