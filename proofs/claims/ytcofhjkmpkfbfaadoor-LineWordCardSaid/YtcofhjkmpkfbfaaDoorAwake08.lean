/-
  Package taximeterlaw08: awake.
-/
import Derived.Test.YtcofhjkmpkfbfaaDoorLine3
namespace Go.Proofs.YtcofhjkmpkfbfaaDoor
open Go.RowKit
set_option linter.unusedVariables false

theorem awake08_any (w : World) (hm : MaxL w) (hO : Over w) : Calls Tryd.prog 4 #[] w fun e w' => e = .returned (.bool true) ∧ Below w.heap.size w w' := by
  have h1 := lread_any ⟨#[99, 97, 112, 32, 97, 99, 109, 101, 32, 49, 48, 48]⟩ ⟨#[99, 97, 112]⟩ ⟨#[116, 110]⟩ w (by decide) (by decide) hm hO
  rw [show readL (bl ⟨#[99, 97, 112, 32, 97, 99, 109, 101, 32, 49, 48, 48]⟩) (bl ⟨#[99, 97, 112]⟩) (bl ⟨#[116, 110]⟩) = ([⟨[97, 99, 109, 101], 0, []⟩, ⟨[], 100, []⟩], 0) from by kernel_rfl] at h1
  have h2 := fun W h => lword_any ⟨#[97, 32, 98]⟩ W (by decide) h
  rw [show sv (firstL (wordsL (bl ⟨#[97, 32, 98]⟩))) = .string ⟨#[97]⟩ from by kernel_rfl] at h2
  have H1 := Lib.hid h1
  have H2 := Lib.hid h2
  clear h1 h2
  go_enter Tryd.func4, Tryd.ntmps4
  go_wp2_with fail
  refine H1.out.mono ?_
  rintro e' w1 ⟨A, n, c, rfl, hn, hnc, hcm, hF, hb1⟩
  obtain rfl : 2 = n := hn.out
  obtain ⟨G, rfl, hG, hF⟩ : ∃ G, A = some ⟨G, 0, none⟩ ∧ w.heap.size ≤ G ∧ Flds w1 G 2 [⟨[97, 99, 109, 101], 0, []⟩, ⟨[], 100, []⟩] := by
    rcases hF with h | h
    · cases h
    · exact h
  obtain ⟨x, y, z, h3, T, A1, n1, c1, rfl, rfl, rfl, hT, _⟩ := hF.at_ 0 (by decide)
  obtain ⟨x, y, z, h4, T2, A2, n2, c2, rfl, rfl, rfl, _⟩ := hF.at_ 1 (by decide)
  have hc0 : w1.cell? ⟨G, 0, none⟩ = some (.string T) := h3 0 _ rfl
  have hc4 : w1.cell? ⟨G, 4, none⟩ = some (.int .u64 100) := h4 1 _ rfl
  have hTe : (T.toList == [97, 99, 109, 101]) = true := by
    rw [bl_toList, hT]
    rfl
  have hm1 := hm.stay hb1
  clear h3 h4 hF hT
  go_wp2_with fail
  refine (H2.out _ hm1).mono ?_
  rintro e' w2 ⟨rfl, hb2⟩
  go_wp2_with fail
  go_ret
  exact ⟨rfl, hb1.trans (hb2.mono hb1.size)⟩
end Go.Proofs.YtcofhjkmpkfbfaaDoor
