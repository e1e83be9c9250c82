/-
  Package taximeterlaw07: awake.
-/
import Derived.Test.YtgmocagdhdbpnaaDoorName2
namespace Go.Proofs.YtgmocagdhdbpnaaDoor
open Go.RowKit
set_option linter.unusedVariables false

theorem awake07_any (w : World) : Calls Tryd.prog 5 #[] w fun e w' => e = .returned (.bool true) ∧ Below w.heap.size w w' := by
  have h1 := nbytes_any ⟨#[48, 48, 102, 102]⟩ w (by decide)
  rw [show bytesV (bl ⟨#[48, 48, 102, 102]⟩) = [0, 255] from by decide +kernel, show bytesE (bl ⟨#[48, 48, 102, 102]⟩) = 0 from by decide +kernel] at h1
  have h2 := fun W => tenant_any ⟨#[97, 45, 49]⟩ W (by decide)
  rw [show tenantL (bl ⟨#[97, 45, 49]⟩) = true from by decide +kernel] at h2
  have h3 := fun W => tenant_any ⟨#[49, 97]⟩ W (by decide)
  rw [show tenantL (bl ⟨#[49, 97]⟩) = false from by decide +kernel] at h3
  have H1 := Lib.hid h1
  have H2 := Lib.hid h2
  have H3 := Lib.hid h3
  clear h1 h2 h3
  go_enter Tryd.func5, Tryd.ntmps5
  go_wp2_with fail
  refine H1.out.mono ?_
  rintro e' w1 ⟨A, n, c, rfl, hn, hnc, hcm, hv, hb1⟩
  obtain rfl : 2 = n := hn.out
  go_wp2_with fail
  refine (H2.out _).mono ?_
  rintro e' w2 ⟨rfl, hb2⟩
  go_wp2_with fail
  refine (H3.out _).mono ?_
  rintro e' w3 ⟨rfl, hb3⟩
  have hb13 := hb2.trans (hb3.mono hb2.size)
  obtain ⟨b, o, rfl, hbb, hcell⟩ := (hv.below hb13 (Nat.le_refl _)).at_ (by decide)
  have hc1 := hcell 1 (by decide)
  clear hcell
  have hc1' : w3.cell? ⟨b, o + 1, none⟩ = some (.int .u8 255) := hc1
  clear hc1
  go_wp2_with fail
  go_ret
  exact ⟨rfl, hb1.trans (hb13.mono hb1.size)⟩
end Go.Proofs.YtgmocagdhdbpnaaDoor
