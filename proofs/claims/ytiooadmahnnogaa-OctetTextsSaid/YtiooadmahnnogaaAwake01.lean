import Derived.Test.YtiooadmahnnogaaPut
namespace Go.Proofs.Ytiooadmahnnogaa
open Go.RowKit
set_option linter.unusedVariables false

set_option maxHeartbeats 800000 in
theorem awake_any (w : World) : Calls Try.prog 7 #[] w fun e w' => e = .returned (.bool true) ∧ Below w.heap.size w w' := by
  go_enter Try.func7, Try.ntmps7
  go_wp2_with fail
  refine (put_any none 0 0 [] 2 258 w rfl (Bs.nil _ _ _) (by omega) (by omega)).mono ?_
  intro e w1 hr
  obtain ⟨A, n, c, rfl, hn, -, -, -, hbs, hb⟩ := hr.list (show [] ++ putB 2 258 = [2, 1] by decide)
  obtain rfl : 2 = n := hn.out
  obtain ⟨b, o, rfl, -, hc⟩ := hbs.at_ (by decide)
  have hc0 : w1.cell? ⟨b, o, none⟩ = some (.int .u8 2) := hc 0 (by decide)
  have hc1 : w1.cell? ⟨b, o + 1, none⟩ = some (.int .u8 1) := hc 1 (by decide)
  clear hc hbs hn
  go_wp2_with fail
  refine (ofits_any 1 255 _ (by omega)).mono ?_
  rintro e w' ⟨rfl, rfl⟩
  rw [show fitB 1 255 = true by decide]
  go_wp2_with fail
  refine (ofits_any 1 256 _ (by omega)).mono ?_
  rintro e w' ⟨rfl, rfl⟩
  rw [show fitB 1 256 = false by decide]
  go_wp2_with fail
  go_ret
  exact ⟨rfl, hb⟩
end Go.Proofs.Ytiooadmahnnogaa
