import Derived.Test.YtfbdncjbpcgfnaaDoorShaA
import Derived.KernelRfl
import Derived.Lib.SlBytesConst
namespace Go.Proofs.YtfbdncjbpcgfnaaDoor
open Go.RowKit
set_option linter.unusedVariables false

theorem sha_abc : shaN [97, 98, 99] = [0xba, 0x78, 0x16, 0xbf, 0x8f, 0x01, 0xcf, 0xea, 0x41, 0x41, 0x40, 0xde, 0x5d, 0xae, 0x22, 0x23, 0xb0, 0x03, 0x61, 0xa3, 0x96, 0x17, 0x7a, 0x9c, 0xb4, 0x10, 0xff, 0x61, 0xf2, 0x00, 0x15, 0xad] := by kernel_rfl
theorem pad3_len : (padB 3).length = 61 := by rw [padB_length]; rfl

set_option maxHeartbeats 800000 in
theorem awake03_any (w : World) (hK : Kons w) : Calls Tryd.prog 7 #[] w fun e w' => e = .returned (.bool true) ∧ Below w.heap.size w w' := by
  have hcv := Lib.run_convert_bytes_const w 22 5 #[.int .u8 97, .int .u8 98, .int .u8 99] 3 3 Tryd.underlying22 Tryd.underlying5
  have hb0 := Bs.new w #[.int .u8 97, .int .u8 98, .int .u8 99] 5 (3, 4) [97, 98, 99] rfl
  have HE := Lib.hid sha_abc
  have HLX : Hid (([97, 98, 99] : List UInt8).length = 3) := Lib.hid rfl
  have HP := Lib.hid pad3_len
  have HO1 := Lib.hid (bv_one (shaN [97, 98, 99]))
  have HO2 : Hid (((shaN [97, 98, 99]).map bv).length = 32) := by show _ = _; rw [List.length_map]; exact shaN_length _
  go_enter Tryd.func7, Tryd.ntmps7
  go_wp2_with fail
  obtain ⟨W0, hW⟩ : ∃ W0, W0 = w.alloc (.cells #[.int .u8 97, .int .u8 98, .int .u8 99] 5 (3, 4)) := ⟨_, rfl⟩
  have hbW : Below w.heap.size w W0 := by rw [hW]; exact (Below.refl _ w).alloc (Nat.le_refl _) _
  have hb1 : Bs W0 W0.heap.size (some ⟨w.heap.size, 0, none⟩) [97, 98, 99] := by rw [hW]; simpa using hb0
  rw [← hW]
  clear hW hb0 hcv
  have hK0 := hK.below hbW
  refine (sum_any _ 3 _ [97, 98, 99] _ HLX (by omega) (by omega) hb1 hK0 (by omega)).mono ?_
  rintro e w1 ⟨rfl, hb1⟩
  have hB : Bk ((w1.alloc (.cells #[.int .u8 0, .int .u8 0, .int .u8 0, .int .u8 0, .int .u8 0, .int .u8 0, .int .u8 0, .int .u8 0, .int .u8 0, .int .u8 0, .int .u8 0, .int .u8 0, .int .u8 0, .int .u8 0, .int .u8 0, .int .u8 0, .int .u8 0, .int .u8 0, .int .u8 0, .int .u8 0, .int .u8 0, .int .u8 0, .int .u8 0, .int .u8 0, .int .u8 0, .int .u8 0, .int .u8 0, .int .u8 0, .int .u8 0, .int .u8 0, .int .u8 0, .int .u8 0] 24)).setRow w1.heap.size ((shaN [97, 98, 99]).map bv).toArray) w1.heap.size 24 ([0xba, 0x78, 0x16, 0xbf, 0x8f, 0x01, 0xcf, 0xea, 0x41, 0x41, 0x40, 0xde, 0x5d, 0xae, 0x22, 0x23, 0xb0, 0x03, 0x61, 0xa3, 0x96, 0x17, 0x7a, 0x9c, 0xb4, 0x10, 0xff, 0x61, 0xf2, 0x00, 0x15, 0xad].map bv) := by
    have := (Bk.new w1 #[.int .u8 0, .int .u8 0, .int .u8 0, .int .u8 0, .int .u8 0, .int .u8 0, .int .u8 0, .int .u8 0, .int .u8 0, .int .u8 0, .int .u8 0, .int .u8 0, .int .u8 0, .int .u8 0, .int .u8 0, .int .u8 0, .int .u8 0, .int .u8 0, .int .u8 0, .int .u8 0, .int .u8 0, .int .u8 0, .int .u8 0, .int .u8 0, .int .u8 0, .int .u8 0, .int .u8 0, .int .u8 0, .int .u8 0, .int .u8 0, .int .u8 0, .int .u8 0] 24).row ((shaN [97, 98, 99]).map bv).toArray
    rw [List.toList_toArray] at this
    rw [← HE.out]
    exact this
  have hb2 : Below w.heap.size w ((w1.alloc (.cells #[.int .u8 0, .int .u8 0, .int .u8 0, .int .u8 0, .int .u8 0, .int .u8 0, .int .u8 0, .int .u8 0, .int .u8 0, .int .u8 0, .int .u8 0, .int .u8 0, .int .u8 0, .int .u8 0, .int .u8 0, .int .u8 0, .int .u8 0, .int .u8 0, .int .u8 0, .int .u8 0, .int .u8 0, .int .u8 0, .int .u8 0, .int .u8 0, .int .u8 0, .int .u8 0, .int .u8 0, .int .u8 0, .int .u8 0, .int .u8 0, .int .u8 0, .int .u8 0] 24)).setRow w1.heap.size ((shaN [97, 98, 99]).map bv).toArray) := below_row ((hbW.trans (hb1.mono hbW.size)).alloc (Nat.le_trans hbW.size hb1.size) _) (Nat.le_trans hbW.size hb1.size) _
  have c0 : ((w1.alloc (.cells #[.int .u8 0, .int .u8 0, .int .u8 0, .int .u8 0, .int .u8 0, .int .u8 0, .int .u8 0, .int .u8 0, .int .u8 0, .int .u8 0, .int .u8 0, .int .u8 0, .int .u8 0, .int .u8 0, .int .u8 0, .int .u8 0, .int .u8 0, .int .u8 0, .int .u8 0, .int .u8 0, .int .u8 0, .int .u8 0, .int .u8 0, .int .u8 0, .int .u8 0, .int .u8 0, .int .u8 0, .int .u8 0, .int .u8 0, .int .u8 0, .int .u8 0, .int .u8 0] 24)).setRow w1.heap.size ((shaN [97, 98, 99]).map bv).toArray).cell? ⟨w1.heap.size, 0, none⟩ = some (.int .u8 186) := hB.cell 0
  have c1 : ((w1.alloc (.cells #[.int .u8 0, .int .u8 0, .int .u8 0, .int .u8 0, .int .u8 0, .int .u8 0, .int .u8 0, .int .u8 0, .int .u8 0, .int .u8 0, .int .u8 0, .int .u8 0, .int .u8 0, .int .u8 0, .int .u8 0, .int .u8 0, .int .u8 0, .int .u8 0, .int .u8 0, .int .u8 0, .int .u8 0, .int .u8 0, .int .u8 0, .int .u8 0, .int .u8 0, .int .u8 0, .int .u8 0, .int .u8 0, .int .u8 0, .int .u8 0, .int .u8 0, .int .u8 0] 24)).setRow w1.heap.size ((shaN [97, 98, 99]).map bv).toArray).cell? ⟨w1.heap.size, 1, none⟩ = some (.int .u8 120) := hB.cell 1
  have c31 : ((w1.alloc (.cells #[.int .u8 0, .int .u8 0, .int .u8 0, .int .u8 0, .int .u8 0, .int .u8 0, .int .u8 0, .int .u8 0, .int .u8 0, .int .u8 0, .int .u8 0, .int .u8 0, .int .u8 0, .int .u8 0, .int .u8 0, .int .u8 0, .int .u8 0, .int .u8 0, .int .u8 0, .int .u8 0, .int .u8 0, .int .u8 0, .int .u8 0, .int .u8 0, .int .u8 0, .int .u8 0, .int .u8 0, .int .u8 0, .int .u8 0, .int .u8 0, .int .u8 0, .int .u8 0] 24)).setRow w1.heap.size ((shaN [97, 98, 99]).map bv).toArray).cell? ⟨w1.heap.size, 31, none⟩ = some (.int .u8 173) := hB.cell 31
  clear hb1 hB
  go_wp2_with (refine by32.wpStore (by rfl) (.tmp 1) (.tmp 4) (by rfl) (by rfl) (Bk.new w1 _ _) (by rfl) ((shaN [97, 98, 99]).map bv) (by rfl) HO2.out HO1.out ?_)
  refine (pad_any 3 _ (by omega)).mono ?_
  rintro e w3 ⟨A3, n3, c3, rfl, hn3, -, -, -, hb3⟩
  obtain rfl : n3 = 61 := by rw [← hn3.out]; exact HP.out
  go_wp2_with fail
  go_ret
  exact ⟨rfl, hb2.trans (hb3.mono hb2.size)⟩
end Go.Proofs.YtfbdncjbpcgfnaaDoor
