/-
  Package sha, and its reference: what follows so many bytes.
-/
import Derived.Test.YtfcffafmcihamaaDoorSha3
import Derived.Test.YtfcffafmcihamaaDoorRef01
import Derived.Laws.MakeOwn
namespace Go.Proofs.YtfcffafmcihamaaDoor
open Go.RowKit
set_option linter.unusedVariables false

/-- Bytes as a call's answer, to be read; nothing that was there has turned. -/
def RetB (l : List UInt8) (w : World) (x : Ending) (w' : World) : Prop :=
  ∃ A n c, x = .returned (.slice A n c) ∧ Hid (l.length = n) ∧ n ≤ c ∧ c ≤ maxLen ∧ Bs w' w'.heap.size A l ∧ Below w.heap.size w w'

theorem and63 (m : Nat) (hm : m ≤ 1152921504606846976) : bits .and .i64 (55 - (m : Int)) 63 = ((zerosN m : Nat) : Int) := by
  have h63 : (BitVec.ofInt 64 63).toNat = 2 ^ 6 - 1 := by decide
  have key : (BitVec.ofInt 64 (55 - (m : Int)) &&& BitVec.ofInt 64 63).toNat = ((55 - (m : Int)) % ((2 ^ 64 : Nat) : Int)).toNat % 2 ^ 6 := by
    rw [BitVec.toNat_and, BitVec.toNat_ofInt, h63, Nat.and_two_pow_sub_one_eq_mod]
  show IntKind.i64.wrap ((BitVec.ofInt 64 (55 - (m : Int)) &&& BitVec.ofInt 64 63).toNat : Nat) = _
  rw [key, IntKind.wrap_i64]
  unfold zerosN
  omega

theorem pad_len {m z : Nat} (h : padB m = 128 :: (List.replicate z 0 ++ beB 8 (8 * m))) : Hid ((padB m).length = 1 + z + 8) := by
  show _ = _
  rw [h]
  simp
  omega
theorem padL (z m : Nat) : ((List.replicate (1 + z + 8) (Value.int .u8 0)).set 0 (Value.int .u8 128)).take (1 + z) ++ ((beB 8 (8 * m)).map bv ++ ((List.replicate (1 + z + 8) (Value.int .u8 0)).set 0 (Value.int .u8 128)).drop (1 + z + 8)) =
    (128 :: (List.replicate z 0 ++ beB 8 (8 * m))).map bv := by
  rw [List.drop_of_length_le (by simp), List.append_nil, show 1 + z + 8 = (z + 8) + 1 by omega, List.replicate_succ, List.set_cons_zero, show 1 + z = z + 1 by omega, List.take_succ_cons, List.take_replicate, show min z (z + 8) = z by omega]
  simp [bv]

set_option maxHeartbeats 800000 in
/-- sha.Pad of n bytes. -/
theorem pad_any (m : Nat) (w : World) (hm : m ≤ 1152921504606846976) : Calls Tryd.prog 25 #[.int .i64 m] w (RetB (padB m) w) := by
  have H63 := and63 m hm
  have hz := zerosN_lt m
  obtain ⟨z, hze⟩ : ∃ z, zerosN m = z := ⟨_, rfl⟩
  have HP : Hid (padB m = 128 :: (List.replicate z 0 ++ beB 8 (8 * m))) := by show _ = _; rw [padB, hze]
  rw [hze] at H63 hz
  clear hze
  have hmk := make_row u8E rfl w (1 + z + 8) (1 + (z : Int) + 8) (by omega) (by omega) (by omega)
  obtain ⟨W, hW⟩ : ∃ W, W = w.alloc (.cells (List.replicate (1 + z + 8) (Value.int .u8 0)).toArray 5) := ⟨_, rfl⟩
  rw [← hW] at hmk
  have hB : Bk W w.heap.size 5 (List.replicate (1 + z + 8) (Value.int .u8 0)) := by rw [hW]; exact Bk.newL _ _ _ _ rfl
  have hb : Below w.heap.size w W := by rw [hW]; exact (Below.refl _ _).alloc (Nat.le_refl _) _
  clear hW
  have hc := hB.cellAt 0 (by simp)
  have hf := hB.frozen 0
  have hB1 := hB.set_ 0 (.int .u8 128)
  have hb1 := hb.setCell (p := ⟨w.heap.size, 0, none⟩) (Nat.le_refl _) (.int .u8 128)
  clear hb hB
  have hsl := slice_fromI u8E (W.setCell ⟨w.heap.size, 0, none⟩ (.int .u8 128)) w.heap.size 0 (1 + z + 8) (1 + z + 8) (1 + z) (1 + (z : Int)) (by omega) (by omega) (by omega)
  rw [Nat.zero_add, Nat.add_sub_cancel_left] at hsl
  have HL : Hid (((List.replicate (1 + z + 8) (Value.int .u8 0)).set 0 (.int .u8 128)).length = 1 + z + 8) := by show _ = _; simp
  have HV := Lib.hid (padL z m)
  have h8 : (m : Int) * 8 = ((8 * m : Nat) : Int) := by omega
  have H8 := Lib.hid h8
  clear h8
  have hmz : 0 ≤ (m : Int) * 8 := by omega
  go_enter Tryd.func25, Tryd.ntmps25
  go_wp2_with fail
  rw [H8.out]
  refine (lay_any _ (1 + z) 8 _ (8 * m) _ _ _ hB1 (by rw [HL.out]; omega) (by rw [HL.out]; omega) (by omega) (by omega)).mono ?_
  rintro e w1 ⟨rfl, hB2, hg⟩
  rw [HV.out, ← HP.out] at hB2
  have hb2 := hb1.grown hg hb1.size (fun q hq => by simp at hq; omega)
  go_wp2
  go_ret
  exact ⟨_, _, _, rfl, pad_len HP.out, Nat.le_refl _, by unfold maxLen; omega, by have := hB2.part 0 (1 + z + 8); rwa [List.drop_zero, List.take_of_length_le (by rw [List.length_map, (pad_len HP.out).out]; omega)] at this, hb2⟩

set_option maxHeartbeats 800000 in
/-- sha.Pad of n bytes, n below 0. -/
theorem pad_neg (a : Int) (w : World) (ha : a < 0) : Calls Tryd.prog 25 #[.int .i64 a] w (RetB (padB 0) w) := by
  have hH : Hid (padB 0 = 128 :: (List.replicate 55 0 ++ beB 8 (8 * 0))) := by show _ = _; rfl
  have H55 : bits .and .i64 55 63 = 55 := by decide +kernel
  have hmk := make_row u8E rfl w 64 64 (by omega) (by omega) (by omega)
  obtain ⟨W, hW⟩ : ∃ W, W = w.alloc (.cells (List.replicate 64 (Value.int .u8 0)).toArray 5) := ⟨_, rfl⟩
  rw [← hW] at hmk
  have hB : Bk W w.heap.size 5 (List.replicate 64 (Value.int .u8 0)) := by rw [hW]; exact Bk.newL _ _ _ _ rfl
  have hb : Below w.heap.size w W := by rw [hW]; exact (Below.refl _ _).alloc (Nat.le_refl _) _
  clear hW
  have hc := hB.cellAt 0 (by simp)
  have hf := hB.frozen 0
  have hB1 := hB.set_ 0 (.int .u8 128)
  have hb1 := hb.setCell (p := ⟨w.heap.size, 0, none⟩) (Nat.le_refl _) (.int .u8 128)
  clear hb hB
  have hsl := slice_fromI u8E (W.setCell ⟨w.heap.size, 0, none⟩ (.int .u8 128)) w.heap.size 0 64 64 56 56 (by omega) (by omega) (by omega)
  have hL : ((List.replicate 64 (Value.int .u8 0)).set 0 (.int .u8 128)).length = 64 := by simp
  have HL := Lib.hid hL
  have HV := Lib.hid (padL 55 0)
  clear hL
  go_enter Tryd.func25, Tryd.ntmps25
  go_wp2_with fail
  refine (lay_any _ 56 8 _ (8 * 0) _ _ _ hB1 (by rw [HL.out]; omega) (by rw [HL.out]; omega) (by omega) (by omega)).mono ?_
  rintro e w1 ⟨rfl, hB2, hg⟩
  have hB3 : Bk w1 w.heap.size 5 ((padB 0).map bv) := by rw [hH.out, ← HV.out]; exact hB2
  have hb2 := hb1.grown hg hb1.size (fun q hq => by simp at hq; omega)
  clear hB2
  go_wp2
  go_ret
  exact ⟨_, _, _, rfl, pad_len hH.out, Nat.le_refl _, by unfold maxLen; omega, by have := hB3.part 0 64; rwa [List.drop_zero, List.take_of_length_le (by rw [List.length_map, (pad_len hH.out).out]; omega)] at this, hb2⟩
end Go.Proofs.YtfcffafmcihamaaDoor
