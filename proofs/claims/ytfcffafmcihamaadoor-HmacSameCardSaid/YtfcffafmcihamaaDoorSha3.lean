/-
  sha.digest: a state as bytes.
-/
import Derived.Test.YtfcffafmcihamaaDoorSha2
namespace Go.Proofs.YtfcffafmcihamaaDoor
open Go.RowKit
set_option linter.unusedVariables false

def zb : Value := .int .u8 0
/-- The digest, when the first j numbers are laid. -/
def digL (s : List Nat) (j : Nat) : List Value := (digB (s.take j)).map bv ++ List.replicate (32 - 4 * j) zb
theorem digB_take_length (s : List Nat) (j : Nat) (hj : j ≤ s.length) : (digB (s.take j)).length = 4 * j := by
  unfold digB
  induction j with
  | zero => rfl
  | succ j ih =>
    rw [List.take_succ_eq_append_getElem (by omega), List.map_append, List.flatten_append, List.length_append, ih (by omega)]
    simp
    omega
theorem digB_succ (s : List Nat) (j : Nat) (hj : j < s.length) : digB (s.take (j + 1)) = digB (s.take j) ++ beB 4 s[j] := by
  unfold digB
  rw [List.take_succ_eq_append_getElem hj, List.map_append, List.flatten_append]
  simp
theorem digL_length (s : List Nat) (j : Nat) (hs : s.length = 8) (hj : j ≤ 8) : (digL s j).length = 32 := by
  unfold digL
  rw [List.length_append, List.length_map, digB_take_length s j (by omega), List.length_replicate]
  omega
theorem digL_step (s : List Nat) (j : Nat) (hs : s.length = 8) (hj : j < 8) :
    (digL s j).take (4 * j) ++ ((beB 4 (s[j]'(by omega))).map bv ++ (digL s j).drop (4 * j + 4)) = digL s (j + 1) := by
  have hl := digB_take_length s j (by omega)
  have e1 : (digL s j).take (4 * j) = (digB (s.take j)).map bv := by
    unfold digL
    rw [List.take_append_of_le_length (by simp [hl]), List.take_of_length_le (by simp [hl])]
  have e2 : (digL s j).drop (4 * j + 4) = List.replicate (32 - 4 * (j + 1)) zb := by
    unfold digL
    rw [List.drop_append, List.drop_of_length_le (by simp [hl]), List.nil_append, List.length_map, hl, List.drop_replicate]
    rw [show 32 - 4 * j - (4 * j + 4 - 4 * j) = 32 - 4 * (j + 1) by omega]
  rw [e1, e2, ← List.append_assoc, ← List.map_append, ← digB_succ s j (by omega)]
  rfl

set_option maxHeartbeats 800000 in
theorem digest_any (s : List Nat) (w : World) (hs : St s) : Calls Tryd.prog 24 #[sv8 s] w (RetA (.agg ((digB s).map bv).toArray) w) := by
  have hx := hs.1
  have h1 := bv_one (digB s)
  have hxm : (s.map uv).length = 8 := by simpa using hx
  have HX := Lib.hid hx
  have HS := Lib.hid hs.2
  have HM := Lib.hid hxm
  have HI := Lib.hid (fun (W : World) (j : Nat) (v : Value) (hv : (s.map uv)[j]? = some v) => run_index_arr (P := Tryd.prog) W Tryd.underlying38 Tryd.underlying37 (by kernel_rfl) (s.map uv) hxm j v hv)
  clear hx hxm hs
  unfold sv8
  go_enter Tryd.func24, Tryd.ntmps24
  go_wp2_with (refine st8.wpLoad (by rfl) (.tmp 1) (by rfl) (by rfl) (((Bk.newL w _ _ (s.map uv) (by rfl)).alloc _).alloc _) HM.out ?_)
  go_loopw [4, 5, 7] (fun _ _ i wr => ∃ j : Nat, j ≤ 8 ∧ i = .int .i64 j ∧ Bk wr (w.heap.size + 1 + 1) 24 (digL s j) ∧ (∃ vs, Bk wr (w.heap.size + 1) 24 vs ∧ vs.length = 32) ∧ Below w.heap.size w wr) (fun _ _ i _ => 8 - (intOf i).toNat)
  case atStart => exact ⟨0, Nat.zero_le _, rfl, Bk.new' _ _ _ _ (digL s 0) (by simp) rfl, ⟨_, (Bk.new' _ _ _ _ (digL s 0) (by simp) rfl).alloc _, by rfl⟩, (((Below.refl _ _).alloc (Nat.le_refl _) _).alloc (by simp) _).alloc (by simp; omega) _⟩
  case round =>
    obtain ⟨j, hj, rfl, hB, ⟨vs, hV, hvl⟩, hb⟩ := hrel
    have HV := Lib.hid hvl
    clear hvl
    by_cases hlt : j < 8
    · have hsl : j < s.length := by rw [HX.out]; exact hlt
      have hi := HI.out wr j (.int .u32 s[j]) (by simp [hsl, uv])
      have hsj := HS.out s[j] (List.getElem_mem hsl)
      have HD := Lib.hid (digL_step s j HX.out hlt)
      have hl : (digL s j).length = 32 := digL_length s j HX.out hj
      have HL := Lib.hid hl
      obtain ⟨x, hx⟩ : ∃ x, s[j] = x := ⟨_, rfl⟩
      rw [hx] at hi hsj HD
      clear hl hx hsl
      have hsl := slice_arr (P := Tryd.prog) wr Tryd.underlying24 (by kernel_rfl) (w.heap.size + 1 + 1) 0 (4 * j) (4 * j + 4) (4 * (j : Int)) (4 * (j : Int) + 4) (by omega) (by omega) (by omega) (by omega) (by omega)
      rw [Nat.zero_add, Nat.add_sub_cancel_left] at hsl
      go_wp2_with fail
      refine (lay_any _ (4 * j) 4 _ x _ (digL s j) wr hB (by rw [HL.out]; omega) (by rw [HL.out]; omega) (by omega) (by omega)).mono ?_
      rintro e w1 ⟨rfl, hB1, hg⟩
      rw [HD.out] at hB1
      have hV1 := hV.grown hg (by simp)
      have hb1 := hb.grown hg hb.size (fun q hq => by simp at hq; omega)
      clear hB hV hg hb hi hsl
      go_wp2
      go_roundw
      case rel => exact ⟨j + 1, by omega, by go_num, hB1, ⟨vs, hV1, HV.out⟩, hb1⟩
      case measure => simp [intOf]; omega
    · obtain rfl : j = 8 := by omega
      have hd : digL s 8 = (digB s).map bv := by
        unfold digL
        rw [show s.take 8 = s from List.take_of_length_le (by rw [HX.out]; omega)]
        simp
      have hl : (digL s 8).length = 32 := digL_length s 8 HX.out (by omega)
      rw [hd] at hB hl
      have HL := Lib.hid hl
      clear hd hl
      go_wp2_with (first | (refine by32.wpLoad (by rfl) (.tmp 3) (by rfl) (by rfl) hB HL.out ?_) | (refine by32.wpStore (by rfl) (.tmp 2) (.tmp 21) (by rfl) (by rfl) hV HV.out ((digB s).map bv) (by rfl) HL.out h1 ?_))
      exact bodyPost_ret (by32.result rfl _ (hV.row _) (by rw [List.toList_toArray]; exact HL.out) rfl) rfl ⟨by rw [List.toList_toArray], below_row hb (by omega) _⟩
end Go.Proofs.YtfcffafmcihamaaDoor
