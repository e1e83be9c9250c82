/-
  Package sha, and its reference: the state at first; the constants; a number laid as bytes; digests out of states.
-/
import Derived.Test.YtfcffafmcihamaaDoorSha1
import Derived.Test.YtfcffafmcihamaaDoorBlk
import Derived.StillTailTactics
import Derived.IntWalk
namespace Go.Proofs.YtfcffafmcihamaaDoor
open Go.RowKit
set_option linter.unusedVariables false

theorem st8 : ArrT Tryd.prog 38 8 := ⟨⟨_, Tryd.underlying38⟩, by kernel_rfl⟩
theorem wd64 : ArrT Tryd.prog 47 64 := ⟨⟨_, Tryd.underlying47⟩, by kernel_rfl⟩
theorem by64 : ArrT Tryd.prog 41 64 := ⟨⟨_, Tryd.underlying41⟩, by kernel_rfl⟩
theorem by32 : ArrT Tryd.prog 24 32 := ⟨⟨_, Tryd.underlying24⟩, by kernel_rfl⟩

/-- A state's value. -/
def sv8 (s : List Nat) : Value := .agg (s.map uv).toArray

/-- An array as a call's answer; nothing that was there has turned. -/
def RetA (v : Value) (w : World) (x : Ending) (w' : World) : Prop := x = .returned v ∧ Below w.heap.size w w'

set_option maxHeartbeats 400000 in
theorem start_any (w : World) : Calls Tryd.prog 23 #[] w (RetA (sv8 iv) w) := by
  go_enter Tryd.func23, Tryd.ntmps23
  go_wp2
  exact bodyPost_ret (st8.result rfl _ (Bk.newL _ _ _ (iv.map uv) rfl) rfl rfl) rfl ⟨rfl, (Below.refl _ _).alloc (Nat.le_refl _) _⟩
set_option maxHeartbeats 400000 in
theorem rstart_any (w : World) : Calls Tryd.prog 18 #[] w (RetA (sv8 iv) w) := by
  go_enter Tryd.func18, Tryd.ntmps18
  go_wp2
  exact bodyPost_ret (st8.result rfl _ (Bk.newL _ _ _ (iv.map uv) rfl) rfl rfl) rfl ⟨rfl, (Below.refl _ _).alloc (Nat.le_refl _) _⟩
theorem uv_one (l : List Nat) : ∀ v ∈ l.map uv, v.oneCell' = true := uv_one' (k := .u32) (fun x : Nat => (x : Int)) l
set_option maxHeartbeats 400000 in
set_option maxRecDepth 100000 in
theorem rconst_any (w : World) : Calls Tryd.prog 27 #[] w (RetA (.agg (kC.map uv).toArray) w) := by
  have h1 := uv_one kC
  go_enter Tryd.func27, Tryd.ntmps27
  go_wp2_with (first | (refine wd64.wpStore (by rfl) (.tmp 0) (.tmp 1) (by rfl) (by rfl) (Bk.new w _ _) (by rfl) (kC.map uv) (by rfl) (by rfl) h1 ?_) | (refine wp_buildTo (by rfl) _ _ (by rfl) (kC.map uv) ?c1 ?_))
  case c1 => kernel_rfl
  exact bodyPost_ret (wd64.result rfl _ ((Bk.new w _ _).row _) rfl rfl) rfl ⟨rfl, below_row ((Below.refl _ _).alloc (Nat.le_refl _) _) (Nat.le_refl _) _⟩
/-- The slice from o on, k cells, when the last j of them are laid. -/
def layL (vs : List Value) (o k n j : Nat) : List Value := vs.take (o + (k - j)) ++ (((beB k n).drop (k - j)).map bv ++ vs.drop (o + k))
theorem beB_at (k n j : Nat) (hj : j < k) : (beB k n)[k - 1 - j]? = some (UInt8.ofNat (n / 256 ^ j % 256)) := by
  have hh : (leB k n)[j]? = some (UInt8.ofNat (n / 256 ^ j % 256)) := by
    induction k with
    | zero => omega
    | succ k ih =>
      rw [leB_snoc]
      rcases Nat.lt_or_ge j k with h | h
      · rw [List.getElem?_append_left (by simpa using h)]
        exact ih h
      · obtain rfl : j = k := by omega
        rw [List.getElem?_append_right (by simp)]
        simp
  unfold beB
  rw [List.getElem?_reverse (by simp; omega), leB_length, show k - 1 - (k - 1 - j) = j by omega]
  exact hh
theorem lay_step (vs : List Value) (o k n j : Nat) (hj : j < k) (hv : o + k ≤ vs.length) :
    (layL vs o k n j).set (o + (k - 1 - j)) (bv (UInt8.ofNat (n / 256 ^ j % 256))) = layL vs o k n (j + 1) := by
  unfold layL
  have hb := beB_at k n j hj
  obtain ⟨hl, hb⟩ := List.getElem?_eq_some_iff.1 hb
  have e1 : (beB k n).drop (k - (j + 1)) = UInt8.ofNat (n / 256 ^ j % 256) :: (beB k n).drop (k - j) := by
    rw [show k - (j + 1) = k - 1 - j by omega, List.drop_eq_getElem_cons hl, hb, show k - 1 - j + 1 = k - j by omega]
  rw [e1, show o + (k - j) = o + (k - 1 - j) + 1 by omega, show o + (k - (j + 1)) = o + (k - 1 - j) by omega, List.take_succ_eq_append_getElem (by omega)]
  rw [List.append_assoc, List.set_append_right _ _ (by simp; omega)]
  have e2 : o + (k - 1 - j) - (vs.take (o + (k - 1 - j))).length = 0 := by simp; omega
  rw [e2]
  simp
theorem layL_length (vs : List Value) (o k n j : Nat) (hj : j ≤ k) (hv : o + k ≤ vs.length) : (layL vs o k n j).length = vs.length := by
  unfold layL
  simp
  omega

theorem layL_zero (vs : List Value) (o k n : Nat) (hv : o + k ≤ vs.length) : layL vs o k n 0 = vs := by
  unfold layL
  rw [Nat.sub_zero, List.drop_of_length_le (by simp)]
  simp
theorem layL_all (vs : List Value) (o k n : Nat) : layL vs o k n k = vs.take o ++ ((beB k n).map bv ++ vs.drop (o + k)) := by
  unfold layL
  simp
theorem shr_byte (n j : Nat) : Value.int .u8 ((n : Int) / 2 ^ (8 * j) % 256) = bv (UInt8.ofNat (n / 256 ^ j % 256)) := by
  have e : (2 : Int) ^ (8 * j) = ((256 ^ j : Nat) : Int) := by
    rw [Int.pow_mul]
    simp
  rw [e]
  unfold bv
  congr 1
  rw [← Int.natCast_ediv]
  simp

set_option maxHeartbeats 400000 in
/-- sha.lay: the bytes of n, the highest first, over all of the slice. -/
theorem lay_any (g o k c n : Nat) (t : TypeId) (vs : List Value) (w : World) (h : Bk w g t vs) (hk : o + k ≤ vs.length) (hv : vs.length ≤ 9223372036854775807) (hk8 : k ≤ 8) (hn : n < 18446744073709551616) :
    Calls Tryd.prog 30 #[.slice (some ⟨g, o, none⟩) k c, .int .u64 n] w fun e w' => e = .returned (.tuple #[]) ∧ Bk w' g t (vs.take o ++ ((beB k n).map bv ++ vs.drop (o + k))) ∧ w.grownBy w' (some g) := by
  go_enter Tryd.func30, Tryd.ntmps30
  go_wp2
  go_loopw [4, 7] (fun _ i wr => ∃ j : Nat, j ≤ k ∧ i = .int .i64 j ∧ Bk wr g t (layL vs o k n j) ∧ w.grownBy wr (some g)) (fun _ i _ => k - (intOf i).toNat)
  case atStart => exact ⟨0, Nat.zero_le _, rfl, by rw [layL_zero _ _ _ _ hk]; exact h, World.grownBy.refl _ _⟩
  case round =>
    obtain ⟨j, hj, rfl, hB, hg⟩ := hrel
    by_cases hlt : j < k
    · have hlen := layL_length vs o k n j hj hk
      have hc := hB.cellAt (o + (k - 1 - j)) (by omega)
      have hf := hB.frozen (o + (k - 1 - j))
      have h1 : (k : Int) - 1 - (j : Int) = ((k - 1 - j : Nat) : Int) := by omega
      have hB2 := hB.set_ (o + (k - 1 - j)) (bv (UInt8.ofNat (n / 256 ^ j % 256)))
      rw [lay_step vs o k n j hlt hk, ← shr_byte] at hB2
      have hg2 := hg.trans (grown_set wr g (o + (k - 1 - j)) (Value.int .u8 ((n : Int) / 2 ^ (8 * j) % 256)))
      clear hB hg
      go_wp2
      go_roundw
      case rel => exact ⟨j + 1, by omega, by go_num, hB2, hg2⟩
      case measure => simp [intOf]; omega
    · obtain rfl : j = k := by omega
      rw [layL_all] at hB
      go_wp2
      go_end0
      exact ⟨rfl, hB, hg⟩
end Go.Proofs.YtfcffafmcihamaaDoor
