/-
  sha.through: the state behind whole blocks.
-/
import Derived.Test.YtfcffafmcihamaaDoorSha7
import Derived.Test.YtfcffafmcihamaaDoorRef01
import Derived.Test.YtfcffafmcihamaaDoorBlk2
import Derived.Deep.MidRow
namespace Go.Proofs.YtfcffafmcihamaaDoor
open Go.RowKit
set_option linter.unusedVariables false

theorem bs_range {w : World} {B b o k : Nat} {l : List UInt8} (h : Bs w B (some ⟨b, o, none⟩) l) (hk : k ≤ l.length) : w.rangeAt b o ((l.take k).map bv) := by
  intro j v hv
  have hj : j < k := by have := (List.getElem?_eq_some_iff.1 hv).1; simp at this; omega
  obtain ⟨b', o', e, -, hc⟩ := h.at_ (by omega)
  simp at e
  obtain ⟨rfl, rfl⟩ := e
  rw [hc j (by omega), ← hv]
  rw [List.getElem?_map, List.getElem?_take_of_lt hj, List.getElem?_eq_getElem (by omega)]
  rfl

set_option maxHeartbeats 1600000 in
theorem through_any (s : List Nat) (A : Option Addr) (n c : Nat) (l : List UInt8) (w : World) (hs : St s) (hn : Hid (l.length = n)) (hnc : n ≤ c) (hc : c ≤ 9223372036854775807) (hL : Bs w w.heap.size A l) (hK : Kons w) :
    Calls Tryd.prog 22 #[sv8 s, .slice A n c] w (RetA (sv8 (blks s l (n / 64))) w) := by
  have HS := Lib.hid hs
  have HM : Hid ((s.map uv).length = 8) := by show _ = _; rw [List.length_map]; exact hs.1
  clear hs
  unfold sv8
  go_enter Tryd.func22, Tryd.ntmps22
  go_wp2_with fail
  go_loopw [1] (fun b wr => ∃ (j m : Nat) (A' : Option Addr) (c' : Nat), 64 * j + m = n ∧ b = .slice A' m c' ∧ m ≤ c' ∧ c' ≤ 9223372036854775807 ∧ Bs w w.heap.size A' (l.drop (64 * j)) ∧ Bk wr w.heap.size 38 ((blks s l j).map uv) ∧ (∃ vs, Bk wr (w.heap.size + 1) 38 vs ∧ Hid (vs.length = 8)) ∧ Below w.heap.size w wr)
    (fun b _ => match b with | .slice _ m _ => m | _ => 0)
  case atStart => exact ⟨0, n, A, c, by omega, rfl, hnc, hc, hL, (Bk.new' _ _ _ _ _ rfl rfl).alloc _, ⟨_, Bk.new' _ _ _ _ [.int .u32 0, .int .u32 0, .int .u32 0, .int .u32 0, .int .u32 0, .int .u32 0, .int .u32 0, .int .u32 0] (by simp) rfl, Lib.hid rfl⟩, ((Below.refl _ _).alloc (Nat.le_refl _) _).alloc (by simp) _⟩
  case round =>
    obtain ⟨j, m, A', c', hjm, rfl, hmc, hc', hL', hS, ⟨vs, hV, HV⟩, hb⟩ := hrel
    by_cases hlt : 64 ≤ m
    · have hll : (l.drop (64 * j)).length = m := by rw [List.length_drop, hn.out]; omega
      obtain ⟨lb, lo, rfl, hlb, -⟩ := hL'.at_ (by omega)
      have hst := HS.out.blks l j
      have hsl : ((blks s l j).map uv).length = 8 := by rw [List.length_map]; exact hst.1
      have hXl : ((l.drop (64 * j)).take 64).length = 64 := by rw [List.length_take, hll]; omega
      have hld : ∀ W : World, W.heap = wr.heap → (Instr.loadAt 38 (.pointer (some ⟨w.heap.size, 0, none⟩))).run Tryd.prog W = .ok (.agg ((blks s l j).map uv).toArray) W := fun W hW => st8.load (by unfold Bk; rw [hW]; exact hS) hsl
      have hLw : Bs wr w.heap.size (some ⟨lb, lo, none⟩) (l.drop (64 * j)) := hL'.below hb (Nat.le_refl _)
      have hmid : ∀ W : World, W.heap = wr.heap → (Instr.loadAt 41 (.pointer (some ⟨lb, lo, none⟩))).run Tryd.prog W = .ok (.agg (((l.drop (64 * j)).take 64).map bv).toArray) W := fun W hW => by
        obtain ⟨e, hu⟩ := by64.ty
        exact run_loadAt_mid W lb lo 41 (((l.drop (64 * j)).take 64).map bv) _ (fun i v hv => by rw [show W.cell? = wr.cell? by unfold World.cell?; rw [hW]]; exact bs_range hLw (by omega) i v hv) hu rfl (by rw [by64.size, List.length_map, hXl])
      have har := fun W : World => run_arrayAt (P := Tryd.prog) W Tryd.underlying41 (some ⟨lb, lo, none⟩) m c' hlt
      obtain ⟨A2, hsl2, hL2⟩ := slice_fromE u8E (some ⟨lb, lo, none⟩) m c' 64 64 rfl hlt hmc
      have hL3 := hL2 w w.heap.size (l.drop (64 * j)) hll hL'
      rw [List.drop_drop, show 64 * j + 64 = 64 * (j + 1) by omega] at hL3
      have hm64 : (64 : Int) ≤ (m : Int) := by omega
      obtain ⟨X, hXe⟩ : ∃ X, (l.drop (64 * j)).take 64 = X := ⟨_, rfl⟩
      have HBN : Hid (blks s l (j + 1) = blockN (blks s l j) X) := by show _ = _; rw [blks, hXe]
      rw [hXe] at hXl hmid
      have HX := Lib.hid hXl
      have HSL := Lib.hid hsl
      have H1 := uv_one (blockN (blks s l j) X)
      have HBL : Hid (((blockN (blks s l j) X).map uv).length = 8) := by show _ = _; rw [List.length_map]; exact (hst.block X).1
      have hst' := Lib.hid hst
      clear hll hsl hLw hXe hXl hL2 hL' hst
      have hK1 := hK.below hb
      go_wp2_with fail
      refine wp_region_still_tail 4 (by kernel_rfl) (by kernel_rfl) ?_
      simp only [List.take_succ_cons, List.take_zero, List.drop_succ_cons, List.drop_zero]
      refine st_load (by rfl) _ (.tmp 2) (by rfl) _ _ (by rfl) (hld _ rfl) ?_
      still_step
      still_step
      refine st_load (by rfl) _ (.tmp 10) (by rfl) _ _ (by rfl) (hmid _ rfl) ?_
      refine wpStill_nil ?_
      go_wp2_with fail
      obtain ⟨W, hW⟩ : ∃ W, W = wr.drew := ⟨_, rfl⟩
      replace hS : Bk W w.heap.size 38 ((blks s l j).map uv) := by rw [hW]; exact hS
      replace hV : Bk W (w.heap.size + 1) 38 vs := by rw [hW]; exact hV
      replace hb : Below w.heap.size w W := by rw [hW]; exact below_drewN hb 1
      replace hK1 : Kons W := by rw [hW]; exact hK1
      rw [← hW]
      clear hW hld hmid har
      refine (block_any (blks s l j) X W hst'.out HX.out hK1).mono ?_
      rintro e w1 ⟨rfl, hb1⟩
      replace hS := hS.below hb1 hS.lt
      replace hV := hV.below hb1 hV.lt
      replace hb := hb.trans (hb1.mono hb.size)
      clear hb1 hK1
      unfold sv8
      go_wp2_with (refine st8.wpStore (by rfl) (.tmp 2) (.tmp 12) (by rfl) (by rfl) hS HSL.out ((blockN (blks s l j) X).map uv) (by rfl) HBL.out H1 ?_)
      have hS2 : Bk (w1.setRow w.heap.size ((blockN (blks s l j) X).map uv).toArray) w.heap.size 38 ((blks s l (j + 1)).map uv) := by
        rw [HBN.out]
        have := hS.row ((blockN (blks s l j) X).map uv).toArray
        rwa [List.toList_toArray] at this
      have hV2 := hV.grown (grown_row w1 w.heap.size ((blockN (blks s l j) X).map uv).toArray) (by simp)
      have hb2 := below_row hb (Nat.le_refl _) ((blockN (blks s l j) X).map uv).toArray
      clear hS hV hb H1
      go_roundw
      case rel => exact ⟨j + 1, m - 64, A2, c' - 64, by omega, rfl, by omega, by omega, hL3, hS2, ⟨vs, hV2, HV⟩, hb2⟩
      case measure => simp; omega
    · obtain rfl : j = n / 64 := by omega
      have hlt' : ¬ (64 : Int) ≤ (m : Int) := by omega
      have hst := HS.out.blks l (n / 64)
      have HSL : Hid (((blks s l (n / 64)).map uv).length = 8) := by show _ = _; rw [List.length_map]; exact hst.1
      have H1 := uv_one (blks s l (n / 64))
      clear hst
      go_wp2_with (first | (refine st8.wpLoad (by rfl) (.tmp 2) (by rfl) (by rfl) hS HSL.out ?_) | (refine st8.wpStore (by rfl) (.tmp 4) (.tmp 15) (by rfl) (by rfl) hV HV.out ((blks s l (n / 64)).map uv) (by rfl) HSL.out H1 ?_))
      exact bodyPost_ret (st8.result rfl _ (hV.row _) (by rw [List.toList_toArray]; exact HSL.out) rfl) rfl ⟨by rw [List.toList_toArray], below_row hb (by omega) _⟩
end Go.Proofs.YtfcffafmcihamaaDoor
