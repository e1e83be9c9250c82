/-
  The walk of RecChecks, over what package rec is to do.
-/
import Derived.Test.YtolpggmcjengcaaDoorLRec11
import Derived.Deep.RegionHeld3
namespace Go.Proofs.YtolpggmcjengcaaDoor
open Go.RowKit
set_option linter.unusedVariables false

set_option maxRecDepth 100000 in
set_option maxHeartbeats 6400000 in
theorem recChecks_over (hH : HasLaw) (hC : CheckLaw) (hA : Awake11) (r : RecV) (k : Int) (w : World) (hr : r.Ok) (hk : (Lit.int .i64 k).wf = true) (hT : Dbj w) :
    Calls Tryd.prog 3 #[r.val, .int .i64 k] w fun e w' => e = .returned (.bool true) ∧ Below w.heap.size w w' := by
  obtain ⟨wb, hwb⟩ : ∃ wb, w.alloc (.cells r.cells.toArray 24) = wb := ⟨_, rfl⟩
  have hbb : Below w.heap.size w wb := by rw [← hwb]; exact (Below.refl _ w).alloc (Nat.le_refl _) _
  have hK : Bk wb w.heap.size 24 r.cells := by rw [← hwb]; exact Bk.new w _ _
  have HCK := Lib.hid (fun (V : World) (hV : Below wb.heap.size wb V) => hC r V hr ((hT.under hbb).under hV))
  have HRK := Lib.hid (fun V : World => rcheck_any r V hr)
  have HHS := Lib.hid (fun V : World => hH k V hk)
  have HAW := Lib.hid (fun (V : World) (hV : Below wb.heap.size wb V) => hA V ((hT.under hbb).under hV))
  obtain ⟨cr, hcr⟩ : ∃ cr, checkR r = cr := ⟨_, rfl⟩
  have hcc : (cr == cr) = true := by simp
  rw [hcr] at HCK HRK
  clear hcr hC hH hA hr hk hT
  obtain ⟨seq, kind, name, lease, n, bits⟩ := r
  have HK : Hid (Bk wb w.heap.size 24 [.int .u64 (seq : Int), .int .i64 kind, .string name, .int .u64 (lease : Int), .int .u64 (n : Int), .int .u64 (bits : Int)]) := hK
  have HCK : Hid (∀ V : World, Below wb.heap.size wb V → Calls Tryd.prog 8 #[.agg #[.int .u64 (seq : Int), .int .i64 kind, .string name, .int .u64 (lease : Int), .int .u64 (n : Int), .int .u64 (bits : Int)]] V fun e w' => e = .returned (.int .i64 cr) ∧ Below V.heap.size V w') := HCK
  have HRK : Hid (∀ V : World, Calls Tryd.prog 9 #[.agg #[.int .u64 (seq : Int), .int .i64 kind, .string name, .int .u64 (lease : Int), .int .u64 (n : Int), .int .u64 (bits : Int)]] V fun e w' => e = .returned (.int .i64 cr) ∧ Below V.heap.size V w') := HRK
  have HBB := Lib.hid hbb
  have hwb' : w.alloc (.cells #[.int .u64 (seq : Int), .int .i64 kind, .string name, .int .u64 (lease : Int), .int .u64 (n : Int), .int .u64 (bits : Int)] 24) = wb := hwb
  clear hK hbb hwb
  show Calls Tryd.prog 3 #[.agg #[.int .u64 (seq : Int), .int .i64 kind, .string name, .int .u64 (lease : Int), .int .u64 (n : Int), .int .u64 (bits : Int)], .int .i64 k] w fun e w' => e = .returned (.bool true) ∧ Below w.heap.size w w'
  have y2 : wb.cell? ⟨w.heap.size, 2, none⟩ = some (.string name) := HK.out.cellAt 2 (show 2 < 6 by decide)
  by_cases hbig : 100 < name.size
  · have b1 : decide ((name.size : Int) > 100) = true := by rw [decide_eq_true_iff]; omega
    have b2 : (100 : Int) < (name.size : Int) := by omega
    clear hbig
    go_enter Tryd.func3, Tryd.ntmps3
    go_wp2_with fail
    refine (HAW.out _ (Below.refl _ wb)).mono ?_
    rintro e w1 ⟨rfl, hb⟩
    go_wp2_with fail
    go_ret
    exact ⟨rfl, HBB.out.trans (hb.mono HBB.out.size)⟩
  · have b1 : decide ((name.size : Int) > 100) = false := by rw [decide_eq_false_iff_not]; omega
    have b2 : ¬ (100 : Int) < (name.size : Int) := by omega
    clear hbig
    obtain ⟨bl', hbl⟩ : ∃ x, hasLe k = x := ⟨_, rfl⟩
    obtain ⟨bn', hbn⟩ : ∃ x, hasNu k = x := ⟨_, rfl⟩
    obtain ⟨bb', hbi⟩ : ∃ x, hasBi k = x := ⟨_, rfl⟩
    have HRL := Lib.hid (fun V : World => rhasL_any k V)
    have HRN := Lib.hid (fun V : World => rhasN_any k V)
    have HRB := Lib.hid (fun V : World => rhasB_any k V)
    rw [hbl] at HHS HRL
    rw [hbn] at HHS HRN
    rw [hbi] at HHS HRB
    have e1 : (bl' == bl') = true := by simp
    have e2 : (bn' == bn') = true := by simp
    have e3 : (bb' == bb') = true := by simp
    clear hbl hbn hbi
    go_enter Tryd.func3, Tryd.ntmps3
    go_wp2_with fail
    refine (HHS.out _).mono ?_
    rintro e w1 ⟨rfl, hb1⟩
    have k0 : ∀ V : World, Below wb.heap.size wb V → V.cell? ⟨w.heap.size, 0, none⟩ = some (.int .u64 (seq : Int)) := fun V hV => (HK.out.below hV HK.out.lt).cellAt 0 (show 0 < 6 by decide)
    have k1 : ∀ V : World, Below wb.heap.size wb V → V.cell? ⟨w.heap.size, 1, none⟩ = some (.int .i64 kind) := fun V hV => (HK.out.below hV HK.out.lt).cellAt 1 (show 1 < 6 by decide)
    have k2 : ∀ V : World, Below wb.heap.size wb V → V.cell? ⟨w.heap.size, 2, none⟩ = some (.string name) := fun V hV => (HK.out.below hV HK.out.lt).cellAt 2 (show 2 < 6 by decide)
    have k3 : ∀ V : World, Below wb.heap.size wb V → V.cell? ⟨w.heap.size, 3, none⟩ = some (.int .u64 (lease : Int)) := fun V hV => (HK.out.below hV HK.out.lt).cellAt 3 (show 3 < 6 by decide)
    have k4 : ∀ V : World, Below wb.heap.size wb V → V.cell? ⟨w.heap.size, 4, none⟩ = some (.int .u64 (n : Int)) := fun V hV => (HK.out.below hV HK.out.lt).cellAt 4 (show 4 < 6 by decide)
    have k5 : ∀ V : World, Below wb.heap.size wb V → V.cell? ⟨w.heap.size, 5, none⟩ = some (.int .u64 (bits : Int)) := fun V hV => (HK.out.below hV HK.out.lt).cellAt 5 (show 5 < 6 by decide)
    clear y2 hwb'
    go_wp2_with fail
    go_region_held3 (fun V => Below wb.heap.size wb V) (first | assumption | exact below_drewN hb1 1) (first
      | (go_at_call 8; (with_reducible refine (HCK.out _ ?_).mono ?_); exact below_drewN hb1 1; rintro e w2 ⟨rfl, hb2⟩; have hb2 : Below wb.heap.size wb w2 := (below_drewN hb1 1).trans (hb2.mono hb1.size))
      | (go_at_call 9; (with_reducible refine (HRK.out _).mono ?_); rintro e w3 ⟨rfl, hb3⟩; have hb3 : Below wb.heap.size wb w3 := hb2.trans (hb3.mono hb2.size))
      | (go_at_call 10; (with_reducible refine (HRL.out _).mono ?_); rintro e w4 ⟨rfl, hb4⟩; have hb4 : Below wb.heap.size wb w4 := hb3.trans (hb4.mono hb3.size))
      | (go_at_call 10; (with_reducible refine (HRN.out _).mono ?_); rintro e w5 ⟨rfl, hb5⟩; have hb5 : Below wb.heap.size wb w5 := hb4.trans (hb5.mono hb4.size))
      | (go_at_call 10; (with_reducible refine (HRB.out _).mono ?_); rintro e w6 ⟨rfl, hb6⟩; have hb6 : Below wb.heap.size wb w6 := hb5.trans (hb6.mono hb5.size))
      | (go_at_call 6; (with_reducible refine (HAW.out _ ?_).mono ?_); exact hb6; rintro e w7 ⟨rfl, hb7⟩; have hb7 : Below wb.heap.size wb w7 := hb6.trans (hb7.mono hb6.size)))
    all_goals
      go_wp2_with fail
      go_ret
      exact ⟨rfl, HBB.out.trans (hb7.mono HBB.out.size)⟩
end Go.Proofs.YtolpggmcjengcaaDoor
