/-
  The walk of RecDecodes, over what package rec is to do.
-/
import Derived.Test.YtolpggmcjengcaaDoorLRecEncodes
namespace Go.Proofs.YtolpggmcjengcaaDoor
open Go.RowKit
set_option linter.unusedVariables false

set_option maxRecDepth 100000 in
set_option maxHeartbeats 6400000 in
theorem recDecodes_over (hD : DecodeLaw) (hA : Awake11) (A : Option Addr) (m c : Nat) (l : List UInt8) (w : World) (hm : Hid (l.length = m)) (hmc : m ≤ c) (hcm : c ≤ maxLen) (hbs : Bs w w.heap.size A l) (hT : Dbj w) :
    Calls Tryd.prog 5 #[.slice A m c] w fun e w' => e = .returned (.bool true) ∧ Below w.heap.size w w' := by
  have HTB := Lib.hid hT
  have HAW := Lib.hid (fun (V : World) (hV : Below w.heap.size w V) => hA V (HTB.out.under hV))
  by_cases hbig : 300 < m
  · have b2 : (300 : Int) < (m : Int) := by omega
    have b1 : decide ((m : Int) > 300) = true := by rw [decide_eq_true_iff]; omega
    clear hbig hbs hA hD hT
    go_enter Tryd.func5, Tryd.ntmps5
    go_wp2_with fail
    refine (HAW.out _ (Below.refl _ w)).mono ?_
    rintro e w1 ⟨rfl, hb⟩
    go_wp2_with fail
    go_ret
    exact ⟨rfl, hb⟩
  have b2 : ¬ (300 : Int) < (m : Int) := by omega
  have b1 : decide ((m : Int) > 300) = false := by rw [decide_eq_false_iff_not]; omega
  have HM := Lib.hid hm.out
  have HM3 : Hid (m ≤ 300) := by show _ ≤ _; omega
  have hdec := hD A m c l w hm (by omega) hmc hcm hbs hT
  have HBS := Lib.hid hbs
  have hok := fun h => dec_ok (l := l) h
  have herr := fun h => dec_err (l := l) h
  obtain ⟨⟨r, e0⟩, hde⟩ : ∃ x, decR l = x := ⟨_, rfl⟩
  rw [hde] at hdec hok herr
  simp only at hdec hok herr
  clear hde hD hA hT hbs hbig hm
  by_cases h0 : e0 = 0
  · subst h0
    obtain ⟨hc0, hby, hrk⟩ := hok rfl
    have HRK : Hid (∀ V : World, Calls Tryd.prog 9 #[.agg #[.int .u64 (r.seq : Int), .int .i64 r.kind, .string r.name, .int .u64 (r.lease : Int), .int .u64 (r.n : Int), .int .u64 (r.bits : Int)]] V fun e w' => e = .returned (.int .i64 0) ∧ Below V.heap.size V w') := fun V => by
      have h := rcheck_any r V hrk
      rw [hc0] at h
      exact h
    have hns : r.name.size ≤ 65536 := by
      have h1 := congrArg List.length hby
      have h2 : (bl r.name).length ≤ (bytesR r).length := by unfold bytesR; simp only [List.length_append]; omega
      rw [bl_length] at h2
      have := HM.out
      have := HM3.out
      omega
    have HBY : Hid (∀ V : World, Calls Tryd.prog 14 #[.agg #[.int .u64 (r.seq : Int), .int .i64 r.kind, .string r.name, .int .u64 (r.lease : Int), .int .u64 (r.n : Int), .int .u64 (r.bits : Int)]] V (RetO 5 l V)) := fun V => by
      have h := rbytes11_any r V hrk (check_ok hc0).1 hns
      rw [hby] at h
      exact h
    clear hok herr hc0 hby hrk hns
    obtain ⟨seq, kind, name, lease, n, bits⟩ := r
    have HDC : Hid (Calls Tryd.prog 12 #[.slice A m c] w fun e w' => e = .returned (.tuple #[.agg #[.int .u64 (seq : Int), .int .i64 kind, .string name, .int .u64 (lease : Int), .int .u64 (n : Int), .int .u64 (bits : Int)], .int .i64 0]) ∧ Below w.heap.size w w') := hdec
    simp only at HRK HBY
    clear hdec
    go_enter Tryd.func5, Tryd.ntmps5
    go_wp2_with fail
    refine HDC.out.mono ?_
    rintro e w1 ⟨rfl, hb1⟩
    have HB1 := Lib.hid hb1
    obtain ⟨wa, hwa⟩ : ∃ wa, w1.alloc (.cells #[.int .u64 0, .int .i64 0, .string ⟨#[]⟩, .int .u64 0, .int .u64 0, .int .u64 0] 24) = wa := ⟨_, rfl⟩
    have HKA : Hid (Bk wa w1.heap.size 24 [.int .u64 0, .int .i64 0, .string ⟨#[]⟩, .int .u64 0, .int .u64 0, .int .u64 0]) := by show Bk _ _ _ _; rw [← hwa]; exact Bk.new w1 _ _
    have HBA : Hid (Below w1.heap.size w1 wa) := by show Below _ _ _; rw [← hwa]; exact (Below.refl _ w1).alloc (Nat.le_refl _) _
    clear hb1
    go_wp2_with (first | (refine rec_store (by rfl) (.tmp 3) (.tmp 13) (by rfl) ⟨seq, kind, name, lease, n, bits⟩ (by rfl) HKA.out (by rfl) ?_; intro w2 hK2 hg2 hs2; have HK2 : Hid (Bk w2 w1.heap.size 24 [.int .u64 (seq : Int), .int .i64 kind, .string name, .int .u64 (lease : Int), .int .u64 (n : Int), .int .u64 (bits : Int)]) := Lib.hid hK2; have HB12 : Hid (Below w1.heap.size w1 w2) := under_own HBA.out hg2 (Nat.le_refl _); have HB2 : Hid (Below w.heap.size w w2) := HB1.out.trans (HB12.out.mono HB1.out.size); have y0 : w2.cell? ⟨w1.heap.size, 0, none⟩ = some (.int .u64 (seq : Int)) := (HK2.out.below (Below.refl _ w2) HK2.out.lt).cellAt 0 (show 0 < 6 by decide); have y1 : w2.cell? ⟨w1.heap.size, 1, none⟩ = some (.int .i64 kind) := (HK2.out.below (Below.refl _ w2) HK2.out.lt).cellAt 1 (show 1 < 6 by decide); have y2 : w2.cell? ⟨w1.heap.size, 2, none⟩ = some (.string name) := (HK2.out.below (Below.refl _ w2) HK2.out.lt).cellAt 2 (show 2 < 6 by decide); have y3 : w2.cell? ⟨w1.heap.size, 3, none⟩ = some (.int .u64 (lease : Int)) := (HK2.out.below (Below.refl _ w2) HK2.out.lt).cellAt 3 (show 3 < 6 by decide); have y4 : w2.cell? ⟨w1.heap.size, 4, none⟩ = some (.int .u64 (n : Int)) := (HK2.out.below (Below.refl _ w2) HK2.out.lt).cellAt 4 (show 4 < 6 by decide); have y5 : w2.cell? ⟨w1.heap.size, 5, none⟩ = some (.int .u64 (bits : Int)) := (HK2.out.below (Below.refl _ w2) HK2.out.lt).cellAt 5 (show 5 < 6 by decide); clear hK2 hg2 hs2 hwa))
    refine (HRK.out _).mono ?_
    rintro e w3 ⟨rfl, hb3⟩
    have HB3 : Hid (Below w.heap.size w w3) := HB2.out.trans (hb3.mono HB2.out.size)
    have HK3 : Hid (Bk w3 w1.heap.size 24 [.int .u64 (seq : Int), .int .i64 kind, .string name, .int .u64 (lease : Int), .int .u64 (n : Int), .int .u64 (bits : Int)]) := HK2.out.below hb3 HK2.out.lt
    clear hb3 y0 y1 y2 y3 y4 y5
    have y0 : w3.cell? ⟨w1.heap.size, 0, none⟩ = some (.int .u64 (seq : Int)) := (HK3.out.below (Below.refl _ w3) HK3.out.lt).cellAt 0 (show 0 < 6 by decide)
    have y1 : w3.cell? ⟨w1.heap.size, 1, none⟩ = some (.int .i64 kind) := (HK3.out.below (Below.refl _ w3) HK3.out.lt).cellAt 1 (show 1 < 6 by decide)
    have y2 : w3.cell? ⟨w1.heap.size, 2, none⟩ = some (.string name) := (HK3.out.below (Below.refl _ w3) HK3.out.lt).cellAt 2 (show 2 < 6 by decide)
    have y3 : w3.cell? ⟨w1.heap.size, 3, none⟩ = some (.int .u64 (lease : Int)) := (HK3.out.below (Below.refl _ w3) HK3.out.lt).cellAt 3 (show 3 < 6 by decide)
    have y4 : w3.cell? ⟨w1.heap.size, 4, none⟩ = some (.int .u64 (n : Int)) := (HK3.out.below (Below.refl _ w3) HK3.out.lt).cellAt 4 (show 4 < 6 by decide)
    have y5 : w3.cell? ⟨w1.heap.size, 5, none⟩ = some (.int .u64 (bits : Int)) := (HK3.out.below (Below.refl _ w3) HK3.out.lt).cellAt 5 (show 5 < 6 by decide)
    go_wp2_with fail
    refine (HBY.out _).mono ?_
    rintro e w5 ⟨A5, n5, c5, rfl, hn5, -, h51, h52, hbs5, hb5⟩
    have HB5 : Hid (Below w.heap.size w w5) := HB3.out.trans (hb5.mono HB3.out.size)
    have HSA : Hid (Calls Tryd.prog 13 #[.slice A5 n5 c5, .slice A m c] w5 fun e w' => e = .returned (.bool true) ∧ ∃ q, w' = w5.drewN q) := by
      have h := same_any A5 A n5 m c5 c l l w5.heap.size w5 hn5.out HM.out hbs5 ((HBS.out.below HB5.out (Nat.le_refl _)).more HB5.out.size) (by have := HM.out; have := HM3.out; unfold maxLen; omega) (by have := HM.out; have := HM3.out; unfold maxLen; omega)
      rw [decide_eq_true rfl] at h
      exact h
    clear hbs5 hb5 hn5 h51 h52 y0 y1 y2 y3 y4 y5
    try go_wp2_with fail
    refine HSA.out.mono ?_
    rintro e w6 ⟨rfl, q6, hw6⟩
    have HB6 : Hid (Below w.heap.size w w6) := by show Below _ _ _; rw [hw6]; exact below_drewN HB5.out q6
    clear hw6
    try go_wp2_with fail
    refine (HAW.out _ HB6.out).mono ?_
    rintro e w7 ⟨rfl, hb7⟩
    go_wp2_with fail
    go_ret
    exact ⟨rfl, HB6.out.trans (hb7.mono HB6.out.size)⟩
  obtain ⟨hr, h5, h1⟩ := herr h0
  have HDC : Hid (Calls Tryd.prog 12 #[.slice A m c] w fun e w' => e = .returned (.tuple #[.agg #[.int .u64 0, .int .i64 0, .string ⟨#[]⟩, .int .u64 0, .int .u64 0, .int .u64 0], .int .i64 e0]) ∧ Below w.heap.size w w') := by
    rw [hr] at hdec
    exact hdec
  have g0 : (e0 != 0) = true := by simpa using h0
  clear hok herr hr hdec h0
  have HAF : Hid (∀ w1 : World, w1.heap.size = w1.heap.size) := fun _ => rfl
  cases l with
  | nil =>
    obtain rfl : 0 = m := HM.out
    obtain rfl := h1 rfl
    clear h5 h1 HAF
    go_enter Tryd.func5, Tryd.ntmps5
    go_wp2_with fail
    refine HDC.out.mono ?_
    rintro e w1 ⟨rfl, hb1⟩
    have HB1 := Lib.hid hb1
    obtain ⟨wa, hwa⟩ : ∃ wa, w1.alloc (.cells #[.int .u64 0, .int .i64 0, .string ⟨#[]⟩, .int .u64 0, .int .u64 0, .int .u64 0] 24) = wa := ⟨_, rfl⟩
    have HKA : Hid (Bk wa w1.heap.size 24 [.int .u64 0, .int .i64 0, .string ⟨#[]⟩, .int .u64 0, .int .u64 0, .int .u64 0]) := by show Bk _ _ _ _; rw [← hwa]; exact Bk.new w1 _ _
    have HBA : Hid (Below w1.heap.size w1 wa) := by show Below _ _ _; rw [← hwa]; exact (Below.refl _ w1).alloc (Nat.le_refl _) _
    clear hb1
    go_wp2_with (first | (refine rec_store (by rfl) (.tmp 3) (.tmp 13) (by rfl) zeroR (by rfl) HKA.out (by rfl) ?_; intro w2 hK2 hg2 hs2; have HK2 : Hid (Bk w2 w1.heap.size 24 [.int .u64 0, .int .i64 0, .string ⟨#[]⟩, .int .u64 0, .int .u64 0, .int .u64 0]) := Lib.hid hK2; have HB12 : Hid (Below w1.heap.size w1 w2) := under_own HBA.out hg2 (Nat.le_refl _); have HB2 : Hid (Below w.heap.size w w2) := HB1.out.trans (HB12.out.mono HB1.out.size); have y0 : w2.cell? ⟨w1.heap.size, 0, none⟩ = some (.int .u64 0) := (HK2.out.below (Below.refl _ w2) HK2.out.lt).cellAt 0 (show 0 < 6 by decide); have y1 : w2.cell? ⟨w1.heap.size, 1, none⟩ = some (.int .i64 0) := (HK2.out.below (Below.refl _ w2) HK2.out.lt).cellAt 1 (show 1 < 6 by decide); have y2 : w2.cell? ⟨w1.heap.size, 2, none⟩ = some (.string ⟨#[]⟩) := (HK2.out.below (Below.refl _ w2) HK2.out.lt).cellAt 2 (show 2 < 6 by decide); have y3 : w2.cell? ⟨w1.heap.size, 3, none⟩ = some (.int .u64 0) := (HK2.out.below (Below.refl _ w2) HK2.out.lt).cellAt 3 (show 3 < 6 by decide); have y4 : w2.cell? ⟨w1.heap.size, 4, none⟩ = some (.int .u64 0) := (HK2.out.below (Below.refl _ w2) HK2.out.lt).cellAt 4 (show 4 < 6 by decide); have y5 : w2.cell? ⟨w1.heap.size, 5, none⟩ = some (.int .u64 0) := (HK2.out.below (Below.refl _ w2) HK2.out.lt).cellAt 5 (show 5 < 6 by decide); clear hK2 hg2 hs2 hwa))
    refine (HAW.out _ HB2.out).mono ?_
    rintro e w7 ⟨rfl, hb7⟩
    go_wp2_with fail
    go_ret
    exact ⟨rfl, HB2.out.trans (hb7.mono HB2.out.size)⟩
  | cons x t =>
    have hm0 : 0 < m := by rw [← HM.out]; exact Nat.zero_lt_succ _
    obtain ⟨b, o, rfl, hb, hcell⟩ := HBS.out.at_ (show 0 < (x :: t).length from Nat.zero_lt_succ _)
    have hc0 : w.cell? ⟨b, o, none⟩ = some (.int .u8 (x.toNat : Int)) := hcell 0 (Nat.zero_lt_succ _)
    have HC0 : Hid (∀ V : World, Below w.heap.size w V → V.cell? ⟨b, o, none⟩ = some (.int .u8 (x.toNat : Int))) := fun V hV => by rw [hV.cell hb]; exact hc0
    replace h5 : decide (e0 = 5) = (!kindR (x.toNat : Int)) := h5
    clear hcell hc0 hb h1 HAF
    have b3 : decide ((m : Int) > 0) = true := by rw [decide_eq_true_iff]; omega
    obtain ⟨p, hp⟩ : ∃ p, decide ((x.toNat : Int) < 1) = p := ⟨_, rfl⟩
    obtain ⟨q, hq⟩ : ∃ q, decide ((x.toNat : Int) > 5) = q := ⟨_, rfl⟩
    have h5' : (e0 == 5) = (p || q) := by
      have e1 : (e0 == 5) = decide (e0 = 5) := by by_cases h : e0 = 5 <;> simp [h]
      rw [e1, h5, ← hp, ← hq]
      unfold kindR
      by_cases h1 : 1 ≤ (x.toNat : Int) <;> by_cases h2 : (x.toNat : Int) ≤ 5 <;> simp [h1, h2] <;> omega
    have HRES : Hid ((e0 == 5) = (p || q)) := h5'
    cases p <;> cases q
    all_goals
      have k5 := HRES.out
      first
        | (replace k5 : (e0 == 5) = true := k5)
        | (replace k5 : (e0 == 5) = false := k5)
      clear h5 h5'
      go_enter Tryd.func5, Tryd.ntmps5
      go_wp2_with fail
      refine HDC.out.mono ?_
      rintro e w1 ⟨rfl, hb1⟩
      have HB1 := Lib.hid hb1
      obtain ⟨wa, hwa⟩ : ∃ wa, w1.alloc (.cells #[.int .u64 0, .int .i64 0, .string ⟨#[]⟩, .int .u64 0, .int .u64 0, .int .u64 0] 24) = wa := ⟨_, rfl⟩
      have HKA : Hid (Bk wa w1.heap.size 24 [.int .u64 0, .int .i64 0, .string ⟨#[]⟩, .int .u64 0, .int .u64 0, .int .u64 0]) := by show Bk _ _ _ _; rw [← hwa]; exact Bk.new w1 _ _
      have HBA : Hid (Below w1.heap.size w1 wa) := by show Below _ _ _; rw [← hwa]; exact (Below.refl _ w1).alloc (Nat.le_refl _) _
      clear hb1
      go_wp2_with (first | (refine rec_store (by rfl) (.tmp 3) (.tmp 13) (by rfl) zeroR (by rfl) HKA.out (by rfl) ?_; intro w2 hK2 hg2 hs2; have HK2 : Hid (Bk w2 w1.heap.size 24 [.int .u64 0, .int .i64 0, .string ⟨#[]⟩, .int .u64 0, .int .u64 0, .int .u64 0]) := Lib.hid hK2; have HB12 : Hid (Below w1.heap.size w1 w2) := under_own HBA.out hg2 (Nat.le_refl _); have HB2 : Hid (Below w.heap.size w w2) := HB1.out.trans (HB12.out.mono HB1.out.size); have y0 : w2.cell? ⟨w1.heap.size, 0, none⟩ = some (.int .u64 0) := (HK2.out.below (Below.refl _ w2) HK2.out.lt).cellAt 0 (show 0 < 6 by decide); have y1 : w2.cell? ⟨w1.heap.size, 1, none⟩ = some (.int .i64 0) := (HK2.out.below (Below.refl _ w2) HK2.out.lt).cellAt 1 (show 1 < 6 by decide); have y2 : w2.cell? ⟨w1.heap.size, 2, none⟩ = some (.string ⟨#[]⟩) := (HK2.out.below (Below.refl _ w2) HK2.out.lt).cellAt 2 (show 2 < 6 by decide); have y3 : w2.cell? ⟨w1.heap.size, 3, none⟩ = some (.int .u64 0) := (HK2.out.below (Below.refl _ w2) HK2.out.lt).cellAt 3 (show 3 < 6 by decide); have y4 : w2.cell? ⟨w1.heap.size, 4, none⟩ = some (.int .u64 0) := (HK2.out.below (Below.refl _ w2) HK2.out.lt).cellAt 4 (show 4 < 6 by decide); have y5 : w2.cell? ⟨w1.heap.size, 5, none⟩ = some (.int .u64 0) := (HK2.out.below (Below.refl _ w2) HK2.out.lt).cellAt 5 (show 5 < 6 by decide); have hx := HC0.out w2 HB2.out; clear hK2 hg2 hs2 hwa))
      refine (HAW.out _ HB2.out).mono ?_
      rintro e w7 ⟨rfl, hb7⟩
      go_wp2_with fail
      go_ret
      exact ⟨rfl, HB2.out.trans (hb7.mono HB2.out.size)⟩
end Go.Proofs.YtolpggmcjengcaaDoor
