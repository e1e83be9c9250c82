/-
  The walk of RecEncodes, over what package rec is to do.
-/
import Derived.Test.YtolpggmcjengcaaDoorLRec11
namespace Go.Proofs.YtolpggmcjengcaaDoor
open Go.RowKit
set_option linter.unusedVariables false

/-- A record is stored into a block of its own. -/
theorem rec_store {ops : Array Oper} {rest : List Oper} {o : Oper} {a : Act} {w : World} {Q : Exit → Act → World → Prop} (hgd : o.guard = none) (x y : Operand) (ho : o.op = .store 24 x y)
    {g : Nat} {t' : TypeId} {b0 b1 b2 b3 b4 b5 : Value} (r : RecV) (hx : a.eval x = .pointer (some ⟨g, 0, none⟩)) (h : Bk w g t' [b0, b1, b2, b3, b4, b5]) (hy : a.eval y = r.val)
    (hK : ∀ w', Bk w' g t' r.cells → w.grownBy w' (some g) → w'.heap.size = w.heap.size → wpList Tryd.prog ops Q rest (a.put o.dst undef) w') : wpList Tryd.prog ops Q (o :: rest) a w :=
  wpList_store_row hgd 24 x y ho g #[.int .u64 (r.seq : Int), .int .i64 r.kind, .string r.name, .int .u64 (r.lease : Int), .int .u64 (r.n : Int), .int .u64 (r.bits : Int)] hx hy t' #[b0, b1, b2, b3, b4, b5] h (by kernel_rfl) rfl (by rw [Array.all_eq_true_iff_forall_mem]; simp [Value.oneCell']) (hK _ (Bk.row (vs := [b0, b1, b2, b3, b4, b5]) h #[.int .u64 (r.seq : Int), .int .i64 r.kind, .string r.name, .int .u64 (r.lease : Int), .int .u64 (r.n : Int), .int .u64 (r.bits : Int)]) (grown_row _ _ _) (by simp [World.setRow]))
theorem under_own {w w2 w3 : World} {g : Nat} (h : Below w.heap.size w w2) (hg : w2.grownBy w3 (some g)) (hlt : w.heap.size ≤ g) : Below w.heap.size w w3 :=
  h.grown hg h.size fun k hk => by cases hk; exact hlt
theorem bytesR_le (r : RecV) : (bytesR r).length ≤ 34 + r.name.size := by
  unfold bytesR
  simp only [List.length_append, leB_length, bl_length]
  have h : ∀ (b : Bool) (x : Nat), (if b then leB 8 x else []).length ≤ 8 := fun b x => by cases b <;> simp
  have h1 := h (hasLe r.kind) r.lease
  have h2 := h (hasNu r.kind) r.n
  have h3 := h (hasBi r.kind) r.bits
  omega

set_option maxRecDepth 100000 in
set_option maxHeartbeats 6400000 in
theorem recEncodes_over (hE : EncodeLaw) (hD : DecodeLaw) (hA : Awake11) (r : RecV) (w : World) (hr : r.Ok) (hT : Dbj w) :
    Calls Tryd.prog 4 #[r.val] w fun e w' => e = .returned (.bool true) ∧ Below w.heap.size w w' := by
  obtain ⟨wb, hwb⟩ : ∃ wb, w.alloc (.cells r.cells.toArray 24) = wb := ⟨_, rfl⟩
  have hbb : Below w.heap.size w wb := by rw [← hwb]; exact (Below.refl _ w).alloc (Nat.le_refl _) _
  have hK : Bk wb w.heap.size 24 r.cells := by rw [← hwb]; exact Bk.new w _ _
  have HTB : Hid (Dbj wb) := hT.under hbb
  have HAW := Lib.hid (fun (V : World) (hV : Below wb.heap.size wb V) => hA V (HTB.out.under hV))
  have HRK : Hid (∀ V : World, Calls Tryd.prog 9 #[.agg #[.int .u64 (r.seq : Int), .int .i64 r.kind, .string r.name, .int .u64 (r.lease : Int), .int .u64 (r.n : Int), .int .u64 (r.bits : Int)]] V fun e w' => e = .returned (.int .i64 (checkR r)) ∧ Below V.heap.size V w') := fun V => rcheck_any r V hr
  have HEN : Hid (r.name.size ≤ 100 → Calls Tryd.prog 11 #[.agg #[.int .u64 (r.seq : Int), .int .i64 r.kind, .string r.name, .int .u64 (r.lease : Int), .int .u64 (r.n : Int), .int .u64 (r.bits : Int)]] wb (RetB (if checkR r = 0 then bytesR r else []) (checkR r) wb)) := fun h => hE r wb hr (by omega) HTB.out
  have HBY : Hid (checkR r = 0 → r.name.size ≤ 100 → ∀ V : World, Calls Tryd.prog 14 #[.agg #[.int .u64 (r.seq : Int), .int .i64 r.kind, .string r.name, .int .u64 (r.lease : Int), .int .u64 (r.n : Int), .int .u64 (r.bits : Int)]] V (RetO 5 (bytesR r) V)) := fun h h2 V => rbytes11_any r V hr (check_ok h).1 (by omega)
  have HDB : Hid (checkR r = 0 → decR (bytesR r) = (r, 0)) := fun h => dec_bytes hr h
  have HLE := Lib.hid (bytesR_le r)
  have HD := Lib.hid hD
  clear hE hA hr hT hD
  obtain ⟨seq, kind, name, lease, n, bits⟩ := r
  have HK : Hid (Bk wb w.heap.size 24 [.int .u64 (seq : Int), .int .i64 kind, .string name, .int .u64 (lease : Int), .int .u64 (n : Int), .int .u64 (bits : Int)]) := hK
  have HBB := Lib.hid hbb
  have hwb' : w.alloc (.cells #[.int .u64 (seq : Int), .int .i64 kind, .string name, .int .u64 (lease : Int), .int .u64 (n : Int), .int .u64 (bits : Int)] 24) = wb := hwb
  clear hK hbb hwb
  show Calls Tryd.prog 4 #[.agg #[.int .u64 (seq : Int), .int .i64 kind, .string name, .int .u64 (lease : Int), .int .u64 (n : Int), .int .u64 (bits : Int)]] w fun e w' => e = .returned (.bool true) ∧ Below w.heap.size w w'
  simp only at HRK HEN HBY HDB HLE
  by_cases hbig : 100 < name.size
  · have b1 : decide ((name.size : Int) > 100) = true := by rw [decide_eq_true_iff]; omega
    have b2 : (100 : Int) < (name.size : Int) := by omega
    have y2 : wb.cell? ⟨w.heap.size, 2, none⟩ = some (.string name) := HK.out.cellAt 2 (show 2 < 6 by decide)
    clear hbig
    go_enter Tryd.func4, Tryd.ntmps4
    go_wp2_with fail
    refine (HAW.out _ (Below.refl _ wb)).mono ?_
    rintro e w1 ⟨rfl, hb⟩
    go_wp2_with fail
    go_ret
    exact ⟨rfl, HBB.out.trans (hb.mono HBB.out.size)⟩
  · have b1 : decide ((name.size : Int) > 100) = false := by rw [decide_eq_false_iff_not]; omega
    have b2 : ¬ (100 : Int) < (name.size : Int) := by omega
    have HNS : Hid (name.size ≤ 100) := by show _ ≤ _; omega
    have HEN2 := Lib.hid (HEN.out HNS.out)
    clear HEN
    clear hbig
    have y0 : wb.cell? ⟨w.heap.size, 0, none⟩ = some (.int .u64 (seq : Int)) := (HK.out.below (Below.refl _ wb) HK.out.lt).cellAt 0 (show 0 < 6 by decide)
    have y1 : wb.cell? ⟨w.heap.size, 1, none⟩ = some (.int .i64 kind) := (HK.out.below (Below.refl _ wb) HK.out.lt).cellAt 1 (show 1 < 6 by decide)
    have y2 : wb.cell? ⟨w.heap.size, 2, none⟩ = some (.string name) := (HK.out.below (Below.refl _ wb) HK.out.lt).cellAt 2 (show 2 < 6 by decide)
    have y3 : wb.cell? ⟨w.heap.size, 3, none⟩ = some (.int .u64 (lease : Int)) := (HK.out.below (Below.refl _ wb) HK.out.lt).cellAt 3 (show 3 < 6 by decide)
    have y4 : wb.cell? ⟨w.heap.size, 4, none⟩ = some (.int .u64 (n : Int)) := (HK.out.below (Below.refl _ wb) HK.out.lt).cellAt 4 (show 4 < 6 by decide)
    have y5 : wb.cell? ⟨w.heap.size, 5, none⟩ = some (.int .u64 (bits : Int)) := (HK.out.below (Below.refl _ wb) HK.out.lt).cellAt 5 (show 5 < 6 by decide)
    go_enter Tryd.func4, Tryd.ntmps4
    go_wp2_with fail
    refine HEN2.out.mono ?_
    rintro e w1 ⟨A1, n1, c1, rfl, hn1, hnc1, hcm1, hbs1, hb1⟩
    have HB1 := Lib.hid hb1
    have HS1 := Lib.hid hbs1
    have HN1 := Lib.hid hn1
    have HNC := Lib.hid (And.intro hnc1 hcm1)
    clear y0 y1 y2 y3 y4 y5 hwb' hb1 hbs1 hn1 hnc1 hcm1
    have y0 : w1.cell? ⟨w.heap.size, 0, none⟩ = some (.int .u64 (seq : Int)) := (HK.out.below HB1.out HK.out.lt).cellAt 0 (show 0 < 6 by decide)
    have y1 : w1.cell? ⟨w.heap.size, 1, none⟩ = some (.int .i64 kind) := (HK.out.below HB1.out HK.out.lt).cellAt 1 (show 1 < 6 by decide)
    have y2 : w1.cell? ⟨w.heap.size, 2, none⟩ = some (.string name) := (HK.out.below HB1.out HK.out.lt).cellAt 2 (show 2 < 6 by decide)
    have y3 : w1.cell? ⟨w.heap.size, 3, none⟩ = some (.int .u64 (lease : Int)) := (HK.out.below HB1.out HK.out.lt).cellAt 3 (show 3 < 6 by decide)
    have y4 : w1.cell? ⟨w.heap.size, 4, none⟩ = some (.int .u64 (n : Int)) := (HK.out.below HB1.out HK.out.lt).cellAt 4 (show 4 < 6 by decide)
    have y5 : w1.cell? ⟨w.heap.size, 5, none⟩ = some (.int .u64 (bits : Int)) := (HK.out.below HB1.out HK.out.lt).cellAt 5 (show 5 < 6 by decide)
    go_wp2_with fail
    refine (HRK.out _).mono ?_
    rintro e w2 ⟨rfl, hb2⟩
    have HB2 : Hid (Below wb.heap.size wb w2) := HB1.out.trans (hb2.mono HB1.out.size)
    have HB12 := Lib.hid hb2
    clear y0 y1 y2 y3 y4 y5 hb2
    obtain ⟨cr, hcr⟩ : ∃ cr, checkR ⟨seq, kind, name, lease, n, bits⟩ = cr := ⟨_, rfl⟩
    rw [hcr] at HN1 HS1 HBY HDB ⊢
    clear hcr
    by_cases h0 : cr = 0
    · subst h0
      rw [if_pos rfl] at HN1 HS1
      have HBY2 := Lib.hid (HBY.out rfl HNS.out)
      have HDB2 := Lib.hid (HDB.out rfl)
      clear HBY HDB
      have hn6 : n1 ≤ 65536 := by rw [← HN1.out.out]; have := HLE.out; have := HNS.out; omega
      have HDC := Lib.hid (HD.out A1 n1 c1 _ w2 HN1.out hn6 HNC.out.1 HNC.out.2 ((HS1.out.below HB12.out (Nat.le_refl _)).more HB12.out.size) (HTB.out.under HB2.out))
      rw [HDB2.out] at HDC
      have HDC2 : Hid (Calls Tryd.prog 12 #[.slice A1 n1 c1] w2 fun e w' => e = .returned (.tuple #[.agg #[.int .u64 (seq : Int), .int .i64 kind, .string name, .int .u64 (lease : Int), .int .u64 (n : Int), .int .u64 (bits : Int)], .int .i64 0]) ∧ Below w2.heap.size w2 w') := HDC
      clear hn6 HDC
      go_wp2_with fail
      refine HDC2.out.mono ?_
      rintro e w3 ⟨rfl, hb3⟩
      have HB3 : Hid (Below wb.heap.size wb w3) := HB2.out.trans (hb3.mono HB2.out.size)
      have HB13 : Hid (Below w1.heap.size w1 w3) := HB12.out.trans (hb3.mono HB12.out.size)
      obtain ⟨wa, hwa⟩ : ∃ wa, w3.alloc (.cells #[.int .u64 0, .int .i64 0, .string ⟨#[]⟩, .int .u64 0, .int .u64 0, .int .u64 0] 24) = wa := ⟨_, rfl⟩
      have HKA : Hid (Bk wa w3.heap.size 24 [.int .u64 0, .int .i64 0, .string ⟨#[]⟩, .int .u64 0, .int .u64 0, .int .u64 0]) := by show Bk _ _ _ _; rw [← hwa]; exact Bk.new w3 _ _
      have HBA : Hid (Below w3.heap.size w3 wa) := by show Below _ _ _; rw [← hwa]; exact (Below.refl _ w3).alloc (Nat.le_refl _) _
      clear hb3
      go_wp2_with (first | (refine rec_store (by rfl) (.tmp 6) (.tmp 36) (by rfl) ⟨seq, kind, name, lease, n, bits⟩ (by rfl) HKA.out (by rfl) ?_; intro w4 hK4 hg4 hs4; have HK4 : Hid (Bk w4 w3.heap.size 24 [.int .u64 (seq : Int), .int .i64 kind, .string name, .int .u64 (lease : Int), .int .u64 (n : Int), .int .u64 (bits : Int)]) := Lib.hid hK4; have HB34 : Hid (Below w3.heap.size w3 w4) := under_own HBA.out hg4 (Nat.le_refl _); have HB4 : Hid (Below wb.heap.size wb w4) := HB3.out.trans (HB34.out.mono HB3.out.size); have HB14 : Hid (Below w1.heap.size w1 w4) := HB13.out.trans (HB34.out.mono HB13.out.size); have y0 : w4.cell? ⟨w.heap.size, 0, none⟩ = some (.int .u64 (seq : Int)) := (HK.out.below HB4.out HK.out.lt).cellAt 0 (show 0 < 6 by decide); have y1 : w4.cell? ⟨w.heap.size, 1, none⟩ = some (.int .i64 kind) := (HK.out.below HB4.out HK.out.lt).cellAt 1 (show 1 < 6 by decide); have y2 : w4.cell? ⟨w.heap.size, 2, none⟩ = some (.string name) := (HK.out.below HB4.out HK.out.lt).cellAt 2 (show 2 < 6 by decide); have y3 : w4.cell? ⟨w.heap.size, 3, none⟩ = some (.int .u64 (lease : Int)) := (HK.out.below HB4.out HK.out.lt).cellAt 3 (show 3 < 6 by decide); have y4 : w4.cell? ⟨w.heap.size, 4, none⟩ = some (.int .u64 (n : Int)) := (HK.out.below HB4.out HK.out.lt).cellAt 4 (show 4 < 6 by decide); have y5 : w4.cell? ⟨w.heap.size, 5, none⟩ = some (.int .u64 (bits : Int)) := (HK.out.below HB4.out HK.out.lt).cellAt 5 (show 5 < 6 by decide); clear hK4 hg4 hs4 hwa))
      refine (HBY2.out _).mono ?_
      rintro e w5 ⟨A5, n5, c5, rfl, hn5, -, h51, h52, hbs5, hb5⟩
      have HB5 : Hid (Below wb.heap.size wb w5) := HB4.out.trans (hb5.mono HB4.out.size)
      have HB15 : Hid (Below w1.heap.size w1 w5) := HB14.out.trans (hb5.mono HB14.out.size)
      have HK5 : Hid (Bk w5 w3.heap.size 24 [.int .u64 (seq : Int), .int .i64 kind, .string name, .int .u64 (lease : Int), .int .u64 (n : Int), .int .u64 (bits : Int)]) := HK4.out.below hb5 HK4.out.lt
      have HSA : Hid (Calls Tryd.prog 13 #[.slice A1 n1 c1, .slice A5 n5 c5] w5 fun e w' => e = .returned (.bool true) ∧ ∃ q, w' = w5.drewN q) := by
        have h := same_any A1 A5 n1 n5 c1 c5 _ _ w5.heap.size w5 HN1.out.out hn5.out ((HS1.out.below HB15.out (Nat.le_refl _)).more HB15.out.size) hbs5 (by have := HLE.out; have := HNS.out; unfold maxLen; omega) (by have := HLE.out; have := HNS.out; unfold maxLen; omega)
        rw [decide_eq_true rfl] at h
        exact h
      clear hbs5 hb5 hn5 h51 h52 y0 y1 y2 y3 y4 y5
      try go_wp2_with fail
      refine HSA.out.mono ?_
      rintro e w6 ⟨rfl, q6, hw6⟩
      have HB6 : Hid (Below wb.heap.size wb w6) := by show Below _ _ _; rw [hw6]; exact below_drewN HB5.out q6
      have HK6 : Hid (Bk w6 w3.heap.size 24 [.int .u64 (seq : Int), .int .i64 kind, .string name, .int .u64 (lease : Int), .int .u64 (n : Int), .int .u64 (bits : Int)]) := by show Bk _ _ _ _; rw [hw6]; exact HK5.out.drewN q6
      clear hw6
      have y0 : w6.cell? ⟨w.heap.size, 0, none⟩ = some (.int .u64 (seq : Int)) := (HK.out.below HB6.out HK.out.lt).cellAt 0 (show 0 < 6 by decide)
      have y1 : w6.cell? ⟨w.heap.size, 1, none⟩ = some (.int .i64 kind) := (HK.out.below HB6.out HK.out.lt).cellAt 1 (show 1 < 6 by decide)
      have y2 : w6.cell? ⟨w.heap.size, 2, none⟩ = some (.string name) := (HK.out.below HB6.out HK.out.lt).cellAt 2 (show 2 < 6 by decide)
      have y3 : w6.cell? ⟨w.heap.size, 3, none⟩ = some (.int .u64 (lease : Int)) := (HK.out.below HB6.out HK.out.lt).cellAt 3 (show 3 < 6 by decide)
      have y4 : w6.cell? ⟨w.heap.size, 4, none⟩ = some (.int .u64 (n : Int)) := (HK.out.below HB6.out HK.out.lt).cellAt 4 (show 4 < 6 by decide)
      have y5 : w6.cell? ⟨w.heap.size, 5, none⟩ = some (.int .u64 (bits : Int)) := (HK.out.below HB6.out HK.out.lt).cellAt 5 (show 5 < 6 by decide)
      have z0 : w6.cell? ⟨w3.heap.size, 0, none⟩ = some (.int .u64 (seq : Int)) := (HK6.out.below (Below.refl _ w6) HK6.out.lt).cellAt 0 (show 0 < 6 by decide)
      have z1 : w6.cell? ⟨w3.heap.size, 1, none⟩ = some (.int .i64 kind) := (HK6.out.below (Below.refl _ w6) HK6.out.lt).cellAt 1 (show 1 < 6 by decide)
      have z2 : w6.cell? ⟨w3.heap.size, 2, none⟩ = some (.string name) := (HK6.out.below (Below.refl _ w6) HK6.out.lt).cellAt 2 (show 2 < 6 by decide)
      have z3 : w6.cell? ⟨w3.heap.size, 3, none⟩ = some (.int .u64 (lease : Int)) := (HK6.out.below (Below.refl _ w6) HK6.out.lt).cellAt 3 (show 3 < 6 by decide)
      have z4 : w6.cell? ⟨w3.heap.size, 4, none⟩ = some (.int .u64 (n : Int)) := (HK6.out.below (Below.refl _ w6) HK6.out.lt).cellAt 4 (show 4 < 6 by decide)
      have z5 : w6.cell? ⟨w3.heap.size, 5, none⟩ = some (.int .u64 (bits : Int)) := (HK6.out.below (Below.refl _ w6) HK6.out.lt).cellAt 5 (show 5 < 6 by decide)
      have s1 : (name.toList == name.toList) = true := by simp
      go_wp2_with fail
      refine (HAW.out _ HB6.out).mono ?_
      rintro e w7 ⟨rfl, hb7⟩
      go_wp2_with fail
      go_ret
      exact ⟨rfl, HBB.out.trans ((HB6.out.trans (hb7.mono HB6.out.size)).mono HBB.out.size)⟩
    · rw [if_neg h0] at HN1 HS1
      obtain rfl : 0 = n1 := HN1.out.out
      have g0 : (cr != 0) = true := by simpa using h0
      have g1 : (cr == cr) = true := by simp
      clear h0
      go_wp2_with fail
      refine (HAW.out _ HB2.out).mono ?_
      rintro e w7 ⟨rfl, hb7⟩
      go_wp2_with fail
      go_ret
      exact ⟨rfl, HBB.out.trans ((HB2.out.trans (hb7.mono HB2.out.size)).mono HBB.out.size)⟩
end Go.Proofs.YtolpggmcjengcaaDoor
