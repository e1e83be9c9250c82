/-
  sha.Sum.
-/
import Derived.Test.YtfcffafmcihamaaDoorSha9
import Derived.Test.YtfcffafmcihamaaDoorSha4
import Derived.Test.YtfcffafmcihamaaDoorConcat
import Derived.Deep.RegionHeld3
import Derived.Deep.DeepCutAuto
namespace Go.Proofs.YtfcffafmcihamaaDoor
open Go.RowKit
set_option linter.unusedVariables false

theorem bcell {W w1 : World} (hb : Below W.heap.size W w1) : (∀ b o, b < W.heap.size → w1.cell? ⟨b, o, none⟩ = W.cell? ⟨b, o, none⟩) ∧ (∀ b o, b < W.heap.size → w1.frozen? ⟨b, o, none⟩ = W.frozen? ⟨b, o, none⟩) :=
  ⟨fun b o h => hb.cell (p := ⟨b, o, none⟩) h, fun b o h => hb.frozen (p := ⟨b, o, none⟩) h⟩

/-- slices.Concat of two slices that lie in a new block. -/
theorem cat2 (A1 A2 : Option Addr) (n1 n2 c1 c2 : Nat) (l1 l2 : List UInt8) (w : World) (h1 : Hid (l1.length = n1)) (h2 : Hid (l2.length = n2)) (hb1 : Bs w w.heap.size A1 l1) (hb2 : Bs w w.heap.size A2 l2) (hs : n1 + n2 ≤ 1099511627776) (T : TypeId) :
    Calls Tryd.prog 15 #[.slice (some ⟨w.heap.size, 0, none⟩) 2 2] (w.alloc (.cells #[.slice A1 n1 c1, .slice A2 n2 c2] T)) (RetO 5 (l1 ++ l2) w) := by
  obtain rfl : l1.length = n1 := h1.out
  obtain rfl : l2.length = n2 := h2.out
  have hb : Below w.heap.size w (w.alloc (.cells #[.slice A1 l1.length c1, .slice A2 l2.length c2] T)) := (Below.refl _ w).alloc (Nat.le_refl _) _
  have hh := concat_any (some ⟨w.heap.size, 0, none⟩) 2 2 [(A1, c1, l1), (A2, c2, l2)] _ rfl (Vs.more (Vs.new w #[.slice A1 l1.length c1, .slice A2 l2.length c2] T (0, 0) _ rfl) (by simp))
    (fun s hs => by
      simp at hs
      rcases hs with rfl | rfl
      · exact (hb1.below hb (Nat.le_refl _)).more hb.size
      · exact (hb2.below hb (Nat.le_refl _)).more hb.size)
    (by omega) (by simp [cat]; omega)
  refine hh.mono fun e w' hr => ?_
  have := RetO.since hb hr
  simpa [cat] using this

theorem through_lit (x0 x1 x2 x3 x4 x5 x6 x7 : Nat) (A : Option Addr) (n c : Nat) (l : List UInt8) (w : World) (hs : St [x0, x1, x2, x3, x4, x5, x6, x7]) (hn : Hid (l.length = n)) (hnc : n ≤ c) (hc : c ≤ 9223372036854775807) (hL : Bs w w.heap.size A l) (hK : Kons w) :
    Calls Tryd.prog 22 #[.agg #[.int .u32 (x0 : Int), .int .u32 (x1 : Int), .int .u32 (x2 : Int), .int .u32 (x3 : Int), .int .u32 (x4 : Int), .int .u32 (x5 : Int), .int .u32 (x6 : Int), .int .u32 (x7 : Int)], .slice A n c] w (RetA (sv8 (blks [x0, x1, x2, x3, x4, x5, x6, x7] l (n / 64))) w) := through_any [x0, x1, x2, x3, x4, x5, x6, x7] A n c l w hs hn hnc hc hL hK

set_option maxHeartbeats 4000000 in
theorem sum_any (A : Option Addr) (n c : Nat) (l : List UInt8) (w : World) (hn : Hid (l.length = n)) (hnc : n ≤ c) (hc : c ≤ 9223372036854775807) (hL : Bs w w.heap.size A l) (hK : Kons w) (hs : n ≤ 1099511627000) :
    Calls Tryd.prog 14 #[.slice A n c] w (RetA (.agg ((shaN l).map bv).toArray) w) := by
  obtain ⟨q, hq⟩ : ∃ q, q = n / 64 := ⟨_, rfl⟩
  obtain ⟨m, hm⟩ : ∃ m, m = 64 * q := ⟨_, rfl⟩
  have hmn : m ≤ n := by omega
  have hw2 : (n : Int) - (n : Int) % 64 = (m : Int) := by omega
  have hw1 : 64 * ((n : Int) / 64) = (m : Int) := by omega
  have HW1 := Lib.hid hw1
  have HW2 := Lib.hid hw2
  clear hw1 hw2
  have hst0 := st_iv
  have hst := st_iv.blks (l.take m) q
  obtain ⟨L, hx⟩ : ∃ L, blks iv (l.take m) q = L := ⟨_, rfl⟩
  have HX := Lib.hid hx
  have hLl : L.length = 8 := by rw [← hx]; exact hst.1
  have HLm : Hid ((L.map uv).length = 8) := by show _ = _; rw [List.length_map]; exact hLl
  have HL1 := Lib.hid (uv_one L)
  have HST := Lib.hid hst
  have HLT : Hid ((l.take m).length = m) := by show _ = _; rw [List.length_take, hn.out]; omega
  have hmc : m ≤ c := by omega
  have hs1 := fun w => slice_to u8E w A n c m hmc
  have htk : Bs w w.heap.size A (l.take m) := hL.take m
  have HQ : Hid (m / 64 = q) := by show _ = _; omega
  have hm9 : m ≤ 9223372036854775807 := by omega
  have HM := Lib.hid hm
  have HQN := Lib.hid hq
  clear hx hst hm hq
  go_enter Tryd.func14, Tryd.ntmps14
  go_upto_region 2 with fail
  try rw [HW1.out]
  try rw [HW2.out]
  obtain ⟨W0, hW⟩ : ∃ W0, W0 = w.alloc (.cells #[.int .u8 0, .int .u8 0, .int .u8 0, .int .u8 0, .int .u8 0, .int .u8 0, .int .u8 0, .int .u8 0, .int .u8 0, .int .u8 0, .int .u8 0, .int .u8 0, .int .u8 0, .int .u8 0, .int .u8 0, .int .u8 0, .int .u8 0, .int .u8 0, .int .u8 0, .int .u8 0, .int .u8 0, .int .u8 0, .int .u8 0, .int .u8 0, .int .u8 0, .int .u8 0, .int .u8 0, .int .u8 0, .int .u8 0, .int .u8 0, .int .u8 0, .int .u8 0] 24) := ⟨_, rfl⟩
  have hV : Bk W0 w.heap.size 24 (List.replicate 32 zb) := by rw [hW]; exact Bk.newL _ _ _ _ rfl
  have hb : Below w.heap.size w W0 := by rw [hW]; exact (Below.refl _ _).alloc (Nat.le_refl _) _
  have hsz : W0.heap.size = w.heap.size + 1 := by rw [hW]; simp
  rw [← hW]
  have HSZ := Lib.hid hsz
  clear hW hsz
  have htk0 : Bs W0 w.heap.size A (l.take m) := htk.below hb (Nat.le_refl _)
  have hK0 := hK.below hb
  have hbz : w.heap.size ≤ W0.heap.size := hb.size
  go_cut [4] (fun s4 wx => ∃ g : Nat, s4 = .pointer (some ⟨g, 0, none⟩) ∧ W0.heap.size ≤ g ∧ Bk wx g 38 (L.map uv) ∧ Below W0.heap.size W0 wx)
  case first =>
    go_region_held3 (fun W => Below W0.heap.size W0 W) (first | assumption | exact below_drewN (Below.refl _ _) 1 | exact Below.refl _ _ | (exact Below.alloc (below_drewN (Below.refl _ _) 1) (Nat.le_refl _) _) | (exact Below.alloc (by assumption) (by first | assumption | exact Below.size (by assumption)) _) | (refine below_row (by assumption) ?_ _; first | exact Nat.le_refl _ | exact hb1.size)) (first
      | (go_at_call 23; (with_reducible refine (start_any _).mono ?_); rintro e w1 ⟨rfl, hb1⟩; (first
          | (have hb1 : Below W0.heap.size W0 w1 := (below_drewN (Below.refl _ _) 1).trans hb1)
          | (have hB1 : Bk w1 W0.heap.size 38 [.int .u32 0, .int .u32 0, .int .u32 0, .int .u32 0, .int .u32 0, .int .u32 0, .int .u32 0, .int .u32 0] := (Bk.new' W0.drew _ _ _ _ rfl rfl).below hb1 (by simp); have hb1 : Below W0.heap.size W0 w1 := (Below.alloc (below_drewN (Below.refl _ _) 1) (Nat.le_refl _) _).trans (hb1.mono (by simp)))))
      | (go_at_call 22; (with_reducible refine (through_any iv A m c (l.take m) _ hst0 HLT hmc hc ?_ ?_).mono ?_); exact (htk0.below hb1 hbz).more (Nat.le_trans hbz hb1.size); exact hK0.below hb1; rintro e w2 ⟨rfl, hb2⟩; have hB := hB1.below hb2 hB1.lt; have hst := run_storeCells_blk (P := Tryd.prog) hB (L.map uv) HLm.out HL1.out; have hb2 : Below W0.heap.size W0 w2 := hb1.trans (hb2.mono hb1.size); rw [HQ.out, sv8, HX.out])
      | (go_at_call 22; (with_reducible refine (through_any iv A m c (l.take m) _ hst0 HLT hmc hc ?_ ?_).mono ?_); exact (htk0.below hb1 hbz).more (Nat.le_trans hbz hb1.size); exact hK0.below hb1; rintro e w2 ⟨rfl, hb2⟩; have hst := run_storeCells_last (P := Tryd.prog) w2 #[.int .u32 0, .int .u32 0, .int .u32 0, .int .u32 0, .int .u32 0, .int .u32 0, .int .u32 0, .int .u32 0] 38 (L.map uv) HLm.out HL1.out; have hb2 : Below W0.heap.size W0 w2 := hb1.trans (hb2.mono hb1.size); rw [HQ.out, sv8, HX.out])
      | (go_at_call 22; (with_reducible refine (through_any iv A m c (l.take m) _ hst0 HLT hmc hc ?_ ?_).mono ?_); exact Bs.more (Bs.alloc (htk0.below hb1 hbz) (Nat.le_trans hbz hb1.size) _) (Nat.le_trans hbz (hb1.alloc hb1.size _).size); exact hK0.below (hb1.alloc hb1.size _); rintro e w2 ⟨rfl, hb2⟩; have hB : Bk w2 w1.heap.size 38 [.int .u32 0, .int .u32 0, .int .u32 0, .int .u32 0, .int .u32 0, .int .u32 0, .int .u32 0, .int .u32 0] := (Bk.new' w1 _ _ _ _ rfl rfl).below hb2 (by simp); have hst := run_storeCells_blk (P := Tryd.prog) hB (L.map uv) HLm.out HL1.out; have hb2 : Below W0.heap.size W0 w2 := (hb1.alloc hb1.size _).trans (hb2.mono (hb1.alloc hb1.size _).size); rw [HQ.out, sv8, HX.out]))
    all_goals (go_wp2_with fail; go_meet)
    · exact ⟨w2.heap.size, rfl, hb2.size, Bk.newL _ _ _ _ rfl, hb2.alloc hb2.size _⟩
    · exact ⟨w1.heap.size, rfl, hb1.size, by have := hB.row (L.map uv).toArray; rwa [List.toList_toArray] at this, below_row hb2 hb1.size _⟩
    · exact ⟨W0.heap.size, rfl, Nat.le_refl _, by have := hB.row (L.map uv).toArray; rwa [List.toList_toArray] at this, below_row hb2 (Nat.le_refl _) _⟩
  case rest =>
    obtain ⟨g, rfl, hg, hS, hb1⟩ := hcut
    have hgz := hS.lt
    have hst2 : St L := by rw [← HX.out]; exact HST.out
    have hgw : some g ≠ some w.heap.size := by simp; have := HSZ.out; omega
    obtain ⟨x0, x1, x2, x3, x4, x5, x6, x7, hx, -⟩ := hst2.form
    rw [hx] at HX hS hst2
    clear hx hLl HLm HL1
    have k0 : ∀ W : World, wc.grownBy W (some w.heap.size) → W.cell? ⟨g, 0, none⟩ = some (.int .u32 (x0 : Int)) := fun W hW => (hS.grown hW hgw).cell 0
    have k1 : ∀ W : World, wc.grownBy W (some w.heap.size) → W.cell? ⟨g, 1, none⟩ = some (.int .u32 (x1 : Int)) := fun W hW => (hS.grown hW hgw).cell 1
    have k2 : ∀ W : World, wc.grownBy W (some w.heap.size) → W.cell? ⟨g, 2, none⟩ = some (.int .u32 (x2 : Int)) := fun W hW => (hS.grown hW hgw).cell 2
    have k3 : ∀ W : World, wc.grownBy W (some w.heap.size) → W.cell? ⟨g, 3, none⟩ = some (.int .u32 (x3 : Int)) := fun W hW => (hS.grown hW hgw).cell 3
    have k4 : ∀ W : World, wc.grownBy W (some w.heap.size) → W.cell? ⟨g, 4, none⟩ = some (.int .u32 (x4 : Int)) := fun W hW => (hS.grown hW hgw).cell 4
    have k5 : ∀ W : World, wc.grownBy W (some w.heap.size) → W.cell? ⟨g, 5, none⟩ = some (.int .u32 (x5 : Int)) := fun W hW => (hS.grown hW hgw).cell 5
    have k6 : ∀ W : World, wc.grownBy W (some w.heap.size) → W.cell? ⟨g, 6, none⟩ = some (.int .u32 (x6 : Int)) := fun W hW => (hS.grown hW hgw).cell 6
    have k7 : ∀ W : World, wc.grownBy W (some w.heap.size) → W.cell? ⟨g, 7, none⟩ = some (.int .u32 (x7 : Int)) := fun W hW => (hS.grown hW hgw).cell 7
    have hV1 := hV.below hb1 (by have := HSZ.out; omega)
    have hK1 := hK0.below hb1
    have htd : Bs wc wc.heap.size A l := ((hL.below hb (Nat.le_refl _)).below hb1 hbz).more (Nat.le_trans hbz hb1.size)
    obtain ⟨A', hsl, hBA⟩ := slice_fromE u8E A n c m (m : Int) rfl hmn hnc
    have hdr : Bs wc wc.heap.size A' (l.drop m) := hBA wc wc.heap.size l hn.out htd
    have HD : Hid ((l.drop m).length = n - m) := by show _ = _; rw [List.length_drop, hn.out]
    clear hS hBA htd htk0 hs1
    have hnn : n ≤ 1152921504606846976 := by omega
    have HP := Lib.hid (padB_length n)
    have hz := zerosN_lt n
    have HF : Hid (shaN l = digB (blks [x0, x1, x2, x3, x4, x5, x6, x7] (l.drop m ++ padB n) ((n - m + 9 + zerosN n) / 64))) := by
      show _ = _
      have h := sha_two l q (by rw [hn.out]; exact HQN.out)
      rw [hn.out, ← HM.out, HX.out] at h
      exact h
    have HC : Hid ((l.drop m ++ padB n).length = n - m + 9 + zerosN n) := by show _ = _; rw [List.length_append, HD.out, HP.out]; omega
    have hstF := hst2.blks (l.drop m ++ padB n) ((n - m + 9 + zerosN n) / 64)
    have HO1 := Lib.hid (bv_one (shaN l))
    have HO2 : Hid (((shaN l).map bv).length = 32) := by show _ = _; rw [List.length_map]; exact shaN_length l
    have hnm : n - m ≤ 64 := by have := HM.out; have := HQN.out; omega
    go_wp2_with fail
    have hi32 : (Tryd.prog.info? 24).map (·.size) = some 32 := by32.size
    go_region_held3 (fun W => wc.grownBy W (some w.heap.size)) (first | assumption | exact gof (below_drewN (Below.refl _ _) 1) _ | exact gof (Below.refl _ _) _ | exact gof (by assumption) _ | exact gof (hb3.alloc hb3.size _) _) (first
      | (go_at_call 25; (with_reducible refine (pad_any n _ hnn).mono ?_); rintro e w3 ⟨A3, n3, c3, rfl, hn3, hnc3, hc3, hv3, hb3⟩; have hb3 : Below wc.heap.size wc w3 := (below_drewN (Below.refl _ _) 1).trans hb3)
      | (go_at_call 15; (with_reducible refine (cat2 A' A3 (n - m) n3 (c - m) c3 (l.drop m) (padB n) w3 HD hn3 ?_ hv3 ?_ _).mono ?_); exact (hdr.below hb3 (Nat.le_refl _)).more hb3.size; exact (by have := hn3.out; have := HP.out; omega); rintro e w4 ⟨A4, n4, c4, rfl, hn4, -, hnc4, hc4, hv4, hb4⟩; have hb4 : Below wc.heap.size wc w4 := hb3.trans (hb4.mono hb3.size))
      | (go_at_call 22; (with_reducible refine (through_lit x0 x1 x2 x3 x4 x5 x6 x7 A4 n4 c4 (l.drop m ++ padB n) _ hst2 hn4 hnc4 ?_ hv4 ?_).mono ?_); exact (by unfold maxLen at hc4; omega); exact hK1.below hb4; rintro e w5 ⟨rfl, hb5⟩; have hb5 : Below wc.heap.size wc w5 := hb4.trans (hb5.mono hb4.size); rw [show n4 / 64 = (n - m + 9 + zerosN n) / 64 by rw [← hn4.out, HC.out]])
      | (go_at_call 24; (with_reducible refine (digest_any _ _ hstF).mono ?_); rintro e w6 ⟨rfl, hb6⟩; have hb6 : Below wc.heap.size wc w6 := hb5.trans (hb6.mono hb5.size); rw [← HF.out]; have hV6 := hV1.below hb6 hV1.lt; have hth := hV6.there 32 (by rfl); have hO1 := HO1.out; have hO2 := HO2.out; have HSR := Lib.hid (by32.setCells hV6 (by rfl) ((shaN l).map bv) HO2.out HO1.out); have hfin : wc.grownBy (w6.setCells w.heap.size 0 ((shaN l).map bv)) (some w.heap.size) := by rw [HSR.out]; exact (gof hb6 _).trans (grown_row _ _ _)))
    rw [HSR.out]
    go_wp2_with fail
    exact bodyPost_ret (by32.result rfl _ (hV6.row _) (by rw [List.toList_toArray]; exact HO2.out) rfl) rfl ⟨by rw [List.toList_toArray], below_row (hb.trans ((hb1.trans (hb6.mono hb1.size)).mono hbz)) (Nat.le_refl _) _⟩
end Go.Proofs.YtfcffafmcihamaaDoor
