/-
  hmac.Tag, hmac.Check.
-/
import Derived.Test.YtfcffafmcihamaaDoorHmac
namespace Go.Proofs.YtfcffafmcihamaaDoor
open Go.RowKit
set_option linter.unusedVariables false

theorem pad36 (g : Nat) (k : List UInt8) (w : World) (hg : Bk w g 41 ((key64 k).map bv)) :
    Calls Tryd.prog 21 #[.int .u8 54, .pointer (some ⟨g, 0, none⟩)] w (RetB (padK 0x36 k) w) := pad_fn_any 0x36 g (key64 k) w (Lib.hid (key64_length k)) hg
theorem pad5c (g : Nat) (k : List UInt8) (w : World) (hg : Bk w g 41 ((key64 k).map bv)) :
    Calls Tryd.prog 21 #[.int .u8 92, .pointer (some ⟨g, 0, none⟩)] w (RetB (padK 0x5c k) w) := pad_fn_any 0x5c g (key64 k) w (Lib.hid (key64_length k)) hg

set_option maxHeartbeats 4000000 in
/-- hmac.Tag. -/
theorem tag_any (A1 A2 : Option Addr) (n1 n2 c1 c2 : Nat) (k b : List UInt8) (w : World) (hn1 : Hid (k.length = n1)) (hn2 : Hid (b.length = n2)) (hnc1 : n1 ≤ c1) (hc1 : c1 ≤ 9223372036854775807) (hL1 : Bs w w.heap.size A1 k) (hL2 : Bs w w.heap.size A2 b)
    (hK : Kons w) (hs1 : n1 ≤ 1099511627000) (hs2 : n2 ≤ 1099511620000) :
    Calls Tryd.prog 7 #[.slice A1 n1 c1, .slice A2 n2 c2] w (RetA (.agg ((tagN k b).map bv).toArray) w) := by
  obtain ⟨W0, hW⟩ : ∃ W0, W0 = w.alloc (.cells #[.int .u8 0, .int .u8 0, .int .u8 0, .int .u8 0, .int .u8 0, .int .u8 0, .int .u8 0, .int .u8 0, .int .u8 0, .int .u8 0, .int .u8 0, .int .u8 0, .int .u8 0, .int .u8 0, .int .u8 0, .int .u8 0, .int .u8 0, .int .u8 0, .int .u8 0, .int .u8 0, .int .u8 0, .int .u8 0, .int .u8 0, .int .u8 0, .int .u8 0, .int .u8 0, .int .u8 0, .int .u8 0, .int .u8 0, .int .u8 0, .int .u8 0, .int .u8 0] 24) := ⟨_, rfl⟩
  have hR : Bk W0 w.heap.size 24 (List.replicate 32 zb) := by rw [hW]; exact Bk.newL _ _ _ _ rfl
  have hb : Below w.heap.size w W0 := by rw [hW]; exact (Below.refl _ _).alloc (Nat.le_refl _) _
  have hsz : W0.heap.size = w.heap.size + 1 := by rw [hW]; simp
  have HSZ := Lib.hid hsz
  clear hsz
  go_enter Tryd.func7, Tryd.ntmps7
  go_wp2_with fail
  rw [← hW]
  clear hW
  refine (pads_any A1 n1 c1 k W0 hn1 hnc1 hc1 ((hL1.below hb (Nat.le_refl _)).more hb.size) (hK.below hb) hs1).mono ?_
  rintro e w1 ⟨g, rfl, hg, hB, hb1⟩
  replace hR := hR.below hb1 (by have := HSZ.out; omega)
  have hg1 : w.heap.size + 1 ≤ g := by have := HSZ.out; omega
  replace hb := hb.trans (hb1.mono hb.size)
  clear hb1 hg HSZ
  go_wp2_with fail
  refine (pad36 g k w1 hB).mono ?_
  rintro e w2 ⟨Ap, np, cp, rfl, hnp, -, -, hvp, hb2⟩
  obtain rfl : np = 64 := by rw [← hnp.out]; exact padK_length _ _
  replace hR := hR.below hb2 hR.lt
  replace hB := hB.below hb2 hB.lt
  replace hb := hb.trans (hb2.mono hb.size)
  clear hb2
  have hL2' : Bs w2 w2.heap.size A2 b := (hL2.below hb (Nat.le_refl _)).more hb.size
  go_wp2_with fail
  refine (cat2 Ap A2 64 n2 cp c2 (padK 0x36 k) b w2 hnp hn2 hvp hL2' (by omega) _).mono ?_
  rintro e w3 ⟨A3, n3, c3, rfl, hn3, -, hnc3, hc3, hv3, hb3⟩
  replace hR := hR.below hb3 hR.lt
  replace hB := hB.below hb3 hB.lt
  replace hb := hb.trans (hb3.mono hb.size)
  have hn3' : n3 ≤ 1099511627000 := by rw [← hn3.out, List.length_append, hnp.out, hn2.out]; omega
  clear hb3 hL2' hvp
  go_wp2_with fail
  refine (sum_any A3 n3 c3 (padK 0x36 k ++ b) w3 hn3 hnc3 (by unfold maxLen at hc3; omega) hv3 (hK.below hb) hn3').mono ?_
  rintro e w4 ⟨rfl, hb4⟩
  replace hR := hR.below hb4 hR.lt
  replace hB := hB.below hb4 hB.lt
  replace hb := hb.trans (hb4.mono hb.size)
  clear hb4 hv3 hn3'
  have HO1 := Lib.hid (bv_one (shaN (padK 0x36 k ++ b)))
  have HO2 : Hid (((shaN (padK 0x36 k ++ b)).map bv).length = 32) := by show _ = _; rw [List.length_map]; exact shaN_length _
  go_wp2_with (refine by32.wpStore (by rfl) (.tmp 6) (.tmp 14) (by rfl) (by rfl) (Bk.new w4 _ _) (by rfl) ((shaN (padK 0x36 k ++ b)).map bv) (by rfl) HO2.out HO1.out ?_)
  obtain ⟨I, hI⟩ : ∃ I, shaN (padK 0x36 k ++ b) = I := ⟨_, rfl⟩
  have HT : Hid (tagN k b = shaN (padK 0x5c k ++ I)) := by show _ = _; rw [← hI]; rfl
  obtain ⟨W, hW⟩ : ∃ W, W = (w4.alloc (.cells #[.int .u8 0, .int .u8 0, .int .u8 0, .int .u8 0, .int .u8 0, .int .u8 0, .int .u8 0, .int .u8 0, .int .u8 0, .int .u8 0, .int .u8 0, .int .u8 0, .int .u8 0, .int .u8 0, .int .u8 0, .int .u8 0, .int .u8 0, .int .u8 0, .int .u8 0, .int .u8 0, .int .u8 0, .int .u8 0, .int .u8 0, .int .u8 0, .int .u8 0, .int .u8 0, .int .u8 0, .int .u8 0, .int .u8 0, .int .u8 0, .int .u8 0, .int .u8 0] 24)).setRow w4.heap.size ((shaN (padK 0x36 k ++ b)).map bv).toArray := ⟨_, rfl⟩
  have hD : Bk W w4.heap.size 24 (I.map bv) := by
    rw [hW, ← hI]
    have := (Bk.new w4 #[.int .u8 0, .int .u8 0, .int .u8 0, .int .u8 0, .int .u8 0, .int .u8 0, .int .u8 0, .int .u8 0, .int .u8 0, .int .u8 0, .int .u8 0, .int .u8 0, .int .u8 0, .int .u8 0, .int .u8 0, .int .u8 0, .int .u8 0, .int .u8 0, .int .u8 0, .int .u8 0, .int .u8 0, .int .u8 0, .int .u8 0, .int .u8 0, .int .u8 0, .int .u8 0, .int .u8 0, .int .u8 0, .int .u8 0, .int .u8 0, .int .u8 0, .int .u8 0] 24).row ((shaN (padK 0x36 k ++ b)).map bv).toArray
    rwa [List.toList_toArray] at this
  have hbW : Below w4.heap.size w4 W := by rw [hW]; exact below_row ((Below.refl _ _).alloc (Nat.le_refl _) _) (Nat.le_refl _) _
  have hRW := hR.below hbW hR.lt
  have hBW := hB.below hbW hB.lt
  have hb' := hb.trans (hbW.mono hb.size)
  have HIL : Hid (I.length = 32) := by show _ = _; rw [← hI]; exact shaN_length _
  have hvi : Bs W W.heap.size (some ⟨w4.heap.size, 0, none⟩) I := by
    have := hD.part 0 32
    rwa [List.drop_zero, List.take_of_length_le (by rw [List.length_map, HIL.out]; omega)] at this
  rw [← hW]
  rw [hI]
  obtain ⟨d, hd⟩ : ∃ d, w4.heap.size = d := ⟨_, rfl⟩
  rw [hd] at hvi hD ⊢
  have hKW := hK.below hb'
  clear hd hW hI hR hB hb hbW HO1 HO2 hn3 hnp
  have HO1 := Lib.hid (bv_one (tagN k b))
  have HO2 : Hid (((tagN k b).map bv).length = 32) := by show _ = _; rw [List.length_map]; exact tagN_length k b
  go_wp2_with fail
  have hi32 : (Tryd.prog.info? 24).map (·.size) = some 32 := by32.size
  go_region_held3 (fun V => W.grownBy V (some w.heap.size)) (first | assumption | exact gof (below_drewN (Below.refl _ _) 1) _ | exact gof (Below.refl _ _) _ | exact gof (by assumption) _ | exact gof (hb6.alloc hb6.size _) _) (first
    | (go_at_call 21; (with_reducible refine (pad5c g k _ ?_).mono ?_); exact hBW; rintro e w6 ⟨Ao, no, co, rfl, hno, -, -, hvo, hb6⟩; have hb6 : Below W.heap.size W w6 := (below_drewN (Below.refl _ _) 1).trans hb6; obtain rfl : no = 64 := by rw [← hno.out]; exact padK_length _ _)
    | (go_at_call 15; (with_reducible refine (cat2 Ao (some ⟨d, 0, none⟩) 64 32 co 32 (padK 0x5c k) I w6 hno HIL hvo ?_ ?_ _).mono ?_); exact (hvi.below hb6 (Nat.le_refl _)).more hb6.size; omega; rintro e w7 ⟨A7, n7, c7, rfl, hn7, -, hnc7, hc7, hv7, hb7⟩; have hb7 : Below W.heap.size W w7 := hb6.trans (hb7.mono hb6.size); obtain rfl : n7 = 96 := by rw [← hn7.out, List.length_append, hno.out, HIL.out])
    | (go_at_call 14; (with_reducible refine (sum_any A7 96 c7 (padK 0x5c k ++ I) _ hn7 hnc7 ?_ hv7 ?_ ?_).mono ?_); exact (by unfold maxLen at hc7; omega); exact hKW.below hb7; omega; rintro e w8 ⟨rfl, hb8⟩; have hb8 : Below W.heap.size W w8 := hb7.trans (hb8.mono hb7.size); rw [← HT.out]; have hV8 := hRW.below hb8 hRW.lt; have hth := hV8.there 32 (by rfl); have hO1 := HO1.out; have hO2 := HO2.out; have HSR := Lib.hid (by32.setCells hV8 (by rfl) ((tagN k b).map bv) HO2.out HO1.out); have hfin : W.grownBy (w8.setCells w.heap.size 0 ((tagN k b).map bv)) (some w.heap.size) := by rw [HSR.out]; exact (gof hb8 _).trans (grown_row _ _ _)))
  rw [HSR.out]
  go_wp2_with fail
  exact bodyPost_ret (by32.result rfl _ (hV8.row _) (by rw [List.toList_toArray]; exact HO2.out) rfl) rfl ⟨by rw [List.toList_toArray], below_row (hb'.trans (hb8.mono hb'.size)) (Nat.le_refl _) _⟩

set_option maxHeartbeats 1600000 in
/-- hmac.Check. -/
theorem check_any (A1 A2 A3 : Option Addr) (n1 n2 n3 c1 c2 c3 : Nat) (k b t : List UInt8) (w : World) (hn1 : Hid (k.length = n1)) (hn2 : Hid (b.length = n2)) (hn3 : Hid (t.length = n3)) (hnc1 : n1 ≤ c1) (hc1 : c1 ≤ 9223372036854775807) (hL1 : Bs w w.heap.size A1 k) (hL2 : Bs w w.heap.size A2 b) (hL3 : Bs w w.heap.size A3 t)
    (hK : Kons w) (hs1 : n1 ≤ 1099511627000) (hs2 : n2 ≤ 1099511620000) (hs3 : n3 ≤ maxLen) :
    Calls Tryd.prog 10 #[.slice A1 n1 c1, .slice A2 n2 c2, .slice A3 n3 c3] w fun e w' => e = .returned (.bool (decide (tagN k b = t))) ∧ Below w.heap.size w w' := by
  have HO1 := Lib.hid (bv_one (tagN k b))
  have HO2 : Hid (((tagN k b).map bv).length = 32) := by show _ = _; rw [List.length_map]; exact tagN_length k b
  have HTL : Hid ((tagN k b).length = 32) := Lib.hid (tagN_length k b)
  go_enter Tryd.func10, Tryd.ntmps10
  go_wp2_with fail
  refine (tag_any A1 A2 n1 n2 c1 c2 k b w hn1 hn2 hnc1 hc1 hL1 hL2 hK hs1 hs2).mono ?_
  rintro e w1 ⟨rfl, hb1⟩
  obtain ⟨T, hT⟩ : ∃ T, tagN k b = T := ⟨_, rfl⟩
  rw [hT] at HO1 HO2 HTL ⊢
  have hL3' := (hL3.below hb1 (Nat.le_refl _)).more hb1.size
  have hD : Bs ((w1.alloc (.cells #[.int .u8 0, .int .u8 0, .int .u8 0, .int .u8 0, .int .u8 0, .int .u8 0, .int .u8 0, .int .u8 0, .int .u8 0, .int .u8 0, .int .u8 0, .int .u8 0, .int .u8 0, .int .u8 0, .int .u8 0, .int .u8 0, .int .u8 0, .int .u8 0, .int .u8 0, .int .u8 0, .int .u8 0, .int .u8 0, .int .u8 0, .int .u8 0, .int .u8 0, .int .u8 0, .int .u8 0, .int .u8 0, .int .u8 0, .int .u8 0, .int .u8 0, .int .u8 0] 24)).setRow w1.heap.size (T.map bv).toArray) ((w1.alloc (.cells #[.int .u8 0, .int .u8 0, .int .u8 0, .int .u8 0, .int .u8 0, .int .u8 0, .int .u8 0, .int .u8 0, .int .u8 0, .int .u8 0, .int .u8 0, .int .u8 0, .int .u8 0, .int .u8 0, .int .u8 0, .int .u8 0, .int .u8 0, .int .u8 0, .int .u8 0, .int .u8 0, .int .u8 0, .int .u8 0, .int .u8 0, .int .u8 0, .int .u8 0, .int .u8 0, .int .u8 0, .int .u8 0, .int .u8 0, .int .u8 0, .int .u8 0, .int .u8 0] 24)).setRow w1.heap.size (T.map bv).toArray).heap.size (some ⟨w1.heap.size, 0, none⟩) T := by
    have := (Bk.new w1 #[.int .u8 0, .int .u8 0, .int .u8 0, .int .u8 0, .int .u8 0, .int .u8 0, .int .u8 0, .int .u8 0, .int .u8 0, .int .u8 0, .int .u8 0, .int .u8 0, .int .u8 0, .int .u8 0, .int .u8 0, .int .u8 0, .int .u8 0, .int .u8 0, .int .u8 0, .int .u8 0, .int .u8 0, .int .u8 0, .int .u8 0, .int .u8 0, .int .u8 0, .int .u8 0, .int .u8 0, .int .u8 0, .int .u8 0, .int .u8 0, .int .u8 0, .int .u8 0] 24).row (T.map bv).toArray
    rw [List.toList_toArray] at this
    have := this.part 0 32
    rwa [List.drop_zero, List.take_of_length_le (by rw [List.length_map, HTL.out]; omega)] at this
  have hb2 : Below w1.heap.size w1 ((w1.alloc (.cells #[.int .u8 0, .int .u8 0, .int .u8 0, .int .u8 0, .int .u8 0, .int .u8 0, .int .u8 0, .int .u8 0, .int .u8 0, .int .u8 0, .int .u8 0, .int .u8 0, .int .u8 0, .int .u8 0, .int .u8 0, .int .u8 0, .int .u8 0, .int .u8 0, .int .u8 0, .int .u8 0, .int .u8 0, .int .u8 0, .int .u8 0, .int .u8 0, .int .u8 0, .int .u8 0, .int .u8 0, .int .u8 0, .int .u8 0, .int .u8 0, .int .u8 0, .int .u8 0] 24)).setRow w1.heap.size (T.map bv).toArray) := below_row ((Below.refl _ _).alloc (Nat.le_refl _) _) (Nat.le_refl _) _
  have hb3 := hb1.trans (hb2.mono hb1.size)
  have hL3'' := (hL3'.below hb2 (Nat.le_refl _)).more hb2.size
  go_wp2_with (refine by32.wpStore (by rfl) (.tmp 7) (.tmp 10) (by rfl) (by rfl) (Bk.new w1 _ _) (by rfl) (T.map bv) (by rfl) HO2.out HO1.out ?_)
  refine (hsame_any _ A3 32 n3 32 c3 T t _ _ HTL hn3 hD hL3'' (by unfold maxLen; omega) hs3).mono ?_
  rintro e w2 ⟨rfl, nq, rfl⟩
  go_wp2_with fail
  go_ret
  exact ⟨by rw [hT]; rfl, below_drewN hb3 nq⟩
end Go.Proofs.YtfcffafmcihamaaDoor
