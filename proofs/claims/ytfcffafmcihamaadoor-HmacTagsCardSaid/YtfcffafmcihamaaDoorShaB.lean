/-
  The reference's digest.
-/
import Derived.Test.YtfcffafmcihamaaDoorSha8
import Derived.Test.YtfcffafmcihamaaDoorSha5
import Derived.Test.YtfcffafmcihamaaDoorSha9
import Derived.IntWalk
import Derived.Deep.RegionHeld3
namespace Go.Proofs.YtfcffafmcihamaaDoor
open Go.RowKit
set_option linter.unusedVariables false

theorem b4 (x : Nat) : beB 4 x = [UInt8.ofNat (x / 16777216 % 256), UInt8.ofNat (x / 65536 % 256), UInt8.ofNat (x / 256 % 256), UInt8.ofNat (x % 256)] := by
  simp [beB, leB, Nat.div_div_eq_div_mul]

theorem b4v (x : Nat) (hx : x < 4294967296) : ([.int .u8 (IntKind.u8.wrap (IntKind.u32.wrap ((x : Int) / 16777216))), .int .u8 (IntKind.u8.wrap ((IntKind.u32.wrap ((x : Int) / 65536)).tmod 256)), .int .u8 (IntKind.u8.wrap ((IntKind.u32.wrap ((x : Int) / 256)).tmod 256)), .int .u8 (IntKind.u8.wrap ((x : Int).tmod 256))] : List Value) = (beB 4 x).map bv := by
  have h1 : IntKind.u32.wrap ((x : Int) / 65536) = (x : Int) / 65536 := by rw [IntKind.wrap_u32']; omega
  have h2 : IntKind.u32.wrap ((x : Int) / 256) = (x : Int) / 256 := by rw [IntKind.wrap_u32']; omega
  rw [b4, h1, h2, IntKind.wrap_u32', Int.tmod_eq_emod_of_nonneg (by omega), Int.tmod_eq_emod_of_nonneg (by omega), Int.tmod_eq_emod_of_nonneg (by omega), IntKind.wrap_u8', IntKind.wrap_u8', IntKind.wrap_u8', IntKind.wrap_u8']
  simp only [List.map_cons, List.map_nil, bv, UInt8.toNat_ofNat', List.cons.injEq, Value.int.injEq, true_and, and_true]
  omega

set_option maxHeartbeats 4000000 in
set_option maxRecDepth 100000 in
theorem rsum_any (A : Option Addr) (n c : Nat) (l : List UInt8) (w : World) (hn : Hid (l.length = n)) (hL : Bs w w.heap.size A l) (hs : n ≤ 1099511627000) :
    Calls Tryd.prog 12 #[.slice A n c] w (RetO 5 (shaN l) w) := by
  have h1l := bv_one l
  have h1p := bv_one (padB n)
  have HP := Lib.hid (padB_length n)
  have hz := zerosN_lt n
  have HA := bytes_len l n hn.out
  have hnn : n ≤ 1152921504606846976 := by omega
  go_enter Tryd.func12, Tryd.ntmps12
  go_wp2_with (at_builtin; refine wp_appG (w.alloc (.cells #[] 5)) (by rfl) (.tmp 8) (.tmp 9) _ rfl w.heap.size 5 u8E (.slice (some ⟨w.heap.size, 0, none⟩) 0 0) [] rfl (World.ownsRow_made w #[] 0 (Nat.le_refl _) (Nat.zero_le _) rfl) _ _ _ _ _ rfl HA.out (Bs.alloc hL (Nat.le_refl _) _) h1l ?c1 ?c2 ?c3 ?_)
  case c1 => simp [maxLen]; omega
  case c2 => simp; omega
  case c3 => simp
  intro v1 w1 hown1 hg1 _
  have hb1 : Below w.heap.size w w1 := ((Below.refl _ w).alloc (Nat.le_refl _) _).trans (below_app (World.ownsRow_made w #[] 0 (Nat.le_refl _) (Nat.zero_le _) rfl) hg1 (by simp))
  have hs1 := hb1.size
  clear hg1
  go_wp2_with fail
  refine (rpad_any n _ hnn).mono ?_
  rintro e w2 ⟨Ap, np, cp, rfl, hnp, -, -, hcp, hvp, hb2⟩
  have hown2 := hown1.below hb2 (Nat.le_refl _)
  have hb2' := hb1.trans (hb2.mono hs1)
  have HB := bytes_len _ _ hnp.out
  clear hown1 hb2
  go_wp2_with (at_builtin; refine wp_appG w2 (by rfl) (.tmp 10) (.tmp 13) _ rfl w.heap.size 5 u8E v1 _ rfl hown2 _ _ _ _ _ rfl HB.out hvp h1p ?d1 ?d2 ?d3 ?_)
  case d1 => rw [HA.out, ← hnp.out, HP.out]; simp [maxLen]; omega
  case d2 => rw [HA.out, ← hnp.out, HP.out]; omega
  case d3 => exact hb2'.size
  intro v3 w3 hown3 hg3 _
  have hb3 := hb2'.trans (below_app hown2 hg3 hb2'.size)
  rw [← List.map_append] at hown3
  obtain ⟨A3, n3, c3, rfl, hn3, hnc3, hc3, hv3⟩ := hown3.bform
  have hn3' : n3 = n + 9 + zerosN n := by rw [← hn3.out, List.length_append, hn.out, HP.out]; omega
  have HN3 := Lib.hid hn3'
  clear hn3' hown3 hg3 hown2 hb2' hvp h1l h1p
  go_wp2_with fail
  refine (rstart_any _).mono ?_
  rintro e w4 ⟨rfl, hb4⟩
  have H1 := uv_one iv
  unfold sv8
  go_wp2_with (refine st8.wpStore (by rfl) (.tmp 4) (.tmp 15) (by rfl) (by rfl) (Bk.new w4 _ _) (by rfl) (iv.map uv) (by rfl) (by rfl) H1 ?_)
  have HNN : Hid ((n + 9 + zerosN n) % 64 = 0) := by show _ = _; have := zerosN_mod n; omega
  have hn3b : n3 ≤ 1099511627776 := by have := HN3.out; omega
  have HSH : Hid (shaN l = digB (blks iv (l ++ padB n) (n3 / 64))) := by show _ = _; rw [shaN, hn.out, HN3.out]
  have hS : Bk ((w4.alloc (.cells #[.int .u32 0, .int .u32 0, .int .u32 0, .int .u32 0, .int .u32 0, .int .u32 0, .int .u32 0, .int .u32 0] 38)).setRow w4.heap.size (iv.map uv).toArray) w4.heap.size 38 (iv.map uv) := (Bk.new w4 _ _).row _
  have hb5 : Below w3.heap.size w3 ((w4.alloc (.cells #[.int .u32 0, .int .u32 0, .int .u32 0, .int .u32 0, .int .u32 0, .int .u32 0, .int .u32 0, .int .u32 0] 38)).setRow w4.heap.size (iv.map uv).toArray) := below_row (hb4.alloc hb4.size _) hb4.size _
  have hg4 := hb4.size
  obtain ⟨all, hall⟩ : ∃ all, l ++ padB n = all := ⟨_, rfl⟩
  rw [hall] at hn3 hv3 HSH
  clear H1 hall hb4
  go_loopw [5] (fun i wr => ∃ j : Nat, 64 * j ≤ n3 ∧ i = .int .i64 (64 * (j : Int)) ∧ Bk wr w4.heap.size 38 ((blks iv all j).map uv) ∧ Below w3.heap.size w3 wr) (fun i _ => n3 - (intOf i).toNat)
  case atStart => exact ⟨0, Nat.zero_le _, rfl, hS, hb5⟩
  case round =>
    clear hS hb5
    obtain ⟨j, hj, rfl, hS, hb⟩ := hrel
    by_cases hlt : 64 * j + 64 ≤ n3
    · have hst := st_iv.blks all j
      have hsl : ((blks iv all j).map uv).length = 8 := by rw [List.length_map]; exact hst.1
      have hld : ∀ W : World, W.heap = wr.heap → (Instr.loadAt 38 (.pointer (some ⟨w4.heap.size, 0, none⟩))).run Tryd.prog W = .ok (.agg ((blks iv all j).map uv).toArray) W := fun W hW => st8.load (by unfold Bk; rw [hW]; exact hS) hsl
      have hle : 64 * (j : Int) + 64 ≤ (n3 : Int) := by omega
      have ha3 := hn3.out
      obtain ⟨lb, lo, rfl, hlb, -⟩ := hv3.at_ (by omega)
      have hsl2 := slice_both u8E lb lo n3 c3 (64 * j) (64 * j + 64) (64 * (j : Int)) (64 * (j : Int) + 64) (by omega) (by omega) (by omega) (by omega) (by omega)
      rw [Nat.add_sub_cancel_left] at hsl2
      obtain ⟨X, hXe⟩ : ∃ X, (all.drop (64 * j)).take 64 = X := ⟨_, rfl⟩
      have hX : Bs w3 w3.heap.size (some ⟨lb, lo + 64 * j, none⟩) X := by rw [← hXe]; exact (hv3.drop (64 * j) rfl).take 64
      have hXl : X.length = 64 := by rw [← hXe, List.length_take, List.length_drop, ha3]; omega
      have HBN : Hid (blks iv all (j + 1) = blockN (blks iv all j) X) := by show _ = _; rw [blks, hXe]
      have HX := Lib.hid hXl
      have HSL := Lib.hid hsl
      have hst' := Lib.hid hst
      have H1 := uv_one (blockN (blks iv all j) X)
      have HBL : Hid (((blockN (blks iv all j) X).map uv).length = 8) := by show _ = _; rw [List.length_map]; exact (hst.block X).1
      have j0 : (0 : Int) ≤ 64 * (j : Int) := by omega
      have hw64 : IntKind.i64.wrap (64 * (j : Int) + 64) = 64 * (j : Int) + 64 := IntWalk.i64_in _ (by omega)
      clear hst hsl ha3 hXe hXl
      go_wp2_with fail
      refine wp_region_still_tail 6 (by kernel_rfl) (by kernel_rfl) ?_
      simp only [List.take_succ_cons, List.take_zero, List.drop_succ_cons, List.drop_zero]
      refine st_load (by rfl) _ (.tmp 4) (by rfl) _ _ (by rfl) (hld _ rfl) ?_
      repeat still_step
      try refine wpStill_nil ?_
      go_wp2_with fail
      obtain ⟨W, hW⟩ : ∃ W, W = wr.drew := ⟨_, rfl⟩
      replace hS : Bk W w4.heap.size 38 ((blks iv all j).map uv) := by rw [hW]; exact hS
      replace hb : Below w3.heap.size w3 W := by rw [hW]; exact below_drewN hb 1
      rw [← hW]
      clear hW hld hsl2
      have hXW : Bs W W.heap.size (some ⟨lb, lo + 64 * j, none⟩) X := (hX.below hb (Nat.le_refl _)).more hb.size
      refine (rblock_any (blks iv all j) _ _ X W hst'.out HX.out hXW).mono ?_
      rintro e w5 ⟨rfl, hb5⟩
      replace hS := hS.below hb5 hS.lt
      replace hb := hb.trans (hb5.mono hb.size)
      clear hb5 hXW
      unfold sv8
      go_wp2_with (refine st8.wpStore (by rfl) (.tmp 4) (.tmp 29) (by rfl) (by rfl) hS HSL.out ((blockN (blks iv all j) X).map uv) (by rfl) HBL.out H1 ?_)
      have hS2 : Bk (w5.setRow w4.heap.size ((blockN (blks iv all j) X).map uv).toArray) w4.heap.size 38 ((blks iv all (j + 1)).map uv) := by
        rw [HBN.out]
        have := hS.row ((blockN (blks iv all j) X).map uv).toArray
        rwa [List.toList_toArray] at this
      have hb2 := below_row hb hg4 ((blockN (blks iv all j) X).map uv).toArray
      clear hS hb H1
      go_roundw
      case rel => exact ⟨j + 1, by omega, by congr 1, hS2, hb2⟩
      case measure => simp [intOf]; omega
    · have hj' : j = n3 / 64 := by omega
      have hle : ¬ 64 * (j : Int) + 64 ≤ (n3 : Int) := by omega
      have hst := st_iv.blks all j
      rw [← hj'] at HSH
      obtain ⟨s, hse⟩ : ∃ s, blks iv all j = s := ⟨_, rfl⟩
      rw [hse] at hst hS HSH
      have HST := Lib.hid hst
      clear hse hst hj'
      obtain ⟨W, hW⟩ : ∃ W, W = wr := ⟨_, rfl⟩
      have hbW : Below w.heap.size w W := by rw [hW]; exact hb3.trans (hb.mono hb3.size)
      have hSW : Bk W w4.heap.size 38 (s.map uv) := by rw [hW]; exact hS
      rw [← hW]
      clear hS hb hW
      have hgW := hSW.lt
      go_wp2_with fail
      go_loopw [6, 7] (fun v i wr => ∃ k : Nat, k ≤ 8 ∧ i = .int .i64 k ∧ Own wr W.heap.size 5 v ((digB (s.take k)).map bv) ∧ Below W.heap.size W wr) (fun _ i _ => 8 - (intOf i).toNat)
      case atStart => exact ⟨0, Nat.zero_le _, rfl, Own.nil _ _ _, Below.refl _ _⟩
      case round =>
        obtain ⟨k, hk, rfl, hown, hb⟩ := hrel
        by_cases hlt2 : k < 8
        · have hks : k < s.length := by rw [HST.out.1]; exact hlt2
          have hc := ((hSW.below hb hgW).cell k).trans (show (s.map uv)[k]? = some (.int .u32 ((s[k] : Nat) : Int)) by rw [List.getElem?_map, List.getElem?_eq_getElem hks]; rfl)
          have hx := HST.out.2 s[k] (List.getElem_mem hks)
          have HD : Hid ((digB (s.take (k + 1))) = digB (s.take k) ++ beB 4 s[k]) := by show _ = _; exact digB_succ s k hks
          have HL : Hid (((digB (s.take k)).map bv).length = 4 * k) := by show _ = _; rw [List.length_map, digB_take_length s k (by omega)]
          obtain ⟨x, hxe⟩ : ∃ x, s[k] = x := ⟨_, rfl⟩
          rw [hxe] at hc hx HD
          have k0 : (0 : Int) ≤ (k : Int) := by omega
          have k1 : (k : Int) < 8 := by omega
          have hbs := hb.size
          obtain ⟨V, hV⟩ : ∃ V, (digB (s.take k)).map bv = V := ⟨_, rfl⟩
          rw [hV] at hown HL
          have HV := Lib.hid hV
          clear hxe hks hV
          go_wp2_with fail
          have hcx : ∀ V' : World, Below W.heap.size W V' → V'.cell? ⟨w4.heap.size, k, none⟩ = some (.int .u32 (x : Int)) := fun V' hV' => ((hSW.below hV' hgW).cell k).trans (((hSW.below hb hgW).cell k).symm.trans hc)
          have HNW : Hid (([.int .u8 (IntKind.u8.wrap (IntKind.u32.wrap ((x : Int) / 16777216))), .int .u8 (IntKind.u8.wrap ((IntKind.u32.wrap ((x : Int) / 65536)).tmod 256)), .int .u8 (IntKind.u8.wrap ((IntKind.u32.wrap ((x : Int) / 256)).tmod 256)), .int .u8 (IntKind.u8.wrap ((x : Int).tmod 256))] : List Value) = (beB 4 x).map bv) := by show _ = _; exact b4v x hx
          have hn1 : ∀ u ∈ ([.int .u8 (IntKind.u8.wrap (IntKind.u32.wrap ((x : Int) / 16777216))), .int .u8 (IntKind.u8.wrap ((IntKind.u32.wrap ((x : Int) / 65536)).tmod 256)), .int .u8 (IntKind.u8.wrap ((IntKind.u32.wrap ((x : Int) / 256)).tmod 256)), .int .u8 (IntKind.u8.wrap ((x : Int).tmod 256))] : List Value), u.oneCell' = true := by rw [HNW.out]; exact bv_one _
          have HN1 := Lib.hid hn1
          clear hn1
          have hO2 := hown.alloc (.cells #[.int .u8 (IntKind.u8.wrap (IntKind.u32.wrap ((x : Int) / 16777216))), .int .u8 (IntKind.u8.wrap ((IntKind.u32.wrap ((x : Int) / 65536)).tmod 256)), .int .u8 (IntKind.u8.wrap ((IntKind.u32.wrap ((x : Int) / 256)).tmod 256)), .int .u8 (IntKind.u8.wrap ((x : Int).tmod 256))] 5)
          have hVN := Vs.new wr #[.int .u8 (IntKind.u8.wrap (IntKind.u32.wrap ((x : Int) / 16777216))), .int .u8 (IntKind.u8.wrap ((IntKind.u32.wrap ((x : Int) / 65536)).tmod 256)), .int .u8 (IntKind.u8.wrap ((IntKind.u32.wrap ((x : Int) / 256)).tmod 256)), .int .u8 (IntKind.u8.wrap ((x : Int).tmod 256))] 5 (0, 0) [.int .u8 (IntKind.u8.wrap (IntKind.u32.wrap ((x : Int) / 16777216))), .int .u8 (IntKind.u8.wrap ((IntKind.u32.wrap ((x : Int) / 65536)).tmod 256)), .int .u8 (IntKind.u8.wrap ((IntKind.u32.wrap ((x : Int) / 256)).tmod 256)), .int .u8 (IntKind.u8.wrap ((x : Int).tmod 256))] rfl
          have hbs1 : W.heap.size ≤ (wr.alloc (.cells #[.int .u8 (IntKind.u8.wrap (IntKind.u32.wrap ((x : Int) / 16777216))), .int .u8 (IntKind.u8.wrap ((IntKind.u32.wrap ((x : Int) / 65536)).tmod 256)), .int .u8 (IntKind.u8.wrap ((IntKind.u32.wrap ((x : Int) / 256)).tmod 256)), .int .u8 (IntKind.u8.wrap ((x : Int).tmod 256))] 5)).heap.size := by simp; omega
          have hE1 : V.length + 4 ≤ maxLen := by rw [HL.out]; simp [maxLen]; omega
          have hE2 : (V.length + 4) * 1 ≤ 140737488355328 := by rw [HL.out]; omega
          go_region_held3 (fun V' => Below W.heap.size W V') (first | assumption | exact below_drewN hb 1 | exact (below_drewN hb 1).alloc hbs _)
            (first | ((refine step_app _ (by rfl) (.tmp 34) (.tmp 57) _ (by rfl) W.heap.size 5 u8E u6 V (by rfl) (by exact hO2) (wr.heap.size + 1) _ _ _ ([.int .u8 (IntKind.u8.wrap (IntKind.u32.wrap ((x : Int) / 16777216))), .int .u8 (IntKind.u8.wrap ((IntKind.u32.wrap ((x : Int) / 65536)).tmod 256)), .int .u8 (IntKind.u8.wrap ((IntKind.u32.wrap ((x : Int) / 256)).tmod 256)), .int .u8 (IntKind.u8.wrap ((x : Int).tmod 256))] : List Value) (by rfl) (by rfl) (by exact hVN) HN1.out hE1 hE2 hbs1 ?_); intro v' w6 hown6 hg6 _; have hb6 : Below W.heap.size W w6 := (hb.alloc hbs _).trans (below_app hO2 ⟨hg6.os, hg6.tape, hg6.output, hg6.size, hg6.block⟩ hbs1)))
          have hown7 : Own w6 W.heap.size 5 v' ((digB (s.take (k + 1))).map bv) := by rw [HD.out, List.map_append, HV.out, ← HNW.out]; exact hown6
          clear hown hown6 hO2 hVN hg6 hb hc hcx
          go_wp2_with fail
          go_roundw
          case rel => exact ⟨k + 1, by omega, by go_num, hown7, hb6⟩
          case measure => simp [intOf]; omega
        · obtain rfl : k = 8 := by omega
          have hd : digB (s.take 8) = shaN l := by rw [HSH.out, List.take_of_length_le (by rw [HST.out.1]; omega)]
          rw [hd] at hown
          clear hd
          go_wp2_with fail
          go_ret
          exact RetO.of rfl (hown.mono hbW.size) (hbW.trans (hb.mono hbW.size))
end Go.Proofs.YtfcffafmcihamaaDoor
