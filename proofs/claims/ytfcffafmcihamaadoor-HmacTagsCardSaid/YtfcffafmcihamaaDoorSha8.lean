/-
  The reference's block: its numbers.
-/
import Derived.Test.YtfcffafmcihamaaDoorSha7
namespace Go.Proofs.YtfcffafmcihamaaDoor
open Go.RowKit
set_option linter.unusedVariables false

theorem addS_comm (a b : List Nat) : addS a b = addS b a := by
  unfold addS
  rw [List.zipWith_comm]
  congr 1
  funext x y
  rw [Nat.add_comm]
theorem bs_at {w : World} {B b o : Nat} {l : List UInt8} (h : Bs w B (some ⟨b, o, none⟩) l) (i : Nat) (hi : i < l.length) : w.cell? ⟨b, o + i, none⟩ = some (.int .u8 ((byteAt l i : Nat) : Int)) := by
  obtain ⟨b', o', e, -, hc⟩ := h.at_ (by omega)
  simp at e
  obtain ⟨rfl, rfl⟩ := e
  rw [hc i hi]
  simp [byteAt, List.getD, List.getElem?_eq_getElem hi]

set_option maxHeartbeats 16000000 in
set_option maxRecDepth 100000 in
theorem rblock_any (s : List Nat) (A : Option Addr) (c : Nat) (l : List UInt8) (w : World) (hs : St s) (hl : l.length = 64) (hL : Bs w w.heap.size A l) : Calls Tryd.prog 19 #[sv8 s, .slice A 64 c] w (RetA (sv8 (blockN s l)) w) := by
  obtain ⟨lb, lo, rfl, hlb, -⟩ := hL.at_ (by omega)
  have HS := Lib.hid hs
  obtain ⟨a0, b0, c0, d0, e0, f0, g0, h0, hse, -⟩ := hs.form
  have HLL := Lib.hid hl
  have HK1 := uv_one kC
  have HKL : Hid ((kC.map uv).length = 64) := Lib.hid rfl
  clear hl hs
  unfold sv8
  rw [hse] at HS ⊢
  clear hse
  show Calls Tryd.prog 19 #[.agg #[.int .u32 (a0 : Int), .int .u32 (b0 : Int), .int .u32 (c0 : Int), .int .u32 (d0 : Int), .int .u32 (e0 : Int), .int .u32 (f0 : Int), .int .u32 (g0 : Int), .int .u32 (h0 : Int)], .slice (some ⟨lb, lo, none⟩) 64 c] w _
  go_enter Tryd.func19, Tryd.ntmps19
  go_wp2_with fail
  obtain ⟨W, hW⟩ : ∃ W, W = (w.alloc (.cells #[.int .u32 (a0 : Int), .int .u32 (b0 : Int), .int .u32 (c0 : Int), .int .u32 (d0 : Int), .int .u32 (e0 : Int), .int .u32 (f0 : Int), .int .u32 (g0 : Int), .int .u32 (h0 : Int)] 38)).alloc (.cells #[.int .u32 0, .int .u32 0, .int .u32 0, .int .u32 0, .int .u32 0, .int .u32 0, .int .u32 0, .int .u32 0] 38) := ⟨_, rfl⟩
  have hS : Bk W w.heap.size 38 ([a0, b0, c0, d0, e0, f0, g0, h0].map uv) := by rw [hW]; exact ((Bk.new' _ _ _ _ _ rfl rfl).alloc _)
  have hV : Bk W (w.heap.size + 1) 38 [zu, zu, zu, zu, zu, zu, zu, zu] := by rw [hW]; exact Bk.new' _ _ _ _ _ (by simp) rfl
  have hb : Below w.heap.size w W := by rw [hW]; exact ((Below.refl _ _).alloc (Nat.le_refl _) _).alloc (by simp) _
  have hsz : W.heap.size = w.heap.size + 2 := by rw [hW]; simp
  rw [← hW]
  clear hW
  have HZ := Lib.hid hsz
  clear hsz
  refine (rconst_any W).mono ?_
  rintro e w1 ⟨rfl, hb1⟩
  replace hS := hS.below hb1 (by rw [HZ.out]; omega)
  replace hV := hV.below hb1 (by rw [HZ.out]; omega)
  have hsz1 : w.heap.size + 2 ≤ w1.heap.size := by have := hb1.size; have := HZ.out; omega
  replace hb := hb.trans (hb1.mono hb.size)
  clear hb1 HZ
  go_wp2_with (refine wd64.wpStore (by rfl) (.tmp 5) (.tmp 15) (by rfl) (by rfl) (Bk.new w1 _ _) (by rfl) (kC.map uv) (by rfl) HKL.out HK1 ?_)
  go_loopw [7, 8, 9] (fun i _ _ wr => ∃ j : Nat, j ≤ 64 ∧ i = .int .i64 j ∧ Bk wr (w1.heap.size + 1) 47 (schL l j) ∧ Bk wr w1.heap.size 47 (kC.map uv) ∧ Bk wr w.heap.size 38 ([a0, b0, c0, d0, e0, f0, g0, h0].map uv) ∧ Bk wr (w.heap.size + 1) 38 [zu, zu, zu, zu, zu, zu, zu, zu] ∧ Below w.heap.size w wr) (fun i _ _ _ => 64 - (intOf i).toNat)
  case atStart =>
    exact ⟨0, Nat.zero_le _, rfl, Bk.new' _ _ _ _ (schL l 0) (by simp) rfl, ((Bk.new w1 _ _).row _).alloc _, ((hS.alloc _).grown (grown_row _ _ _) (by simp; omega)).alloc _, ((hV.alloc _).grown (grown_row _ _ _) (by simp; omega)).alloc _,
      (below_row (hb.alloc (by omega) _) (by omega) _).alloc (by simp; omega) _⟩
  case round =>
    clear hS hV hb
    obtain ⟨j, hj, rfl, hB, hK, hS, hV, hb⟩ := hrel
    have hLw : Bs wr w.heap.size (some ⟨lb, lo, none⟩) l := hL.below hb (Nat.le_refl _)
    by_cases hlt : j < 16
    · --A
      have hl := schL_length l j (by omega)
      obtain ⟨v0, cw⟩ := hB.has j (by omega)
      have hfr := hB.frozen j
      have c0 := (bs_at hLw (4 * j) (by rw [HLL.out]; omega))
      have c1 := (bs_at hLw (4 * j + 1) (by rw [HLL.out]; omega))
      have c2 := (bs_at hLw (4 * j + 2) (by rw [HLL.out]; omega))
      have c3 := (bs_at hLw (4 * j + 3) (by rw [HLL.out]; omega))
      have b0 := byteAt_lt l (4 * j)
      obtain ⟨x0, e0⟩ : ∃ x, byteAt l (4 * j) = x := ⟨_, rfl⟩
      have b1 := byteAt_lt l (4 * j + 1)
      obtain ⟨x1, e1⟩ : ∃ x, byteAt l (4 * j + 1) = x := ⟨_, rfl⟩
      have b2 := byteAt_lt l (4 * j + 2)
      obtain ⟨x2, e2⟩ : ∃ x, byteAt l (4 * j + 2) = x := ⟨_, rfl⟩
      have b3 := byteAt_lt l (4 * j + 3)
      obtain ⟨x3, e3⟩ : ∃ x, byteAt l (4 * j + 3) = x := ⟨_, rfl⟩
      have HW : Hid (word l j = x0 * 16777216 + x1 * 65536 + x2 * 256 + x3) := by show _ = _; rw [word, e0, e1, e2, e3]
      rw [e0] at c0 b0
      rw [e1] at c1 b1
      rw [e2] at c2 b2
      rw [e3] at c3 b3
      have i0 : (0 : Int) ≤ 4 * (j : Int) := by omega
      have k0 : 4 * (j : Int) < 64 := by omega
      have n0 : (4 * (j : Int)).toNat = 4 * j := by omega
      have w0' : IntKind.i64.wrap (4 * (j : Int)) = 4 * (j : Int) := IntWalk.i64_in _ (by omega)
      have i1 : (0 : Int) ≤ 4 * (j : Int) + 1 := by omega
      have k1 : 4 * (j : Int) + 1 < 64 := by omega
      have n1 : (4 * (j : Int) + 1).toNat = 4 * j + 1 := by omega
      have w1' : IntKind.i64.wrap (4 * (j : Int) + 1) = 4 * (j : Int) + 1 := IntWalk.i64_in _ (by omega)
      have i2 : (0 : Int) ≤ 4 * (j : Int) + 2 := by omega
      have k2 : 4 * (j : Int) + 2 < 64 := by omega
      have n2 : (4 * (j : Int) + 2).toNat = 4 * j + 2 := by omega
      have w2' : IntKind.i64.wrap (4 * (j : Int) + 2) = 4 * (j : Int) + 2 := IntWalk.i64_in _ (by omega)
      have i3 : (0 : Int) ≤ 4 * (j : Int) + 3 := by omega
      have k3 : 4 * (j : Int) + 3 < 64 := by omega
      have n3 : (4 * (j : Int) + 3).toNat = 4 * j + 3 := by omega
      have w3' : IntKind.i64.wrap (4 * (j : Int) + 3) = 4 * (j : Int) + 3 := IntWalk.i64_in _ (by omega)
      have j0 : (0 : Int) ≤ (j : Int) := by omega
      have j1 : (j : Int) < 64 := by omega
      have j2 : (j : Int) < 16 := by omega
      have HB2 := hB.set_ j (uv (x0 * 16777216 + x1 * 65536 + x2 * 256 + x3))
      rw [schL_step l j _ (by omega) (by rw [if_pos hlt]; exact HW.out.symm)] at HB2
      have hK2 := hK.far (p := ⟨w1.heap.size + 1, j, none⟩) (by simp) (uv (x0 * 16777216 + x1 * 65536 + x2 * 256 + x3))
      have hS2 := hS.far (p := ⟨w1.heap.size + 1, j, none⟩) (by simp; omega) (uv (x0 * 16777216 + x1 * 65536 + x2 * 256 + x3))
      have hV2 := hV.far (p := ⟨w1.heap.size + 1, j, none⟩) (by simp; omega) (uv (x0 * 16777216 + x1 * 65536 + x2 * 256 + x3))
      have hb2 := hb.setCell (p := ⟨w1.heap.size + 1, j, none⟩) (by simp; omega) (uv (x0 * 16777216 + x1 * 65536 + x2 * 256 + x3))
      have e : uv (x0 * 16777216 + x1 * 65536 + x2 * 256 + x3) = .int .u32 ((x0 : Int) * 16777216 + (x1 : Int) * 65536 + (x2 : Int) * 256 + (x3 : Int)) := by unfold uv; congr 1
      rw [e] at HB2 hK2 hS2 hV2 hb2
      clear e e0 e1 e2 e3 hl hLw hB hK hS hV hb
      go_wp2_with fail
      go_still_tail 35, (by kernel_rfl)
      go_wp2_with fail
      go_roundw
      case rel => exact ⟨j + 1, by omega, by go_num, HB2, hK2, hS2, hV2, below_drewN hb2 1⟩
      case measure => simp [intOf]; omega
      --Z
    · by_cases hlt2 : j < 64
      · --A
        have c16 := (hB.cell (j - 16)).trans (schL_at l j (j - 16) (by omega))
        have c15 := (hB.cell (j - 15)).trans (schL_at l j (j - 15) (by omega))
        have c7 := (hB.cell (j - 7)).trans (schL_at l j (j - 7) (by omega))
        have c2 := (hB.cell (j - 2)).trans (schL_at l j (j - 2) (by omega))
        have y16 := getD_lt (sched_lt l j) (j - 16)
        have y15 := getD_lt (sched_lt l j) (j - 15)
        have y7 := getD_lt (sched_lt l j) (j - 7)
        have y2 := getD_lt (sched_lt l j) (j - 2)
        have HW : Hid (wnext (sched l j) j = ((sched l j).getD (j - 16) 0 + sg0 ((sched l j).getD (j - 15) 0) + (sched l j).getD (j - 7) 0 + sg1 ((sched l j).getD (j - 2) 0)) % 4294967296) := Lib.hid rfl
        obtain ⟨x16, h16⟩ : ∃ x, (sched l j).getD (j - 16) 0 = x := ⟨_, rfl⟩
        obtain ⟨x15, h15⟩ : ∃ x, (sched l j).getD (j - 15) 0 = x := ⟨_, rfl⟩
        obtain ⟨x7, h7⟩ : ∃ x, (sched l j).getD (j - 7) 0 = x := ⟨_, rfl⟩
        obtain ⟨x2, h2⟩ : ∃ x, (sched l j).getD (j - 2) 0 = x := ⟨_, rfl⟩
        rw [h16, h15, h7, h2] at HW
        rw [h16] at c16 y16
        rw [h15] at c15 y15
        rw [h7] at c7 y7
        rw [h2] at c2 y2
        have hl := schL_length l j (by omega)
        obtain ⟨v0, cw⟩ := hB.has j (by omega)
        have hfr := hB.frozen j
        have i16 : (0 : Int) ≤ (j : Int) - 16 := by omega
        have i15 : (0 : Int) ≤ (j : Int) - 15 := by omega
        have i7 : (0 : Int) ≤ (j : Int) - 7 := by omega
        have i2 : (0 : Int) ≤ (j : Int) - 2 := by omega
        have p16 : (16 : Int) ≤ (j : Int) := by omega
        have p15 : (15 : Int) ≤ (j : Int) := by omega
        have p7 : (7 : Int) ≤ (j : Int) := by omega
        have p2 : (2 : Int) ≤ (j : Int) := by omega
        have k16 : (j : Int) - 16 < 64 := by omega
        have k15 : (j : Int) - 15 < 64 := by omega
        have k7 : (j : Int) - 7 < 64 := by omega
        have k2 : (j : Int) - 2 < 64 := by omega
        have n16 : ((j : Int) - 16).toNat = j - 16 := by omega
        have n15 : ((j : Int) - 15).toNat = j - 15 := by omega
        have n7 : ((j : Int) - 7).toNat = j - 7 := by omega
        have n2 : ((j : Int) - 2).toNat = j - 2 := by omega
        have w16 : IntKind.i64.wrap ((j : Int) - 16) = (j : Int) - 16 := IntWalk.i64_in _ (by omega)
        have w15 : IntKind.i64.wrap ((j : Int) - 15) = (j : Int) - 15 := IntWalk.i64_in _ (by omega)
        have w7 : IntKind.i64.wrap ((j : Int) - 7) = (j : Int) - 7 := IntWalk.i64_in _ (by omega)
        have w2 : IntKind.i64.wrap ((j : Int) - 2) = (j : Int) - 2 := IntWalk.i64_in _ (by omega)
        have j0 : (0 : Int) ≤ (j : Int) := by omega
        have j1 : (j : Int) < 64 := by omega
        have j2 : ¬ (j : Int) < 16 := by omega
        have HI : Hid ((((x16 : Int) + (x7 : Int) + bits .xor .u32 (bits .xor .u32 ((rotr 7 x15 : Nat) : Int) ((rotr 18 x15 : Nat) : Int)) ((x15 : Int) / 8) + bits .xor .u32 (bits .xor .u32 ((rotr 17 x2 : Nat) : Int) ((rotr 19 x2 : Nat) : Int)) ((x2 : Int) / 1024)) % 4294967296) = ((wnext (sched l j) j : Nat) : Int)) := by
          show _ = _
          rw [sg0_int x15 y15, sg1_int x2 y2, HW.out]
          omega
        have HB2 := hB.set_ j (uv (wnext (sched l j) j))
        rw [schL_step l j _ (by omega) (by rw [if_neg (by omega)])] at HB2
        have hK2 := hK.far (p := ⟨w1.heap.size + 1, j, none⟩) (by simp) (uv (wnext (sched l j) j))
        have hS2 := hS.far (p := ⟨w1.heap.size + 1, j, none⟩) (by simp; omega) (uv (wnext (sched l j) j))
        have hV2 := hV.far (p := ⟨w1.heap.size + 1, j, none⟩) (by simp; omega) (uv (wnext (sched l j) j))
        have hb2 := hb.setCell (p := ⟨w1.heap.size + 1, j, none⟩) (by simp; omega) (uv (wnext (sched l j) j))
        unfold uv at HB2 hK2 hS2 hV2 hb2
        clear h16 h15 h7 h2 hl hLw hB hK hS hV hb
        go_wp2_with fail
        refine wp_region_still_tail 29 (by kernel_rfl) (by kernel_rfl) ?_
        simp only [List.take_succ_cons, List.take_zero, List.drop_succ_cons, List.drop_zero]
        repeat (refine wpStill_step (fun K hK => ?_); go_simp; (first | (with_reducible refine ⟨_, stl (turn_7 _ _ y15), hK _ ?_⟩) | (with_reducible refine ⟨_, stl (turn_18 _ _ y15), hK _ ?_⟩) | (with_reducible refine ⟨_, stl (turn_17 _ _ y2), hK _ ?_⟩) | (with_reducible refine ⟨_, stl (turn_19 _ _ y2), hK _ ?_⟩) | refine hK _ ?_); clear hK K)
        try refine wpStill_nil ?_
        go_wp2_with fail
        rw [HI.out]
        go_roundw
        case rel => exact ⟨j + 1, by omega, by go_num, HB2, hK2, hS2, hV2, below_drewN hb2 1⟩
        case measure => simp [intOf]; omega
        --Z
      · obtain rfl : j = 64 := by omega
        rw [schL_all] at hB
        obtain ⟨ws, hws⟩ : ∃ ws, sched l 64 = ws := ⟨_, rfl⟩
        have hwl : ∀ i, ws.getD i 0 < 4294967296 := fun i => by rw [← hws]; exact getD_lt (sched_lt l 64) i
        have hwn : ws.length = 64 := by rw [← hws]; simp
        rw [hws] at hB
        have HWS := Lib.hid hws
        have HWL := Lib.hid hwl
        have HWN := Lib.hid hwn
        clear hws hwl hwn hLw
        have HS1 := uv_one [a0, b0, c0, d0, e0, f0, g0, h0]
        have hz := hB.lt
        go_wp2_with (first | (refine st8.wpLoad (by rfl) (.tmp 2) (by rfl) (by rfl) hS (by rfl) ?_) | (refine st8.wpStore (by rfl) (.tmp 10) (.tmp 94) (by rfl) (by rfl) (Bk.new wr _ _) (by rfl) ([a0, b0, c0, d0, e0, f0, g0, h0].map uv) (by rfl) (by rfl) HS1 ?_))
        obtain ⟨g, hg⟩ : ∃ g, wr.heap.size = g := ⟨_, rfl⟩
        rw [hg]
        have hX : Bk ((wr.alloc (.cells #[.int .u32 0, .int .u32 0, .int .u32 0, .int .u32 0, .int .u32 0, .int .u32 0, .int .u32 0, .int .u32 0] 38)).setRow g #[uv a0, uv b0, uv c0, uv d0, uv e0, uv f0, uv g0, uv h0]) g 38 ([a0, b0, c0, d0, e0, f0, g0, h0].map uv) := (Bk.new' _ _ _ _ [zu, zu, zu, zu, zu, zu, zu, zu] hg.symm rfl).row _
        replace hB := (hB.alloc (.cells #[.int .u32 0, .int .u32 0, .int .u32 0, .int .u32 0, .int .u32 0, .int .u32 0, .int .u32 0, .int .u32 0] 38)).grown (grown_row _ g #[uv a0, uv b0, uv c0, uv d0, uv e0, uv f0, uv g0, uv h0]) (by simp; omega)
        replace hK := (hK.alloc (.cells #[.int .u32 0, .int .u32 0, .int .u32 0, .int .u32 0, .int .u32 0, .int .u32 0, .int .u32 0, .int .u32 0] 38)).grown (grown_row _ g #[uv a0, uv b0, uv c0, uv d0, uv e0, uv f0, uv g0, uv h0]) (by simp; omega)
        replace hS := (hS.alloc (.cells #[.int .u32 0, .int .u32 0, .int .u32 0, .int .u32 0, .int .u32 0, .int .u32 0, .int .u32 0, .int .u32 0] 38)).grown (grown_row _ g #[uv a0, uv b0, uv c0, uv d0, uv e0, uv f0, uv g0, uv h0]) (by simp; omega)
        replace hV := (hV.alloc (.cells #[.int .u32 0, .int .u32 0, .int .u32 0, .int .u32 0, .int .u32 0, .int .u32 0, .int .u32 0, .int .u32 0] 38)).grown (grown_row _ g #[uv a0, uv b0, uv c0, uv d0, uv e0, uv f0, uv g0, uv h0]) (by simp; omega)
        replace hb := below_row (hb.alloc hb.size (.cells #[.int .u32 0, .int .u32 0, .int .u32 0, .int .u32 0, .int .u32 0, .int .u32 0, .int .u32 0, .int .u32 0] 38)) (g := g) (by have := hb.size; omega) #[uv a0, uv b0, uv c0, uv d0, uv e0, uv f0, uv g0, uv h0]
        have hgz : w1.heap.size + 1 < g := by omega
        clear hg hz hj hlt hlt2
        go_loopw [11, 12, 13] (fun i _ _ wr => ∃ j xa xb xc xd xe xf xg xh : Nat, j ≤ 64 ∧ i = .int .i64 j ∧ Hid (rnds ws [a0, b0, c0, d0, e0, f0, g0, h0] j = [xa, xb, xc, xd, xe, xf, xg, xh]) ∧ Bk wr g 38 ([xa, xb, xc, xd, xe, xf, xg, xh].map uv) ∧ Bk wr (w1.heap.size + 1) 47 (ws.map uv) ∧ Bk wr w1.heap.size 47 (kC.map uv) ∧
            Bk wr w.heap.size 38 ([a0, b0, c0, d0, e0, f0, g0, h0].map uv) ∧ Bk wr (w.heap.size + 1) 38 [zu, zu, zu, zu, zu, zu, zu, zu] ∧ Below w.heap.size w wr) (fun i _ _ _ => 64 - (intOf i).toNat)
        case atStart => exact ⟨0, a0, b0, c0, d0, e0, f0, g0, h0, by omega, rfl, Lib.hid rfl, hX, hB, hK, hS, hV, hb⟩
        case round =>
          clear hX hB hK hS hV hb
          obtain ⟨j, xa, xb, xc, xd, xe, xf, xg, xh, hj, rfl, HR, hX, hB, hK, hS, hV, hb⟩ := hrel
          by_cases hlt : j < 64
          · --A
            have hst : St [xa, xb, xc, xd, xe, xf, xg, xh] := by rw [← HR.out]; exact HS.out.rnds _ _
            obtain ⟨-, hst⟩ := hst
            have la : xa < 4294967296 := hst _ (by simp)
            have lb' : xb < 4294967296 := hst _ (by simp)
            have lc : xc < 4294967296 := hst _ (by simp)
            have ld : xd < 4294967296 := hst _ (by simp)
            have le : xe < 4294967296 := hst _ (by simp)
            have lf : xf < 4294967296 := hst _ (by simp)
            have lg : xg < 4294967296 := hst _ (by simp)
            have lh : xh < 4294967296 := hst _ (by simp)
            clear hst
            have hk : wr.cell? ⟨w1.heap.size, j, none⟩ = some (.int .u32 ((kC.getD j 0 : Nat) : Int)) := by
              rw [hK.cell, List.getElem?_map, List.getElem?_eq_getElem (show j < kC.length from hlt)]
              simp [uv, List.getD, List.getElem?_eq_getElem (show j < kC.length from hlt)]
            have hkl := kC_lt j
            have hwl := HWL.out j
            have hx : wr.cell? ⟨w1.heap.size + 1, j, none⟩ = some (.int .u32 ((ws.getD j 0 : Nat) : Int)) := by
              have hjl : j < ws.length := by rw [HWN.out]; exact hlt
              rw [hB.cell, List.getElem?_map, List.getElem?_eq_getElem hjl]
              simp [uv, List.getD, List.getElem?_eq_getElem hjl]
            have j0 : (0 : Int) ≤ (j : Int) := by omega
            have j1 : (j : Int) < 64 := by omega
            obtain ⟨k, hke⟩ : ∃ k, kC.getD j 0 = k := ⟨_, rfl⟩
            obtain ⟨x, hxe⟩ : ∃ x, ws.getD j 0 = x := ⟨_, rfl⟩
            have HRN : Hid (rnds ws [a0, b0, c0, d0, e0, f0, g0, h0] (j + 1) = rnd k x [xa, xb, xc, xd, xe, xf, xg, xh]) := by show _ = _; rw [rnds, HR.out, hke, hxe]
            rw [hke] at hk hkl
            rw [hxe] at hwl hx
            clear hke hxe HR
            have HT := Lib.hid (t_sum2 xe xf xg xh k x (big1_int xe le) (ch_int' xe xf xg le lf lg))
            have HU := Lib.hid (u_sum xa xb xc (big0_int xa la) (maj_int xa xb xc la lb' lc))
            have q0 : wr.cell? ⟨g, 0, none⟩ = some (.int .u32 (xa : Int)) := hX.cell 0
            have q1 : wr.cell? ⟨g, 1, none⟩ = some (.int .u32 (xb : Int)) := hX.cell 1
            have q2 : wr.cell? ⟨g, 2, none⟩ = some (.int .u32 (xc : Int)) := hX.cell 2
            have q3 : wr.cell? ⟨g, 3, none⟩ = some (.int .u32 (xd : Int)) := hX.cell 3
            have q4 : wr.cell? ⟨g, 4, none⟩ = some (.int .u32 (xe : Int)) := hX.cell 4
            have q5 : wr.cell? ⟨g, 5, none⟩ = some (.int .u32 (xf : Int)) := hX.cell 5
            have q6 : wr.cell? ⟨g, 6, none⟩ = some (.int .u32 (xg : Int)) := hX.cell 6
            have q7 : wr.cell? ⟨g, 7, none⟩ = some (.int .u32 (xh : Int)) := hX.cell 7
            go_wp2_with fail
            go_quiet ((go_at_call 28; (first | (with_reducible exact qst (turn_6 _ _ le)) | (with_reducible exact qst (turn_11 _ _ le)) | (with_reducible exact qst (turn_25 _ _ le)))))
            rw [HT.out]
            obtain ⟨V1, hW⟩ : ∃ V, V = wr.drewN nq := ⟨_, rfl⟩
            replace hX : Bk V1 g 38 ([xa, xb, xc, xd, xe, xf, xg, xh].map uv) := by rw [hW]; exact hX
            replace hB : Bk V1 (w1.heap.size + 1) 47 (ws.map uv) := by rw [hW]; exact hB
            replace hK : Bk V1 w1.heap.size 47 (kC.map uv) := by rw [hW]; exact hK
            replace hS : Bk V1 w.heap.size 38 ([a0, b0, c0, d0, e0, f0, g0, h0].map uv) := by rw [hW]; exact hS
            replace hV : Bk V1 (w.heap.size + 1) 38 [zu, zu, zu, zu, zu, zu, zu, zu] := by rw [hW]; exact hV
            replace hb : Below w.heap.size w V1 := by rw [hW]; exact below_drewN hb nq
            rw [← hW]
            clear hW q0 q1 q2 q3 q4 q5 q6 q7
            have q0 : V1.cell? ⟨g, 0, none⟩ = some (.int .u32 (xa : Int)) := hX.cell 0
            have q1 : V1.cell? ⟨g, 1, none⟩ = some (.int .u32 (xb : Int)) := hX.cell 1
            have q2 : V1.cell? ⟨g, 2, none⟩ = some (.int .u32 (xc : Int)) := hX.cell 2
            have q3 : V1.cell? ⟨g, 3, none⟩ = some (.int .u32 (xd : Int)) := hX.cell 3
            have q4 : V1.cell? ⟨g, 4, none⟩ = some (.int .u32 (xe : Int)) := hX.cell 4
            have q5 : V1.cell? ⟨g, 5, none⟩ = some (.int .u32 (xf : Int)) := hX.cell 5
            have q6 : V1.cell? ⟨g, 6, none⟩ = some (.int .u32 (xg : Int)) := hX.cell 6
            have q7 : V1.cell? ⟨g, 7, none⟩ = some (.int .u32 (xh : Int)) := hX.cell 7
            clear hk hx
            go_wp2_with fail
            go_quiet ((go_at_call 28; (first | (with_reducible exact qst (turn_2 _ _ la)) | (with_reducible exact qst (turn_13 _ _ la)) | (with_reducible exact qst (turn_22 _ _ la)))))
            rw [HU.out]
            obtain ⟨V2, hW⟩ : ∃ V, V = V1.drewN nq := ⟨_, rfl⟩
            replace hX : Bk V2 g 38 ([xa, xb, xc, xd, xe, xf, xg, xh].map uv) := by rw [hW]; exact hX
            replace hB : Bk V2 (w1.heap.size + 1) 47 (ws.map uv) := by rw [hW]; exact hB
            replace hK : Bk V2 w1.heap.size 47 (kC.map uv) := by rw [hW]; exact hK
            replace hS : Bk V2 w.heap.size 38 ([a0, b0, c0, d0, e0, f0, g0, h0].map uv) := by rw [hW]; exact hS
            replace hV : Bk V2 (w.heap.size + 1) 38 [zu, zu, zu, zu, zu, zu, zu, zu] := by rw [hW]; exact hV
            replace hb : Below w.heap.size w V2 := by rw [hW]; exact below_drewN hb nq
            rw [← hW]
            clear hW q0 q1 q2 q3 q4 q5 q6 q7
            have q0 : V2.cell? ⟨g, 0, none⟩ = some (.int .u32 (xa : Int)) := hX.cell 0
            have q1 : V2.cell? ⟨g, 1, none⟩ = some (.int .u32 (xb : Int)) := hX.cell 1
            have q2 : V2.cell? ⟨g, 2, none⟩ = some (.int .u32 (xc : Int)) := hX.cell 2
            have q3 : V2.cell? ⟨g, 3, none⟩ = some (.int .u32 (xd : Int)) := hX.cell 3
            have q4 : V2.cell? ⟨g, 4, none⟩ = some (.int .u32 (xe : Int)) := hX.cell 4
            have q5 : V2.cell? ⟨g, 5, none⟩ = some (.int .u32 (xf : Int)) := hX.cell 5
            have q6 : V2.cell? ⟨g, 6, none⟩ = some (.int .u32 (xg : Int)) := hX.cell 6
            have q7 : V2.cell? ⟨g, 7, none⟩ = some (.int .u32 (xh : Int)) := hX.cell 7
            have lT := tN_lt xe xf xg xh k x
            have lU := uN_lt xa xb xc
            have HRE : Hid (rnd k x [xa, xb, xc, xd, xe, xf, xg, xh] = [(tN xe xf xg xh k x + uN xa xb xc) % 4294967296, xa, xb, xc, (xd + tN xe xf xg xh k x) % 4294967296, xe, xf, xg]) := Lib.hid rfl
            have HXE : Hid (([(tN xe xf xg xh k x + uN xa xb xc) % 4294967296, xa, xb, xc, (xd + tN xe xf xg xh k x) % 4294967296, xe, xf, xg] : List Nat).map uv = ([.int .u32 ((((tN xe xf xg xh k x : Nat) : Int) + ((uN xa xb xc : Nat) : Int)) % 4294967296), .int .u32 (xa : Int), .int .u32 (xb : Int), .int .u32 (xc : Int), .int .u32 (((xd : Int) + ((tN xe xf xg xh k x : Nat) : Int)) % 4294967296), .int .u32 (xe : Int), .int .u32 (xf : Int), .int .u32 (xg : Int)] : List Value)) := Lib.hid rfl
            rw [HRE.out] at HRN
            obtain ⟨T, hT⟩ : ∃ T, tN xe xf xg xh k x = T := ⟨_, rfl⟩
            obtain ⟨U, hU⟩ : ∃ U, uN xa xb xc = U := ⟨_, rfl⟩
            rw [hT, hU] at HRN HXE ⊢
            rw [hT] at lT
            rw [hU] at lU
            clear hT hU HT HU HRE
            have HO1 : Hid (∀ v ∈ ([.int .u32 (((T : Int) + (U : Int)) % 4294967296), .int .u32 (xa : Int), .int .u32 (xb : Int), .int .u32 (xc : Int), .int .u32 (((xd : Int) + (T : Int)) % 4294967296), .int .u32 (xe : Int), .int .u32 (xf : Int), .int .u32 (xg : Int)] : List Value), v.oneCell' = true) := by show ∀ v ∈ _, _; rw [← HXE.out]; exact uv_one _
            go_wp2_with (refine st8.wpStore (by rfl) (.tmp 10) (.tmp 182) (by rfl) (by rfl) hX (by rfl) [.int .u32 (((T : Int) + (U : Int)) % 4294967296), .int .u32 (xa : Int), .int .u32 (xb : Int), .int .u32 (xc : Int), .int .u32 (((xd : Int) + (T : Int)) % 4294967296), .int .u32 (xe : Int), .int .u32 (xf : Int), .int .u32 (xg : Int)] (by rfl) (by rfl) HO1.out ?_)
            have hX2 : Bk (V2.setRow g ([.int .u32 (((T : Int) + (U : Int)) % 4294967296), .int .u32 (xa : Int), .int .u32 (xb : Int), .int .u32 (xc : Int), .int .u32 (((xd : Int) + (T : Int)) % 4294967296), .int .u32 (xe : Int), .int .u32 (xf : Int), .int .u32 (xg : Int)] : List Value).toArray) g 38 (([(T + U) % 4294967296, xa, xb, xc, (xd + T) % 4294967296, xe, xf, xg] : List Nat).map uv) := by rw [HXE.out]; exact hX.row _
            have hB2 := hB.grown (grown_row V2 g ([.int .u32 (((T : Int) + (U : Int)) % 4294967296), .int .u32 (xa : Int), .int .u32 (xb : Int), .int .u32 (xc : Int), .int .u32 (((xd : Int) + (T : Int)) % 4294967296), .int .u32 (xe : Int), .int .u32 (xf : Int), .int .u32 (xg : Int)] : List Value).toArray) (by simp; omega)
            have hK2 := hK.grown (grown_row V2 g ([.int .u32 (((T : Int) + (U : Int)) % 4294967296), .int .u32 (xa : Int), .int .u32 (xb : Int), .int .u32 (xc : Int), .int .u32 (((xd : Int) + (T : Int)) % 4294967296), .int .u32 (xe : Int), .int .u32 (xf : Int), .int .u32 (xg : Int)] : List Value).toArray) (by simp; omega)
            have hS2 := hS.grown (grown_row V2 g ([.int .u32 (((T : Int) + (U : Int)) % 4294967296), .int .u32 (xa : Int), .int .u32 (xb : Int), .int .u32 (xc : Int), .int .u32 (((xd : Int) + (T : Int)) % 4294967296), .int .u32 (xe : Int), .int .u32 (xf : Int), .int .u32 (xg : Int)] : List Value).toArray) (by simp; omega)
            have hV2 := hV.grown (grown_row V2 g ([.int .u32 (((T : Int) + (U : Int)) % 4294967296), .int .u32 (xa : Int), .int .u32 (xb : Int), .int .u32 (xc : Int), .int .u32 (((xd : Int) + (T : Int)) % 4294967296), .int .u32 (xe : Int), .int .u32 (xf : Int), .int .u32 (xg : Int)] : List Value).toArray) (by simp; omega)
            have hb2 := below_row hb (g := g) (by omega) ([.int .u32 (((T : Int) + (U : Int)) % 4294967296), .int .u32 (xa : Int), .int .u32 (xb : Int), .int .u32 (xc : Int), .int .u32 (((xd : Int) + (T : Int)) % 4294967296), .int .u32 (xe : Int), .int .u32 (xf : Int), .int .u32 (xg : Int)] : List Value).toArray
            clear hX hB hK hS hV hb q0 q1 q2 q3 q4 q5 q6 q7 HO1 HXE
            go_roundw
            case rel => exact ⟨j + 1, (T + U) % 4294967296, xa, xb, xc, (xd + T) % 4294967296, xe, xf, xg, by omega, by go_num, Lib.hid HRN.out, hX2, hB2, hK2, hS2, hV2, hb2⟩
            case measure => simp [intOf]; omega
            --Z
          · obtain rfl : j = 64 := by omega
            have hst : St [xa, xb, xc, xd, xe, xf, xg, xh] := by rw [← HR.out]; exact HS.out.rnds _ _
            have HF : Hid (blockN [a0, b0, c0, d0, e0, f0, g0, h0] l = addS [a0, b0, c0, d0, e0, f0, g0, h0] [xa, xb, xc, xd, xe, xf, xg, xh]) := by show _ = _; rw [blockN, HWS.out, HR.out]
            have HXS := Lib.hid hst
            clear hst HR hK hB
            rw [show ((64 : Nat) : Int) = 64 from rfl]
            go_wp2_with fail
            obtain ⟨v, hve⟩ : ∃ v, [xa, xb, xc, xd, xe, xf, xg, xh] = v := ⟨_, rfl⟩
            obtain ⟨u, hse⟩ : ∃ u, [a0, b0, c0, d0, e0, f0, g0, h0] = u := ⟨_, rfl⟩
            rw [hve] at HF HXS hX
            rw [hse] at HF HS hS
            have h8 : u.length = 8 := HS.out.1
            have h8v : v.length = 8 := HXS.out.1
            have HL := Lib.hid h8
            have HLV := Lib.hid h8v
            have HSE := Lib.hid hse
            clear hve hse h8 h8v
            rw [← addL_zero v u] at hX
            go_loopw [14] (fun i wr => ∃ j : Nat, j ≤ 8 ∧ i = .int .i64 j ∧ Bk wr g 38 (addL v u j) ∧ Bk wr w.heap.size 38 (u.map uv) ∧ Bk wr (w.heap.size + 1) 38 [zu, zu, zu, zu, zu, zu, zu, zu] ∧ Below w.heap.size w wr) (fun i _ => 8 - (intOf i).toNat)
            case atStart => exact ⟨0, by omega, rfl, hX, hS, hV, hb⟩
            case round =>
              clear hX hS hV hb hlt hj
              obtain ⟨j, hj, rfl, hX, hS, hV, hb⟩ := hrel
              by_cases hlt : j < 8
              · have hsl : j < u.length := by rw [HL.out]; exact hlt
                have hvl : j < v.length := by rw [HLV.out]; exact hlt
                have hc := (hX.cell j).trans (addL_at v u j (by rw [HL.out, HLV.out]) hvl)
                have hd : wr.cell? ⟨w.heap.size, j, none⟩ = some (.int .u32 ((u[j] : Nat) : Int)) := by rw [hS.cell, List.getElem?_map, List.getElem?_eq_getElem hsl]; rfl
                have hf := hX.frozen j
                have hX2 := hX.set_ j (uv ((v[j] + u[j]) % 4294967296))
                rw [addL_step v u j (by rw [HL.out, HLV.out]) hvl] at hX2
                have hS2 := hS.far (p := ⟨g, j, none⟩) (by simp; omega) (uv ((v[j] + u[j]) % 4294967296))
                have hV2 := hV.far (p := ⟨g, j, none⟩) (by simp; omega) (uv ((v[j] + u[j]) % 4294967296))
                have hb2 := hb.setCell (p := ⟨g, j, none⟩) (by simp; omega) (uv ((v[j] + u[j]) % 4294967296))
                have ls := HS.out.2 u[j] (List.getElem_mem hsl)
                have lv := HXS.out.2 v[j] (List.getElem_mem hvl)
                obtain ⟨x, hx⟩ : ∃ x, u[j] = x := ⟨_, rfl⟩
                obtain ⟨y, hy⟩ : ∃ y, v[j] = y := ⟨_, rfl⟩
                rw [hx, hy] at hX2 hS2 hV2 hb2
                rw [hx] at hd ls
                rw [hy] at hc lv
                clear hS hV hb hX hx hy hsl hvl
                have e : uv ((y + x) % 4294967296) = .int .u32 (((y : Int) + (x : Int)) % 4294967296) := by unfold uv; congr 1
                rw [e] at hX2 hS2 hV2 hb2
                clear e
                have j0 : (0 : Int) ≤ (j : Int) := by omega
                have j1 : (j : Int) < 8 := by omega
                go_wp2_with fail
                go_still_tail 9, (by kernel_rfl)
                go_wp2_with fail
                go_roundw
                case rel => exact ⟨j + 1, by omega, by go_num, hX2, hS2, hV2, below_drewN hb2 1⟩
                case measure => simp [intOf]; omega
              · obtain rfl : j = 8 := by omega
                have h1 := uv_one (addS v u)
                have hall : addL v u 8 = (addS v u).map uv := by have := addL_all v u (by rw [HL.out, HLV.out]); rwa [HLV.out] at this
                rw [hall] at hX
                have HLA : Hid (((addS v u).map uv).length = 8) := by show _ = _; rw [List.length_map, addS_length v u (by rw [HL.out, HLV.out]), HLV.out]
                have HC : Hid (addS v u = addS u v) := by show _ = _; exact addS_comm v u
                clear hall
                go_wp2_with (first | (refine st8.wpLoad (by rfl) (.tmp 10) (by rfl) (by rfl) hX HLA.out ?_) | (refine st8.wpStore (by rfl) (.tmp 4) (.tmp 196) (by rfl) (by rfl) hV (by rfl) ((addS v u).map uv) (by rfl) HLA.out h1 ?_))
                exact bodyPost_ret (st8.result rfl _ (hV.row _) (by rw [List.toList_toArray]; exact HLA.out) rfl) rfl ⟨by rw [List.toList_toArray, HSE.out, HF.out, HC.out], below_row hb (by omega) _⟩
end Go.Proofs.YtfcffafmcihamaaDoor
