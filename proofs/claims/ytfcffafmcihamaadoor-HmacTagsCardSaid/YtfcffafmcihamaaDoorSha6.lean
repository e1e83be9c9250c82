/-
  sha.schedule.
-/
import Derived.Test.YtfcffafmcihamaaDoorSha2
namespace Go.Proofs.YtfcffafmcihamaaDoor
open Go.RowKit
set_option linter.unusedVariables false

def zu : Value := .int .u32 0
/-- The numbers of a block, when the first j are laid. -/
def schL (b : List UInt8) (j : Nat) : List Value := (sched b j).map uv ++ List.replicate (64 - j) zu
theorem schL_length (b : List UInt8) (j : Nat) (hj : j ≤ 64) : (schL b j).length = 64 := by
  unfold schL
  simp
  omega
theorem schL_step (b : List UInt8) (j x : Nat) (hj : j < 64) (hx : x = if j < 16 then word b j else wnext (sched b j) j) : (schL b j).set j (uv x) = schL b (j + 1) := by
  subst hx
  unfold schL
  rw [sched, List.map_append, List.set_append_right _ _ (by simp)]
  have e : 64 - j = (64 - (j + 1)) + 1 := by omega
  simp only [List.length_map, sched_length, Nat.sub_self]
  rw [e, List.replicate_succ, List.set_cons_zero]
  simp
theorem schL_at (b : List UInt8) (j i : Nat) (hi : i < j) : (schL b j)[i]? = some (.int .u32 (((sched b j).getD i 0 : Nat) : Int)) := by
  unfold schL
  have hl : i < (sched b j).length := by simpa using hi
  rw [List.getElem?_append_left (by simpa using hi), List.getElem?_map, List.getElem?_eq_getElem hl]
  simp [uv, List.getD, List.getElem?_eq_getElem hl]
theorem schL_all (b : List UInt8) : schL b 64 = (sched b 64).map uv := by
  unfold schL
  simp
theorem by_at (b : List UInt8) (i : Nat) (hi : i < b.length) : (b.map bv)[i]? = some (.int .u8 ((byteAt b i : Nat) : Int)) := by
  rw [List.getElem?_map, List.getElem?_eq_getElem hi]
  simp [bv, byteAt, List.getD, List.getElem?_eq_getElem hi]

theorem u32_in (n : Int) (h0 : 0 ≤ n) (h1 : n < 4294967296) : IntKind.u32.wrap n = n := by
  rw [IntKind.wrap_u32']
  omega
theorem or_sum32 (k a b : Nat) (ha : 2 ^ k * (a / 2 ^ k) = a) (hb : b < 2 ^ k) (h : a + b < 4294967296) : bits .or .u32 (a : Int) (b : Int) = ((a + b : Nat) : Int) := by
  rw [u32_or_nat a b (by omega) (by omega)]
  have := Nat.two_pow_add_eq_or_of_lt hb (a / 2 ^ k)
  rw [ha] at this
  rw [this]
theorem or_word (x0 x1 x2 x3 : Nat) (b0 : x0 < 256) (b1 : x1 < 256) (b2 : x2 < 256) (b3 : x3 < 256) :
    bits .or .u32 (bits .or .u32 (bits .or .u32 ((x0 : Int) * 16777216) ((x1 : Int) * 65536)) ((x2 : Int) * 256)) (x3 : Int) = ((x0 * 16777216 + x1 * 65536 + x2 * 256 + x3 : Nat) : Int) := by
  have e1 : ((x0 : Int) * 16777216) = ((x0 * 16777216 : Nat) : Int) := by omega
  have e2 : ((x1 : Int) * 65536) = ((x1 * 65536 : Nat) : Int) := by omega
  have e3 : ((x2 : Int) * 256) = ((x2 * 256 : Nat) : Int) := by omega
  rw [e1, e2, e3, or_sum32 24 _ _ (by omega) (by omega) (by omega), or_sum32 16 _ _ (by omega) (by omega) (by omega), or_sum32 8 _ _ (by omega) (by omega) (by omega)]

theorem sg0_int (x : Nat) (hx : x < 4294967296) : bits .xor .u32 (bits .xor .u32 ((rotr 7 x : Nat) : Int) ((rotr 18 x : Nat) : Int)) ((x : Int) / 8) = ((sg0 x : Nat) : Int) := by
  have h1 := rotr_lt 7 x hx
  have h2 := rotr_lt 18 x hx
  have e : ((x : Int) / 8) = ((x / 8 : Nat) : Int) := by omega
  rw [e, u32_xor_nat _ _ h1 h2, u32_xor_nat _ _ (Nat.xor_lt_two_pow (n := 32) h1 h2) (by omega)]
  rfl
theorem sg1_int (x : Nat) (hx : x < 4294967296) : bits .xor .u32 (bits .xor .u32 ((rotr 17 x : Nat) : Int) ((rotr 19 x : Nat) : Int)) ((x : Int) / 1024) = ((sg1 x : Nat) : Int) := by
  have h1 := rotr_lt 17 x hx
  have h2 := rotr_lt 19 x hx
  have e : ((x : Int) / 1024) = ((x / 1024 : Nat) : Int) := by omega
  rw [e, u32_xor_nat _ _ h1 h2, u32_xor_nat _ _ (Nat.xor_lt_two_pow (n := 32) h1 h2) (by omega)]
  rfl

set_option maxHeartbeats 1600000 in
set_option maxRecDepth 100000 in
theorem schedule_any (b : List UInt8) (w : World) (hb : b.length = 64) : Calls Tryd.prog 31 #[.agg (b.map bv).toArray] w (RetA (.agg ((sched b 64).map uv).toArray) w) := by
  have HB := Lib.hid hb
  have H1 := Lib.hid (uv_one (sched b 64))
  clear hb
  go_enter Tryd.func31, Tryd.ntmps31
  go_wp2_with fail
  go_loopw [4, 8] (fun _ i wr => ∃ j : Nat, j ≤ 16 ∧ i = .int .i64 j ∧ Bk wr (w.heap.size + 1 + 1) 47 (schL b j) ∧ Bk wr w.heap.size 41 (b.map bv) ∧ (∃ vs, Bk wr (w.heap.size + 1) 47 vs ∧ Hid (vs.length = 64)) ∧ Below w.heap.size w wr) (fun _ i _ => 16 - (intOf i).toNat)
  case atStart =>
    exact ⟨0, Nat.zero_le _, rfl, Bk.new' _ _ _ _ (schL b 0) (by simp) rfl, ((Bk.new' _ _ _ _ _ rfl rfl).alloc _).alloc _, ⟨_, (Bk.new' _ _ _ _ (schL b 0) (by simp) rfl).alloc _, Lib.hid rfl⟩, (((Below.refl _ _).alloc (Nat.le_refl _) _).alloc (by simp) _).alloc (by simp; omega) _⟩
  case round =>
    obtain ⟨j, hj, rfl, hB, hS, ⟨vs, hV, HV⟩, hb⟩ := hrel
    by_cases hlt : j < 16
    · have c0 := (hS.cell (4 * j)).trans (by_at b (4 * j) (by rw [HB.out]; omega))
      have c1 := (hS.cell (4 * j + 1)).trans (by_at b (4 * j + 1) (by rw [HB.out]; omega))
      have c2 := (hS.cell (4 * j + 2)).trans (by_at b (4 * j + 2) (by rw [HB.out]; omega))
      have c3 := (hS.cell (4 * j + 3)).trans (by_at b (4 * j + 3) (by rw [HB.out]; omega))
      have b0 := byteAt_lt b (4 * j)
      have b1 := byteAt_lt b (4 * j + 1)
      have b2 := byteAt_lt b (4 * j + 2)
      have b3 := byteAt_lt b (4 * j + 3)
      have HW : Hid (word b j = byteAt b (4 * j) * 16777216 + byteAt b (4 * j + 1) * 65536 + byteAt b (4 * j + 2) * 256 + byteAt b (4 * j + 3)) := Lib.hid rfl
      obtain ⟨x0, h0⟩ : ∃ x, byteAt b (4 * j) = x := ⟨_, rfl⟩
      obtain ⟨x1, h1⟩ : ∃ x, byteAt b (4 * j + 1) = x := ⟨_, rfl⟩
      obtain ⟨x2, h2⟩ : ∃ x, byteAt b (4 * j + 2) = x := ⟨_, rfl⟩
      obtain ⟨x3, h3⟩ : ∃ x, byteAt b (4 * j + 3) = x := ⟨_, rfl⟩
      rw [h0, h1, h2, h3] at HW
      rw [h0] at c0 b0
      rw [h1] at c1 b1
      rw [h2] at c2 b2
      rw [h3] at c3 b3
      have hl := schL_length b j (by omega)
      obtain ⟨v0, cw⟩ := hB.has j (by omega)
      have hfr := hB.frozen j
      have HL := Lib.hid hl
      have i0 : (0 : Int) ≤ 4 * (j : Int) := by omega
      have i1 : (0 : Int) ≤ 4 * (j : Int) + 1 := by omega
      have i2 : (0 : Int) ≤ 4 * (j : Int) + 2 := by omega
      have i3 : (0 : Int) ≤ 4 * (j : Int) + 3 := by omega
      have k0 : 4 * (j : Int) < 64 := by omega
      have k1 : 4 * (j : Int) + 1 < 64 := by omega
      have k2 : 4 * (j : Int) + 2 < 64 := by omega
      have k3 : 4 * (j : Int) + 3 < 64 := by omega
      have n0 : (4 * (j : Int)).toNat = 4 * j := by omega
      have n1 : (4 * (j : Int) + 1).toNat = 4 * j + 1 := by omega
      have n2 : (4 * (j : Int) + 2).toNat = 4 * j + 2 := by omega
      have n3 : (4 * (j : Int) + 3).toNat = 4 * j + 3 := by omega
      have w0 : IntKind.i64.wrap (4 * (j : Int)) = 4 * (j : Int) := IntWalk.i64_in _ (by omega)
      have w1 : IntKind.i64.wrap (4 * (j : Int) + 1) = 4 * (j : Int) + 1 := IntWalk.i64_in _ (by omega)
      have w2 : IntKind.i64.wrap (4 * (j : Int) + 2) = 4 * (j : Int) + 2 := IntWalk.i64_in _ (by omega)
      have w3 : IntKind.i64.wrap (4 * (j : Int) + 3) = 4 * (j : Int) + 3 := IntWalk.i64_in _ (by omega)
      have j0 : (0 : Int) ≤ (j : Int) := by omega
      have j1 : (j : Int) < 64 := by omega
      have u0 : IntKind.u32.wrap (x0 : Int) = x0 := u32_in _ (by omega) (by omega)
      have u1 : IntKind.u32.wrap (x1 : Int) = x1 := u32_in _ (by omega) (by omega)
      have u2 : IntKind.u32.wrap (x2 : Int) = x2 := u32_in _ (by omega) (by omega)
      have u3 : IntKind.u32.wrap (x3 : Int) = x3 := u32_in _ (by omega) (by omega)
      have v1 : IntKind.u32.wrap ((x0 : Int) * 16777216) = x0 * 16777216 := u32_in _ (by omega) (by omega)
      have v2 : IntKind.u32.wrap ((x1 : Int) * 65536) = x1 * 65536 := u32_in _ (by omega) (by omega)
      have v3 : IntKind.u32.wrap ((x2 : Int) * 256) = x2 * 256 := u32_in _ (by omega) (by omega)
      clear h0 h1 h2 h3 hl
      have HO := Lib.hid (or_word x0 x1 x2 x3 b0 b1 b2 b3)
      have hB2 := hB.set_ j (uv (x0 * 16777216 + x1 * 65536 + x2 * 256 + x3))
      rw [schL_step b j _ (by omega) (by rw [if_pos hlt]; exact HW.out.symm)] at hB2
      have hS2 := hS.far (p := ⟨w.heap.size + 1 + 1, j, none⟩) (by simp; omega) (uv (x0 * 16777216 + x1 * 65536 + x2 * 256 + x3))
      have hV2 := hV.far (p := ⟨w.heap.size + 1 + 1, j, none⟩) (by simp) (uv (x0 * 16777216 + x1 * 65536 + x2 * 256 + x3))
      have hb2 := hb.setCell (p := ⟨w.heap.size + 1 + 1, j, none⟩) (by simp; omega) (uv (x0 * 16777216 + x1 * 65536 + x2 * 256 + x3))
      clear hB hS hV hb
      unfold uv at hB2 hS2 hV2 hb2
      go_wp2_with fail
      go_still_tail 31, (by kernel_rfl)
      go_wp2_with fail
      rw [HO.out]
      go_roundw
      case rel => exact ⟨j + 1, by omega, by go_num, hB2, hS2, ⟨vs, hV2, HV⟩, below_drewN hb2 1⟩
      case measure => simp [intOf]; omega
    · obtain rfl : j = 16 := by omega
      rw [show ((16 : Nat) : Int) = 16 from rfl]
      go_wp2_with fail
      go_loopw [5, 6, 7] (fun i _ _ wr => ∃ j : Nat, 16 ≤ j ∧ j ≤ 64 ∧ i = .int .i64 j ∧ Bk wr (w.heap.size + 1 + 1) 47 (schL b j) ∧ Bk wr (w.heap.size + 1) 47 vs ∧ Below w.heap.size w wr) (fun i _ _ _ => 64 - (intOf i).toNat)
      case atStart => exact ⟨16, by omega, by omega, rfl, hB, hV, hb⟩
      case round =>
        clear hS hB hV hb hj hlt
        obtain ⟨j, hj16, hj, rfl, hB, hV, hb⟩ := hrel
        by_cases hlt : j < 64
        · have c16 := (hB.cell (j - 16)).trans (schL_at b j (j - 16) (by omega))
          have c15 := (hB.cell (j - 15)).trans (schL_at b j (j - 15) (by omega))
          have c7 := (hB.cell (j - 7)).trans (schL_at b j (j - 7) (by omega))
          have c2 := (hB.cell (j - 2)).trans (schL_at b j (j - 2) (by omega))
          have y16 := getD_lt (sched_lt b j) (j - 16)
          have y15 := getD_lt (sched_lt b j) (j - 15)
          have y7 := getD_lt (sched_lt b j) (j - 7)
          have y2 := getD_lt (sched_lt b j) (j - 2)
          have HW : Hid (wnext (sched b j) j = ((sched b j).getD (j - 16) 0 + sg0 ((sched b j).getD (j - 15) 0) + (sched b j).getD (j - 7) 0 + sg1 ((sched b j).getD (j - 2) 0)) % 4294967296) := Lib.hid rfl
          obtain ⟨x16, h16⟩ : ∃ x, (sched b j).getD (j - 16) 0 = x := ⟨_, rfl⟩
          obtain ⟨x15, h15⟩ : ∃ x, (sched b j).getD (j - 15) 0 = x := ⟨_, rfl⟩
          obtain ⟨x7, h7⟩ : ∃ x, (sched b j).getD (j - 7) 0 = x := ⟨_, rfl⟩
          obtain ⟨x2, h2⟩ : ∃ x, (sched b j).getD (j - 2) 0 = x := ⟨_, rfl⟩
          rw [h16, h15, h7, h2] at HW
          rw [h16] at c16 y16
          rw [h15] at c15 y15
          rw [h7] at c7 y7
          rw [h2] at c2 y2
          have hl := schL_length b j (by omega)
          obtain ⟨v0, cw⟩ := hB.has j (by omega)
          have hfr := hB.frozen j
          have i16 : (0 : Int) ≤ (j : Int) - 16 := by omega
          have i15 : (0 : Int) ≤ (j : Int) - 15 := by omega
          have i7 : (0 : Int) ≤ (j : Int) - 7 := by omega
          have i2 : (0 : Int) ≤ (j : Int) - 2 := by omega
          have p16 : (16 : Int) ≤ (j : Int) := by omega
          have p15 : (15 : Int) ≤ (j : Int) := by omega
          have p7 : (7 : Int) ≤ (j : Int) := by omega
          have p2 : (2 : Int) ≤ (j : Int) := by omega
          have k16 : (j : Int) - 16 < 64 := by omega
          have k15 : (j : Int) - 15 < 64 := by omega
          have k7 : (j : Int) - 7 < 64 := by omega
          have k2 : (j : Int) - 2 < 64 := by omega
          have n16 : ((j : Int) - 16).toNat = j - 16 := by omega
          have n15 : ((j : Int) - 15).toNat = j - 15 := by omega
          have n7 : ((j : Int) - 7).toNat = j - 7 := by omega
          have n2 : ((j : Int) - 2).toNat = j - 2 := by omega
          have w16 : IntKind.i64.wrap ((j : Int) - 16) = (j : Int) - 16 := IntWalk.i64_in _ (by omega)
          have w15 : IntKind.i64.wrap ((j : Int) - 15) = (j : Int) - 15 := IntWalk.i64_in _ (by omega)
          have w7 : IntKind.i64.wrap ((j : Int) - 7) = (j : Int) - 7 := IntWalk.i64_in _ (by omega)
          have w2 : IntKind.i64.wrap ((j : Int) - 2) = (j : Int) - 2 := IntWalk.i64_in _ (by omega)
          have j0 : (0 : Int) ≤ (j : Int) := by omega
          have j1 : (j : Int) < 64 := by omega
          clear h16 h15 h7 h2 hl
          go_wp2_with fail
          go_quiet (fail)
          obtain ⟨W, hW⟩ : ∃ W, W = wr.drewN nq := ⟨_, rfl⟩
          replace c16 : W.cell? ⟨w.heap.size + 1 + 1, j - 16, none⟩ = some (.int .u32 (x16 : Int)) := by rw [hW]; exact c16
          replace c7 : W.cell? ⟨w.heap.size + 1 + 1, j - 7, none⟩ = some (.int .u32 (x7 : Int)) := by rw [hW]; exact c7
          replace cw : W.cell? ⟨w.heap.size + 1 + 1, j, none⟩ = some v0 := by rw [hW]; exact cw
          replace hfr : W.frozen? ⟨w.heap.size + 1 + 1, j, none⟩ = false := by rw [hW]; exact hfr
          replace hB : Bk W (w.heap.size + 1 + 1) 47 (schL b j) := by rw [hW]; exact hB
          replace hV : Bk W (w.heap.size + 1) 47 vs := by rw [hW]; exact hV
          replace hb : Below w.heap.size w W := by rw [hW]; exact below_drewN hb nq
          rw [← hW]
          clear hW c15 c2
          go_wp2_with fail
          refine wp_region_still_tail 29 (by kernel_rfl) (by kernel_rfl) ?_
          simp only [List.take_succ_cons, List.take_zero, List.drop_succ_cons, List.drop_zero]
          repeat (refine wpStill_step (fun K hK => ?_); go_simp; (first | (with_reducible refine ⟨_, stl (right_7 _ _ y15), hK _ ?_⟩) | (with_reducible refine ⟨_, stl (right_18 _ _ y15), hK _ ?_⟩) | (with_reducible refine ⟨_, stl (right_17 _ _ y2), hK _ ?_⟩) | (with_reducible refine ⟨_, stl (right_19 _ _ y2), hK _ ?_⟩) | refine hK _ ?_); clear hK K)
          try refine wpStill_nil ?_
          have HI : Hid ((((x16 : Int) + bits .xor .u32 (bits .xor .u32 ((rotr 7 x15 : Nat) : Int) ((rotr 18 x15 : Nat) : Int)) ((x15 : Int) / 8) + (x7 : Int) + bits .xor .u32 (bits .xor .u32 ((rotr 17 x2 : Nat) : Int) ((rotr 19 x2 : Nat) : Int)) ((x2 : Int) / 1024)) % 4294967296) = ((wnext (sched b j) j : Nat) : Int)) := by
            show _ = _
            rw [sg0_int x15 y15, sg1_int x2 y2, HW.out]
            omega
          have hB2 := hB.set_ j (uv (wnext (sched b j) j))
          rw [schL_step b j _ (by omega) (by rw [if_neg (by omega)])] at hB2
          have hV2 := hV.far (p := ⟨w.heap.size + 1 + 1, j, none⟩) (by simp) (uv (wnext (sched b j) j))
          have hb2 := hb.setCell (p := ⟨w.heap.size + 1 + 1, j, none⟩) (by simp; omega) (uv (wnext (sched b j) j))
          clear hB hV hb
          unfold uv at hB2 hV2 hb2
          go_wp2_with fail
          rw [HI.out]
          go_roundw
          case rel => exact ⟨j + 1, by omega, by omega, by go_num, hB2, hV2, below_drewN hb2 1⟩
          case measure => simp [intOf]; omega
        · obtain rfl : j = 64 := by omega
          rw [schL_all] at hB
          have HL : Hid (((sched b 64).map uv).length = 64) := by show _ = _; simp
          have h1 := H1.out
          go_wp2_with (first | (refine wd64.wpLoad (by rfl) (.tmp 3) (by rfl) (by rfl) hB HL.out ?_) | (refine wd64.wpStore (by rfl) (.tmp 2) (.tmp 84) (by rfl) (by rfl) hV HV.out ((sched b 64).map uv) (by rfl) HL.out h1 ?_))
          exact bodyPost_ret (wd64.result rfl _ (hV.row _) (by rw [List.toList_toArray]; exact HL.out) rfl) rfl ⟨by rw [List.toList_toArray], below_row hb (by omega) _⟩
end Go.Proofs.YtfcffafmcihamaaDoor
