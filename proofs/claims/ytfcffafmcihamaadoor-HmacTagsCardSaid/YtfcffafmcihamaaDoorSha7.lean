/-
  sha.Block.
-/
import Derived.Test.YtfcffafmcihamaaDoorSha6
import Derived.Test.YtfcffafmcihamaaDoorShaI
namespace Go.Proofs.YtfcffafmcihamaaDoor
open Go.RowKit
set_option linter.unusedVariables false

/-- The package's constants stand in their block. -/
def Kons (w : World) : Prop := ∀ i, i < 64 → w.cell? ⟨0, i, none⟩ = some (.int .u32 ((kC.getD i 0 : Nat) : Int))
theorem Kons.lt {w : World} (h : Kons w) : 0 < w.heap.size := World.block_lt_of_cell? w ⟨0, 0, none⟩ (h 0 (by omega))
theorem Kons.below {w w' : World} (h : Kons w) (hb : Below w.heap.size w w') : Kons w' := fun i hi => (hb.cell (p := ⟨0, i, none⟩) h.lt).trans (h i hi)

/-- The state, when the first j numbers are added. -/
def addL (s v : List Nat) (j : Nat) : List Value := ((addS s v).take j ++ s.drop j).map uv
theorem addS_length (s v : List Nat) (h : s.length = v.length) : (addS s v).length = s.length := by
  unfold addS
  simp
  omega
theorem addL_length (s v : List Nat) (j : Nat) (h : s.length = v.length) (hj : j ≤ s.length) : (addL s v j).length = s.length := by
  unfold addL
  have := addS_length s v h
  simp
  omega
theorem addL_at (s v : List Nat) (j : Nat) (h : s.length = v.length) (hj : j < s.length) : (addL s v j)[j]? = some (.int .u32 ((s[j] : Nat) : Int)) := by
  unfold addL
  have := addS_length s v h
  rw [List.map_append, List.getElem?_append_right (by simp; omega), List.getElem?_map]
  have e : j - (List.map uv ((addS s v).take j)).length = 0 := by simp; omega
  rw [e, List.getElem?_drop, Nat.add_zero, List.getElem?_eq_getElem hj]
  rfl
theorem addL_step (s v : List Nat) (j : Nat) (h : s.length = v.length) (hj : j < s.length) : (addL s v j).set j (uv ((s[j] + v[j]) % 4294967296)) = addL s v (j + 1) := by
  unfold addL
  have hl := addS_length s v h
  have e1 : s.drop j = s[j] :: s.drop (j + 1) := List.drop_eq_getElem_cons hj
  have e2 : (addS s v)[j]'(by omega) = (s[j] + v[j]) % 4294967296 := by simp [addS]
  rw [e1, List.map_append, List.set_append_right _ _ (by simp; omega), List.take_succ_eq_append_getElem (show j < (addS s v).length by omega), e2]
  have e : j - (List.map uv ((addS s v).take j)).length = 0 := by simp; omega
  rw [e, List.map_cons, List.set_cons_zero]
  simp
theorem addL_zero (s v : List Nat) : addL s v 0 = s.map uv := by simp [addL]
theorem addL_all (s v : List Nat) (h : s.length = v.length) : addL s v s.length = (addS s v).map uv := by
  unfold addL
  have := addS_length s v h
  rw [List.take_of_length_le (by omega)]
  simp

set_option maxHeartbeats 1600000 in
set_option maxRecDepth 100000 in
theorem block_any (s : List Nat) (b : List UInt8) (w : World) (hs : St s) (hb : b.length = 64) (hK : Kons w) : Calls Tryd.prog 29 #[sv8 s, .agg (b.map bv).toArray] w (RetA (sv8 (blockN s b)) w) := by
  have HS := Lib.hid hs
  obtain ⟨a0, b0, c0, d0, e0, f0, g0, h0, rfl, -⟩ := hs.form
  have HB := Lib.hid hb
  have HBM : Hid ((b.map bv).length = 64) := by show _ = _; rw [List.length_map]; exact hb
  clear hb hs
  unfold sv8
  show Calls Tryd.prog 29 #[.agg #[.int .u32 (a0 : Int), .int .u32 (b0 : Int), .int .u32 (c0 : Int), .int .u32 (d0 : Int), .int .u32 (e0 : Int), .int .u32 (f0 : Int), .int .u32 (g0 : Int), .int .u32 (h0 : Int)], .agg (b.map bv).toArray] w _
  go_enter Tryd.func29, Tryd.ntmps29
  go_wp2_with fail
  obtain ⟨W, hW⟩ : ∃ W, W = ((w.alloc (.cells #[.int .u32 (a0 : Int), .int .u32 (b0 : Int), .int .u32 (c0 : Int), .int .u32 (d0 : Int), .int .u32 (e0 : Int), .int .u32 (f0 : Int), .int .u32 (g0 : Int), .int .u32 (h0 : Int)] 38)).alloc (.cells (b.map bv).toArray 41)).alloc (.cells #[.int .u32 0, .int .u32 0, .int .u32 0, .int .u32 0, .int .u32 0, .int .u32 0, .int .u32 0, .int .u32 0] 38) := ⟨_, rfl⟩
  have hS : Bk W w.heap.size 38 ([a0, b0, c0, d0, e0, f0, g0, h0].map uv) := by rw [hW]; exact ((Bk.new' _ _ _ _ _ rfl rfl).alloc _).alloc _
  have hM : Bk W (w.heap.size + 1) 41 (b.map bv) := by rw [hW]; exact (Bk.new' _ _ _ _ _ (by simp) rfl).alloc _
  have hV : Bk W (w.heap.size + 1 + 1) 38 [zu, zu, zu, zu, zu, zu, zu, zu] := by rw [hW]; exact Bk.new' _ _ _ _ _ (by simp) rfl
  have hb : Below w.heap.size w W := by rw [hW]; exact (((Below.refl _ _).alloc (Nat.le_refl _) _).alloc (by simp) _).alloc (by simp; omega) _
  have hsz : W.heap.size = w.heap.size + 3 := by rw [hW]; simp
  rw [← hW]
  clear hW
  have HZ := Lib.hid hsz
  clear hsz
  have q0 : W.cell? ⟨w.heap.size, 0, none⟩ = some (.int .u32 (a0 : Int)) := hS.cell 0
  have q1 : W.cell? ⟨w.heap.size, 1, none⟩ = some (.int .u32 (b0 : Int)) := hS.cell 1
  have q2 : W.cell? ⟨w.heap.size, 2, none⟩ = some (.int .u32 (c0 : Int)) := hS.cell 2
  have q3 : W.cell? ⟨w.heap.size, 3, none⟩ = some (.int .u32 (d0 : Int)) := hS.cell 3
  have q4 : W.cell? ⟨w.heap.size, 4, none⟩ = some (.int .u32 (e0 : Int)) := hS.cell 4
  have q5 : W.cell? ⟨w.heap.size, 5, none⟩ = some (.int .u32 (f0 : Int)) := hS.cell 5
  have q6 : W.cell? ⟨w.heap.size, 6, none⟩ = some (.int .u32 (g0 : Int)) := hS.cell 6
  have q7 : W.cell? ⟨w.heap.size, 7, none⟩ = some (.int .u32 (h0 : Int)) := hS.cell 7
  go_quiet (fail)
  obtain ⟨W2, hW⟩ : ∃ W2, W2 = W.drewN nq := ⟨_, rfl⟩
  replace hS : Bk W2 w.heap.size 38 ([a0, b0, c0, d0, e0, f0, g0, h0].map uv) := by rw [hW]; exact hS
  replace hM : Bk W2 (w.heap.size + 1) 41 (b.map bv) := by rw [hW]; exact hM
  replace hV : Bk W2 (w.heap.size + 1 + 1) 38 [zu, zu, zu, zu, zu, zu, zu, zu] := by rw [hW]; exact hV
  replace hb : Below w.heap.size w W2 := by rw [hW]; exact below_drewN hb nq
  have HZ2 : Hid (W2.heap.size = w.heap.size + 3) := by show _ = _; rw [hW]; exact HZ.out
  rw [← hW]
  clear hW HZ q0 q1 q2 q3 q4 q5 q6 q7
  go_wp2_with (refine by64.wpLoad (by rfl) (.tmp 3) (by rfl) (by rfl) hM HBM.out ?_)
  refine (schedule_any b W2 HB.out).mono ?_
  rintro e w1 ⟨rfl, hb1⟩
  replace hS := hS.below hb1 (by rw [HZ2.out]; omega)
  replace hV := hV.below hb1 (by rw [HZ2.out]; omega)
  replace hb := hb.trans (hb1.mono hb.size)
  have hK1 := hK.below hb
  obtain ⟨ws, hws⟩ : ∃ ws, sched b 64 = ws := ⟨_, rfl⟩
  have hwl : ∀ i, ws.getD i 0 < 4294967296 := fun i => by rw [← hws]; exact getD_lt (sched_lt b 64) i
  have hwn : ws.length = 64 := by rw [← hws]; simp
  rw [hws]
  have HWS := Lib.hid hws
  have HWL := Lib.hid hwl
  have HWN := Lib.hid hwn
  clear hM hb1 HZ2 hws hwl hwn
  have HIX := Lib.hid (fun (W : World) (j : Nat) (v : Value) (hv : (ws.map uv)[j]? = some v) => run_index_arr (P := Tryd.prog) W Tryd.underlying47 Tryd.underlying37 (by kernel_rfl) (ws.map uv) (by simpa using HWN.out) j v hv)
  go_wp2_with fail
  go_loopw [5, 6, 7, 8, 9, 10, 11, 12, 13, 14, 15, 16, 37] (fun ua ub uc ud ue uf ug uh _ _ _ _ i wr => ∃ j xa xb xc xd xe xf xg xh : Nat, j ≤ 64 ∧ i = .int .i64 j ∧ ua = .int .u32 xa ∧ ub = .int .u32 xb ∧ uc = .int .u32 xc ∧ ud = .int .u32 xd ∧ ue = .int .u32 xe ∧ uf = .int .u32 xf ∧ ug = .int .u32 xg ∧ uh = .int .u32 xh ∧
      Hid (rnds ws [a0, b0, c0, d0, e0, f0, g0, h0] j = [xa, xb, xc, xd, xe, xf, xg, xh]) ∧ Bk wr w.heap.size 38 ([a0, b0, c0, d0, e0, f0, g0, h0].map uv) ∧ Bk wr (w.heap.size + 1 + 1) 38 [zu, zu, zu, zu, zu, zu, zu, zu] ∧ Kons wr ∧ Below w.heap.size w wr)
    (fun _ _ _ _ _ _ _ _ _ _ _ _ i _ => 64 - (intOf i).toNat)
  case atStart => exact ⟨0, a0, b0, c0, d0, e0, f0, g0, h0, by omega, rfl, rfl, rfl, rfl, rfl, rfl, rfl, rfl, rfl, Lib.hid rfl, hS, hV, hK1, hb⟩
  case round =>
    clear hS hV hK1 hb
    obtain ⟨j, xa, xb, xc, xd, xe, xf, xg, xh, hj, rfl, rfl, rfl, rfl, rfl, rfl, rfl, rfl, rfl, HR, hS, hV, hK1, hb⟩ := hrel
    by_cases hlt : j < 64
    · have hst : St [xa, xb, xc, xd, xe, xf, xg, xh] := by rw [← HR.out]; exact HS.out.rnds _ _
      obtain ⟨-, hst⟩ := hst
      have la : xa < 4294967296 := hst _ (by simp)
      have lb : xb < 4294967296 := hst _ (by simp)
      have lc : xc < 4294967296 := hst _ (by simp)
      have ld : xd < 4294967296 := hst _ (by simp)
      have le : xe < 4294967296 := hst _ (by simp)
      have lf : xf < 4294967296 := hst _ (by simp)
      have lg : xg < 4294967296 := hst _ (by simp)
      have lh : xh < 4294967296 := hst _ (by simp)
      clear hst
      have hk := hK1 j hlt
      have hkl := kC_lt j
      have hwl := HWL.out j
      have hi := HIX.out wr j (.int .u32 ((ws.getD j 0 : Nat) : Int)) (by rw [List.getElem?_map, List.getElem?_eq_getElem (by rw [HWN.out]; exact hlt)]; simp [uv, List.getD, List.getElem?_eq_getElem (show j < ws.length by rw [HWN.out]; exact hlt)])
      have j0 : (0 : Int) ≤ (j : Int) := by omega
      have j1 : (j : Int) < 64 := by omega
      obtain ⟨k, hke⟩ : ∃ k, kC.getD j 0 = k := ⟨_, rfl⟩
      obtain ⟨x, hxe⟩ : ∃ x, ws.getD j 0 = x := ⟨_, rfl⟩
      have HRN : Hid (rnds ws [a0, b0, c0, d0, e0, f0, g0, h0] (j + 1) = rnd k x [xa, xb, xc, xd, xe, xf, xg, xh]) := by show _ = _; rw [rnds, HR.out, hke, hxe]
      rw [hke] at hk hkl
      rw [hxe] at hwl hi
      clear hke hxe HR
      have HT := Lib.hid (t_sum xe xf xg xh k x (big1_int xe le) (ch_int xe xf xg le lf lg))
      have HU := Lib.hid (u_sum xa xb xc (big0_int xa la) (maj_int xa xb xc la lb lc))
      go_wp2_with fail
      go_quiet ((go_at_call 32; (first | (with_reducible exact qst (right_6 _ _ le)) | (with_reducible exact qst (right_11 _ _ le)) | (with_reducible exact qst (right_25 _ _ le)))))
      go_wp2_with (go_at_call 32; (first | ((with_reducible refine (right_2 _ _ la).mono ?_); rintro e w' ⟨rfl, rfl⟩) | ((with_reducible refine (right_13 _ _ la).mono ?_); rintro e w' ⟨rfl, rfl⟩) | ((with_reducible refine (right_22 _ _ la).mono ?_); rintro e w' ⟨rfl, rfl⟩)))
      rw [HT.out, HU.out]
      go_roundw
      case rel =>
        refine ⟨j + 1, (tN xe xf xg xh k x + uN xa xb xc) % 4294967296, xa, xb, xc, (xd + tN xe xf xg xh k x) % 4294967296, xe, xf, xg, by omega, by go_num, ?_, rfl, rfl, rfl, ?_, rfl, rfl, rfl, Lib.hid HRN.out, hS, hV, fun i hi => hK1 i hi, below_drewN hb nq⟩
        · congr 1
        · congr 1
      case measure => simp [intOf]; omega
    · obtain rfl : j = 64 := by omega
      have hst : St [xa, xb, xc, xd, xe, xf, xg, xh] := by rw [← HR.out]; exact HS.out.rnds _ _
      have HF : Hid (blockN [a0, b0, c0, d0, e0, f0, g0, h0] b = addS [a0, b0, c0, d0, e0, f0, g0, h0] [xa, xb, xc, xd, xe, xf, xg, xh]) := by show _ = _; rw [blockN, HWS.out, HR.out]
      have HXS := Lib.hid hst
      clear hst HR hK1 hK
      go_wp2_with fail
      obtain ⟨v, hve⟩ : ∃ v, [xa, xb, xc, xd, xe, xf, xg, xh] = v := ⟨_, rfl⟩
      obtain ⟨s, hse⟩ : ∃ s, [a0, b0, c0, d0, e0, f0, g0, h0] = s := ⟨_, rfl⟩
      have HVE : Hid (Value.agg #[.int .u32 (xa : Int), .int .u32 (xb : Int), .int .u32 (xc : Int), .int .u32 (xd : Int), .int .u32 (xe : Int), .int .u32 (xf : Int), .int .u32 (xg : Int), .int .u32 (xh : Int)] = .agg (v.map uv).toArray) := by subst hve; exact Lib.hid rfl
      rw [hve] at HF HXS
      rw [hse] at HF HS hS ⊢
      have h8 : s.length = 8 := HS.out.1
      have h8v : v.length = 8 := HXS.out.1
      have HL := Lib.hid h8
      have HLV := Lib.hid h8v
      have HSE := Lib.hid hse
      clear hve hse h8 h8v
      have HI2 := Lib.hid (fun (W : World) (j : Nat) (u : Value) (hu : (v.map uv)[j]? = some u) => run_index_arr (P := Tryd.prog) W Tryd.underlying38 Tryd.underlying37 (by kernel_rfl) (v.map uv) (by simpa using HLV.out) j u hu)
      rw [HVE.out]
      rw [← addL_zero s v] at hS
      go_loopw [17, 18, 108] (fun _ _ i wr => ∃ j : Nat, j ≤ 8 ∧ i = .int .i64 j ∧ Bk wr w.heap.size 38 (addL s v j) ∧ Bk wr (w.heap.size + 1 + 1) 38 [zu, zu, zu, zu, zu, zu, zu, zu] ∧ Below w.heap.size w wr) (fun _ _ i _ => 8 - (intOf i).toNat)
      case atStart => exact ⟨0, by omega, rfl, hS, hV, hb⟩
      case round =>
        clear hS hV hb hlt hj
        obtain ⟨j, hj, rfl, hS, hV, hb⟩ := hrel
        by_cases hlt : j < 8
        · have hsl : j < s.length := by rw [HL.out]; exact hlt
          have hvl : j < v.length := by rw [HLV.out]; exact hlt
          have hi := HI2.out wr j (.int .u32 ((v[j] : Nat) : Int)) (by rw [List.getElem?_map, List.getElem?_eq_getElem hvl]; rfl)
          have hc := (hS.cell j).trans (addL_at s v j (by rw [HL.out, HLV.out]) hsl)
          have hf := hS.frozen j
          have hS2 := hS.set_ j (uv ((s[j] + v[j]) % 4294967296))
          rw [addL_step s v j (by rw [HL.out, HLV.out]) hsl] at hS2
          have hV2 := hV.far (p := ⟨w.heap.size, j, none⟩) (by simp; omega) (uv ((s[j] + v[j]) % 4294967296))
          have hb2 := hb.setCell (p := ⟨w.heap.size, j, none⟩) (by simp) (uv ((s[j] + v[j]) % 4294967296))
          have ls := HS.out.2 s[j] (List.getElem_mem hsl)
          have lv := HXS.out.2 v[j] (List.getElem_mem hvl)
          obtain ⟨x, hx⟩ : ∃ x, s[j] = x := ⟨_, rfl⟩
          obtain ⟨y, hy⟩ : ∃ y, v[j] = y := ⟨_, rfl⟩
          rw [hx, hy] at hS2 hV2 hb2
          rw [hx] at hc ls
          rw [hy] at hi lv
          clear hS hV hb hx hy hsl hvl
          have e : uv ((x + y) % 4294967296) = .int .u32 (((x : Int) + (y : Int)) % 4294967296) := by unfold uv; congr 1
          rw [e] at hS2 hV2 hb2
          clear e
          have j0 : (0 : Int) ≤ (j : Int) := by omega
          have j1 : (j : Int) < 8 := by omega
          go_wp2_with fail
          go_roundw
          case rel => exact ⟨j + 1, by omega, by go_num, hS2, hV2, hb2⟩
          case measure => simp [intOf]; omega
        · obtain rfl : j = 8 := by omega
          have h1 := uv_one (addS s v)
          have hall : addL s v 8 = (addS s v).map uv := by have := addL_all s v (by rw [HL.out, HLV.out]); rwa [HL.out] at this
          rw [hall] at hS
          have HLA : Hid (((addS s v).map uv).length = 8) := by show _ = _; rw [List.length_map, addS_length s v (by rw [HL.out, HLV.out]), HL.out]
          clear hall
          go_wp2_with (first | (refine st8.wpLoad (by rfl) (.tmp 2) (by rfl) (by rfl) hS HLA.out ?_) | (refine st8.wpStore (by rfl) (.tmp 4) (.tmp 119) (by rfl) (by rfl) hV (by rfl) ((addS s v).map uv) (by rfl) HLA.out h1 ?_))
          exact bodyPost_ret (st8.result rfl _ (hV.row _) (by rw [List.toList_toArray]; exact HLA.out) rfl) rfl ⟨by rw [List.toList_toArray, HSE.out, HF.out], below_row hb (by omega) _⟩
end Go.Proofs.YtfcffafmcihamaaDoor
