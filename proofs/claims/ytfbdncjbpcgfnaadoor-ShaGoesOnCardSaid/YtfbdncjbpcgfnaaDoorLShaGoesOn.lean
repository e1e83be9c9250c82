import Derived.Test.YtfbdncjbpcgfnaaDoorAwake03
import Derived.Test.YtfbdncjbpcgfnaaDoorShaB
import Derived.Test.YtfbdncjbpcgfnaaDoorSame
import Derived.Test.YtfbdncjbpcgfnaaDoorArr2
import Derived.Deep.RegionHeld3
namespace Go.Proofs.YtfbdncjbpcgfnaaDoor
open Go.RowKit
set_option linter.unusedVariables false

theorem Kons.grown {w w' : World} {g : Nat} (h : Kons w) (hg : w.grownBy w' (some g)) (h0 : 0 < g) : Kons w' := fun i hi =>
  (World.cell?_of_block (hg.block 0 h.lt (by simp; omega))).trans (h i hi)
theorem flat_length (bs : List (List UInt8)) (h : ∀ x ∈ bs, x.length = 64) : bs.flatten.length = 64 * bs.length := by
  induction bs with
  | nil => rfl
  | cons x r ih =>
    rw [List.flatten_cons, List.length_append, h x (by simp), ih (fun y hy => h y (by simp [hy])), List.length_cons]
    omega
theorem flat_drop (bs : List (List UInt8)) (h : ∀ x ∈ bs, x.length = 64) (j : Nat) (hj : j ≤ bs.length) : bs.flatten.drop (64 * j) = (bs.drop j).flatten := by
  induction j generalizing bs with
  | zero => rfl
  | succ j ih =>
    match bs, hj with
    | x :: r, hj =>
      rw [List.flatten_cons, show 64 * (j + 1) = x.length + 64 * j by rw [h x (by simp)]; omega, List.drop_length_add_append, List.drop_succ_cons]
      exact ih r (fun y hy => h y (by simp [hy])) (by simpa using hj)
theorem flat_at (bs : List (List UInt8)) (h : ∀ x ∈ bs, x.length = 64) (j : Nat) (hj : j < bs.length) : (bs.flatten.drop (64 * j)).take 64 = bs[j] := by
  rw [flat_drop bs h j (by omega), List.drop_eq_getElem_cons hj, List.flatten_cons, List.take_append_of_le_length (by rw [h _ (List.getElem_mem hj)]; omega), List.take_of_length_le (by rw [h _ (List.getElem_mem hj)]; omega)]
theorem flat_take (bs : List (List UInt8)) (j : Nat) (hj : j < bs.length) : (bs.take (j + 1)).flatten = (bs.take j).flatten ++ bs[j] := by
  rw [List.take_succ_eq_append_getElem hj, List.flatten_append]
  simp

theorem sha_on (F l : List UInt8) (n : Nat) (hF : F.length = 64 * n) (N : Nat) (hN : (F ++ l).length = N) : shaN (F ++ l) = digB (blks (blks iv F n) (l ++ padB N) ((l ++ padB N).length / 64)) := by
  have hl : (F ++ l).length = 64 * n + l.length := by rw [List.length_append, hF]
  unfold shaN
  rw [hN, List.append_assoc]
  have e : (N + 9 + zerosN N) / 64 = n + (l ++ padB N).length / 64 := by
    rw [List.length_append, padB_length]
    omega
  rw [e, blks_add, blks_pre iv F _ n (by omega), show (F ++ (l ++ padB N)).drop (64 * n) = l ++ padB N by rw [← hF, List.drop_left]]
theorem bq (a : Nat) : bv (UInt8.ofNat (a % 256)) = .int .u8 ((a : Int) % 256) := by
  unfold bv
  simp
theorem bq2 (a b : Nat) : bv (UInt8.ofNat (a / b % 256)) = .int .u8 ((a : Int) / (b : Int) % 256) := by
  rw [bq]
  simp
theorem dig_0 (x0 x1 x2 x3 x4 x5 x6 x7 : Nat) : ((beB 4 x0 ++ beB 4 x1 ++ beB 4 x2 ++ beB 4 x3 ++ beB 4 x4 ++ beB 4 x5 ++ beB 4 x6 ++ beB 4 x7).map bv)[0]? = some (.int .u8 ((x0 : Int) / 16777216 % 256)) := by
  rw [b4 x0]
  exact congrArg some (bq2 x0 16777216)
theorem dig_13 (x0 x1 x2 x3 x4 x5 x6 x7 : Nat) : ((beB 4 x0 ++ beB 4 x1 ++ beB 4 x2 ++ beB 4 x3 ++ beB 4 x4 ++ beB 4 x5 ++ beB 4 x6 ++ beB 4 x7).map bv)[13]? = some (.int .u8 ((x3 : Int) / 65536 % 256)) := by
  rw [b4 x0, b4 x1, b4 x2, b4 x3]
  exact congrArg some (bq2 x3 65536)
theorem dig_31 (x0 x1 x2 x3 x4 x5 x6 x7 : Nat) : ((beB 4 x0 ++ beB 4 x1 ++ beB 4 x2 ++ beB 4 x3 ++ beB 4 x4 ++ beB 4 x5 ++ beB 4 x6 ++ beB 4 x7).map bv)[31]? = some (.int .u8 ((x7 : Int) % 256)) := by
  rw [b4 x0, b4 x1, b4 x2, b4 x3, b4 x4, b4 x5, b4 x6, b4 x7]
  exact congrArg some (bq x7)
/-- The first k bytes are copied. -/
def cpL (X : List UInt8) (k : Nat) : List Value := (X.take k).map bv ++ List.replicate (64 - k) zb
theorem cpL_length (X : List UInt8) (k : Nat) (hX : X.length = 64) (hk : k ≤ 64) : (cpL X k).length = 64 := by
  unfold cpL
  simp
  omega
theorem cpL_step (X : List UInt8) (k : Nat) (hX : X.length = 64) (hk : k < 64) (x : UInt8) (hx : X[k]? = some x) : (cpL X k).set k (bv x) = cpL X (k + 1) := by
  obtain ⟨hkl, rfl⟩ := List.getElem?_eq_some_iff.1 hx
  unfold cpL
  rw [List.set_append_right _ _ (by simp; omega), List.take_succ_eq_append_getElem (by omega), List.map_append]
  have e1 : k - ((X.take k).map bv).length = 0 := by simp; omega
  have e2 : 64 - k = (64 - (k + 1)) + 1 := by omega
  rw [e1, e2, List.replicate_succ, List.set_cons_zero]
  simp
theorem cpL_all (X : List UInt8) (hX : X.length = 64) : cpL X 64 = X.map bv := by
  unfold cpL
  rw [List.take_of_length_le (by omega)]
  simp

theorem gB {W a b : World} {row : Option Nat} (hg : W.grownBy a row) (hb : Below W.heap.size a b) : W.grownBy b row :=
  ⟨hb.os.trans hg.os, hb.tape.trans hg.tape, hb.output.trans hg.output, Nat.le_trans hg.size hb.size, fun k hk hne => (hb.block k hk).trans (hg.block k hk hne)⟩

set_option maxHeartbeats 8000000 in
theorem shaGoesOn_go (A1 A2 : Option Addr) (n m c1 c2 : Nat) (bs : List (List UInt8)) (l : List UInt8) (w : World) (hn : Hid (bs.length = n)) (h64 : Hid (∀ x ∈ bs, x.length = 64)) (hm : Hid (l.length = m)) (hnc : n ≤ c1) (hc1 : c1 ≤ 9223372036854775807)
    (hL1 : Bs w w.heap.size A1 bs.flatten) (hL2 : Bs w w.heap.size A2 l) (hK : Kons w) :
    Calls Tryd.prog 6 #[.slice A1 n c1, .slice A2 m c2] w fun e w' => e = .returned (.bool true) ∧ Below w.heap.size w w' := by
  by_cases hbig : 8 < n ∨ 300 < m
  · have hbb : (8 : Int) < (n : Int) ∨ (¬ (8 : Int) < (n : Int) ∧ (300 : Int) < (m : Int)) := by omega
    clear hbig
    rcases hbb with hb | ⟨hb, hb'⟩
    all_goals
      go_enter Tryd.func6, Tryd.ntmps6
      go_wp2_with fail
      refine (awake03_any _ hK).mono ?_
      rintro e w1 ⟨rfl, hb⟩
      go_wp2_with fail
      go_ret
      exact ⟨rfl, hb⟩
  have hn8 : n ≤ 8 := by omega
  have hm3 : m ≤ 300 := by omega
  have hn' : ¬ (8 : Int) < (n : Int) := by omega
  have hm' : ¬ (300 : Int) < (m : Int) := by omega
  clear hbig
  have HIV := Lib.hid (uv_one iv)
  go_enter Tryd.func6, Tryd.ntmps6
  go_wp2_with fail
  refine (start_any _).mono ?_
  rintro e w1 ⟨rfl, hb1⟩
  unfold sv8
  go_wp2_with (refine st8.wpStore (by rfl) (.tmp 5) (.tmp 22) (by rfl) (by rfl) (Bk.new w1 _ _) (by rfl) (iv.map uv) (by rfl) (by rfl) HIV.out ?_)
  obtain ⟨W, hW⟩ : ∃ W, W = (w1.alloc (.cells #[.int .u32 0, .int .u32 0, .int .u32 0, .int .u32 0, .int .u32 0, .int .u32 0, .int .u32 0, .int .u32 0] 30)).setRow w1.heap.size (iv.map uv).toArray := ⟨_, rfl⟩
  have hS : Bk W w1.heap.size 30 (iv.map uv) := by rw [hW]; exact (Bk.new w1 _ _).row _
  have hbW : Below w.heap.size w W := by rw [hW]; exact below_row (hb1.alloc hb1.size _) hb1.size _
  have hWs : W.heap.size = w1.heap.size + 1 := by rw [hW]; simp
  have hg5 := hb1.size
  have HWS := Lib.hid hWs
  have hKW := hK.below hbW
  have hk0 := hK.lt
  rw [← hW]
  clear hW hb1 hWs
  obtain ⟨g, hge⟩ : ∃ g, w1.heap.size = g := ⟨_, rfl⟩
  rw [hge] at hS HWS hg5 ⊢
  clear hge
  have HST := Lib.hid (flat_length bs h64.out)
  go_loopw [6, 7] (fun v i wr => ∃ j : Nat, j ≤ n ∧ i = .int .i64 j ∧ Own wr W.heap.size 5 v (((bs.take j).flatten).map bv) ∧ Bk wr g 30 ((blks iv bs.flatten j).map uv) ∧ W.grownBy wr (some g)) (fun _ i _ => n - (intOf i).toNat)
  case atStart => exact ⟨0, Nat.zero_le _, rfl, Own.nil _ _ _, hS, World.grownBy.refl _ _⟩
  case round =>
    clear hS
    obtain ⟨j, hj, rfl, hown, hS, hg⟩ := hrel
    obtain ⟨F, hF⟩ : ∃ F, (bs.take j).flatten = F := ⟨_, rfl⟩
    have HFl : Hid (F.length = 64 * j) := by show _ = _; rw [← hF, flat_length _ (fun x hx => h64.out x (List.mem_of_mem_take hx)), List.length_take, hn.out]; omega
    rw [hF] at hown
    by_cases hlt : j < n
    · --A
      have hjb : j < bs.length := by rw [hn.out]; exact hlt
      have hX := flat_at bs h64.out j hjb
      have hXl := h64.out bs[j] (List.getElem_mem hjb)
      have hfl := HST.out
      rw [hn.out] at hfl
      obtain ⟨lb, lo, rfl, hlb, -⟩ := hL1.at_ (by omega)
      have hLw : Bs wr w.heap.size (some ⟨lb, lo + j * 64, none⟩) bs[j] := by
        rw [← hX]
        rw [Nat.mul_comm j 64]
        exact Vs.grown (((hL1.below hbW (Nat.le_refl _)).drop (64 * j) rfl).take 64) hg hbW.size (fun q hq => by simp at hq; omega)
      have hst := st_iv.blks bs.flatten j
      have hsl : ((blks iv bs.flatten j).map uv).length = 8 := by rw [List.length_map]; exact hst.1
      have hld : ∀ V : World, V.heap = wr.heap → (Instr.loadAt 30 (.pointer (some ⟨g, 0, none⟩))).run Tryd.prog V = .ok (.agg ((blks iv bs.flatten j).map uv).toArray) V := fun V hV => st8.load (by unfold Bk; rw [hV]; exact hS) hsl
      have HBN : Hid (blks iv bs.flatten (j + 1) = blockN (blks iv bs.flatten j) bs[j]) := by show _ = _; rw [blks, hX]
      have HTK : Hid ((bs.take (j + 1)).flatten = F ++ bs[j]) := by show _ = _; rw [← hF]; exact flat_take bs j hjb
      obtain ⟨X, hXe⟩ : ∃ X, bs[j] = X := ⟨_, rfl⟩
      rw [hXe] at hXl hLw HBN HTK
      have hmid : ∀ V : World, V.heap = wr.heap → (Instr.loadAt 31 (.pointer (some ⟨lb, lo + j * 64, none⟩))).run Tryd.prog V = .ok (.agg (X.map bv).toArray) V := fun V hV => by
        obtain ⟨e, hu⟩ := by64.ty
        exact run_loadAt_mid V lb (lo + j * 64) 31 (X.map bv) _ (fun i v hv => by
          rw [show V.cell? = wr.cell? by unfold World.cell?; rw [hV]]
          have := bs_range hLw (Nat.le_refl _) i v (by rw [List.take_length]; exact hv)
          exact this) hu rfl (by rw [by64.size, List.length_map, hXl])
      have hsa := slice_arr_all (P := Tryd.prog) Tryd.underlying31 (by kernel_rfl) ⟨lb, lo + j * 64, none⟩
      have HXL := Lib.hid hXl
      have HSL := Lib.hid hsl
      have HS2 := Lib.hid hst
      have H1 := uv_one (blockN (blks iv bs.flatten j) X)
      have HBL : Hid (((blockN (blks iv bs.flatten j) X).map uv).length = 8) := by show _ = _; rw [List.length_map]; exact (hst.block X).1
      have hKr := hKW.grown hg (by omega)
      have j0 : (0 : Int) ≤ (j : Int) := by omega
      have j1 : (j : Int) < (n : Int) := by omega
      have hgr := hS.lt
      have hWr := hg.size
      clear hX hXe hfl hst hsl hXl hF
      go_wp2_with fail
      refine wp_region_still_tail 5 (by kernel_rfl) (by kernel_rfl) ?_
      simp only [List.take_succ_cons, List.take_zero, List.drop_succ_cons, List.drop_zero]
      refine st_load (by rfl) _ (.tmp 5) (by rfl) _ _ (by rfl) (hld _ rfl) ?_
      still_step
      still_step
      still_step
      refine st_load (by rfl) _ (.tmp 32) (by rfl) _ _ (by rfl) (hmid _ rfl) ?_
      refine wpStill_nil ?_
      go_wp2_with fail
      obtain ⟨V, hV⟩ : ∃ V, V = wr.drew := ⟨_, rfl⟩
      replace hS : Bk V g 30 ((blks iv bs.flatten j).map uv) := by rw [hV]; exact hS
      replace hg : W.grownBy V (some g) := by rw [hV]; exact ⟨hg.os, hg.tape, hg.output, hg.size, hg.block⟩
      replace hown : Own V W.heap.size 5 u6 (F.map bv) := by rw [hV]; exact hown
      replace hLw : Bs V w.heap.size (some ⟨lb, lo + j * 64, none⟩) X := by rw [hV]; exact hLw
      replace hKr : Kons V := by rw [hV]; exact hKr
      rw [← hV]
      clear hV hld hmid hgr hWr
      refine (block_any (blks iv bs.flatten j) X V HS2.out HXL.out hKr).mono ?_
      rintro e w2 ⟨rfl, hb2⟩
      replace hS := hS.below hb2 hS.lt
      have hVW := hg.size
      replace hg := gB hg (hb2.mono hVW)
      replace hown := hown.below hb2 (Nat.le_refl _)
      replace hLw := hLw.below hb2 (Nat.le_trans hbW.size hVW)
      clear hb2 hKr
      unfold sv8
      have HL6 : Hid ((F.map bv).length = 64 * j) := by show _ = _; rw [List.length_map, HFl.out]
      have HXV := bytes_len X 64 HXL.out
      have hx1 := bv_one X
      have hS2 : Bk (w2.setRow g ((blockN (blks iv bs.flatten j) X).map uv).toArray) g 30 ((blks iv bs.flatten (j + 1)).map uv) := by
        rw [HBN.out]
        have := hS.row ((blockN (blks iv bs.flatten j) X).map uv).toArray
        rwa [List.toList_toArray] at this
      have hg2 := hg.trans (grown_row w2 g ((blockN (blks iv bs.flatten j) X).map uv).toArray)
      have hLw2 := Vs.grown hLw (grown_row w2 g ((blockN (blks iv bs.flatten j) X).map uv).toArray) (Nat.le_trans hbW.size hg.size) (fun q hq => by simp at hq; omega)
      have hown2 := hown.kept (grown_row w2 g ((blockN (blks iv bs.flatten j) X).map uv).toArray) (.inr (fun e => by have := hown.lt g e; have := HWS.out; omega))
      go_wp2_with (first | (refine st8.wpStore (by rfl) (.tmp 5) (.tmp 34) (by rfl) (by rfl) hS HSL.out ((blockN (blks iv bs.flatten j) X).map uv) (by rfl) HBL.out H1 ?_) | (at_builtin; refine wp_app _ rfl (.tmp 35) (.tmp 39) _ rfl W.heap.size 5 u8E u6 _ rfl hown2 _ _ _ _ _ rfl HXV.out hLw2 hx1 ?e1 ?e2 ?e3 ?_))
      case e1 => rw [HL6.out]; simp [maxLen]; omega
      case e2 => rw [HL6.out]; omega
      case e3 => exact hg2.size
      intro v' w3 hown3 hg3 _
      have hown4 : Own w3 W.heap.size 5 v' (((bs.take (j + 1)).flatten).map bv) := by rw [HTK.out, List.map_append]; exact hown3
      have hg4 := gB hg2 (below_app hown2 hg3 hg2.size)
      have hS3 := hS2.grown hg3 (fun e => by have := hown2.lt g e.symm; have := HWS.out; omega)
      clear hown hown2 hown3 hg hg2 hg3 hS hS2 hLw hLw2 H1 hx1
      go_wp2_with fail
      go_roundw
      case rel => exact ⟨j + 1, by omega, by go_num, hown4, hS3, hg4⟩
      case measure => simp [intOf]; omega
      --Z
    · obtain rfl : j = n := by omega
      have hFb : F = bs.flatten := by rw [← hF, List.take_of_length_le (by rw [hn.out]; omega)]
      rw [← hFb] at hS
      have HFB := Lib.hid hFb
      clear hFb hF
      have hL2r : Bs wr w.heap.size A2 l := Vs.grown (hL2.below hbW (Nat.le_refl _)) hg hbW.size (fun q hq => by simp at hq; omega)
      have HML := bytes_len l m hm.out
      have h1l := bv_one l
      have HFV := bytes_len F _ HFl.out
      have hKr := hKW.grown hg (by omega)
      go_wp2_with (at_builtin; refine wp_app wr rfl (.tmp 41) (.tmp 42) _ rfl W.heap.size 5 u8E u6 _ rfl hown _ _ _ _ _ rfl HML.out hL2r h1l ?e1 ?e2 ?e3 ?_)
      case e1 => rw [HFV.out]; simp [maxLen]; omega
      case e2 => rw [HFV.out]; omega
      case e3 => exact hg.size
      intro v1 wa hown1 hg1 _
      rw [← List.map_append] at hown1
      have hga := gB hg (below_app hown hg1 hg.size)
      have hSa := hS.grown hg1 (fun e => by have := hown.lt g e.symm; have := HWS.out; omega)
      have hLa : Bs wa w.heap.size A2 l := Vs.grown (hL2.below hbW (Nat.le_refl _)) hga hbW.size (fun q hq => by simp at hq; omega)
      obtain ⟨A3, n3, c3, rfl, hn3, hnc3, hc3, -⟩ := hown1.bform
      obtain rfl : n3 = 64 * j + m := by rw [← hn3.out, List.length_append, HFl.out, hm.out]
      clear hown hg hS hL2r hg1
      have hKa := hKW.grown hga (by omega)
      go_wp2_with (at_builtin; refine wp_app (wa.alloc (.cells #[] 5)) rfl (.tmp 44) (.tmp 45) _ rfl wa.heap.size 5 u8E (.slice (some ⟨wa.heap.size, 0, none⟩) 0 0) [] rfl (World.ownsRow_made wa #[] 0 (Nat.le_refl _) (Nat.zero_le _) rfl) _ _ _ _ _ rfl HML.out (Bs.alloc hLa (Nat.le_trans hbW.size hga.size) _) h1l ?f1 ?f2 ?f3 ?_)
      case f1 => simp [maxLen]; omega
      case f2 => simp; omega
      case f3 => simp
      intro v2 wb hown2 hg2 _
      have hbb : Below wa.heap.size wa wb := ((Below.refl _ wa).alloc (Nat.le_refl _) _).trans (below_app (World.ownsRow_made wa #[] 0 (Nat.le_refl _) (Nat.zero_le _) rfl) hg2 (by simp))
      clear hg2
      go_wp2_with fail
      have hnn : 64 * j + m ≤ 1152921504606846976 := by omega
      have HPL := Lib.hid (padB_length (64 * j + m))
      have hz := zerosN_lt (64 * j + m)
      obtain ⟨PB, hPB⟩ : ∃ PB, padB (64 * j + m) = PB := ⟨_, rfl⟩
      have HPAD : Hid (∀ V : World, Calls Tryd.prog 15 #[.int .i64 (64 * (j : Int) + (m : Int))] V (RetB PB V)) := by
        show ∀ V : World, _
        intro V
        have h := pad_any (64 * j + m) V hnn
        rw [hPB] at h
        have e : ((64 * j + m : Nat) : Int) = 64 * (j : Int) + (m : Int) := by omega
        rw [e] at h
        exact h
      rw [hPB] at HPL
      have HSH : Hid (shaN (F ++ l) = digB (blks (blks iv F j) (l ++ PB) ((l ++ PB).length / 64))) := by
        show _ = _
        have := sha_on F l j HFl.out (64 * j + m) (by rw [List.length_append, HFl.out, hm.out])
        rwa [hPB] at this
      clear hPB
      refine (HPAD.out _).mono ?_
      rintro e wc ⟨Ap, np, cp, rfl, hnp, -, hcp, hvp, hbc⟩
      have hown3 := hown2.below hbc (Nat.le_refl _)
      have hbc' := hbb.trans (hbc.mono hbb.size)
      have HB := bytes_len _ _ hnp.out
      have h1p := bv_one PB
      have hnp' : np = 9 + zerosN (64 * j + m) := by rw [← hnp.out]; exact HPL.out
      have HNP := Lib.hid hnp'
      clear hown2 hbc hnp'
      go_wp2_with (at_builtin; refine wp_app wc rfl (.tmp 46) (.tmp 49) _ rfl wa.heap.size 5 u8E v2 _ rfl hown3 _ _ _ _ _ rfl HB.out hvp h1p ?d1 ?d2 ?d3 ?_)
      case d1 => rw [HML.out, HNP.out]; simp [maxLen]; omega
      case d2 => rw [HML.out, HNP.out]; omega
      case d3 => exact hbc'.size
      intro v4 wd hown4 hg4 _
      rw [← List.map_append] at hown4
      have hbd := hbc'.trans (below_app hown3 hg4 hbc'.size)
      have hownA := hown1.below hbd (Nat.le_refl _)
      have hSd := hSa.below hbd hSa.lt
      have hgd := gB hga (hbd.mono hga.size)
      have hKd := hKa.below hbd
      obtain ⟨A4, n4, c4, rfl, hn4, hnc4, hc4, -⟩ := hown4.bform
      have hn4' : n4 = m + 9 + zerosN (64 * j + m) := by rw [← hn4.out, List.length_append, hm.out, hnp.out, HNP.out]; omega
      have hn4b : n4 ≤ 400 := by omega
      have hgwa : g < wa.heap.size := hSa.lt
      have hstA := st_iv.blks F j
      obtain ⟨S1, hS1⟩ : ∃ S1, blks iv F j = S1 := ⟨_, rfl⟩
      rw [hS1] at hSd hstA HSH
      obtain ⟨R, hR⟩ : ∃ R, l ++ PB = R := ⟨_, rfl⟩
      rw [hR] at hown4 hn4 HSH
      have HSTA := Lib.hid hstA
      obtain ⟨L, hLL⟩ : ∃ L, F ++ l = L := ⟨_, rfl⟩
      rw [hLL] at hownA hn3 HSH
      clear hown3 hbc' hg4 hown1 hSa hga hLa hKa hbb hvp h1p h1l hn4' HPAD hstA hS1 hR hLL
      go_wp2_with fail
      go_loopw [9, 10, 11] (fun i _ _ wr => ∃ q : Nat, 64 * q ≤ n4 ∧ i = .int .i64 (64 * (q : Int)) ∧ Bk wr g 30 ((blks S1 R q).map uv) ∧ wd.grownBy wr (some g)) (fun i _ _ _ => n4 - (intOf i).toNat)
      case atStart => exact ⟨0, Nat.zero_le _, rfl, hSd, World.grownBy.refl _ _⟩
      case round =>
        clear hSd
        obtain ⟨q, hq, rfl, hS, hg⟩ := hrel
        obtain ⟨w9, hw9⟩ : ∃ w9 : World, w9 = wr := ⟨_, rfl⟩
        rw [← hw9] at hS hg ⊢
        clear hw9
        have hownR := hown4.kept hg (.inr (fun e => by have := hown4.lt g e; omega))
        by_cases hlt2 : 64 * q + 64 ≤ n4
        · --A
          have hle : 64 * (q : Int) + 64 ≤ (n4 : Int) := by omega
          have hst := HSTA.out.blks R q
          have hsl : ((blks S1 R q).map uv).length = 8 := by rw [List.length_map]; exact hst.1
          obtain ⟨X, hXe⟩ : ∃ X, (R.drop (64 * q)).take 64 = X := ⟨_, rfl⟩
          have hXl : X.length = 64 := by rw [← hXe, List.length_take, List.length_drop, hn4.out]; omega
          have hXat : ∀ (k : Nat) (x : UInt8), k < 64 → X[k]? = some x → R[64 * q + k]? = some x := fun k x hk hx => by
            rw [← hx, ← hXe, List.getElem?_take_of_lt hk, List.getElem?_drop]
          have HBN : Hid (blks S1 R (q + 1) = blockN (blks S1 R q) X) := by show _ = _; rw [blks, hXe]
          have HX := Lib.hid hXl
          have HSL := Lib.hid hsl
          have HS2 := Lib.hid hst
          have HXA := Lib.hid hXat
          have H1 := uv_one (blockN (blks S1 R q) X)
          have HBL : Hid (((blockN (blks S1 R q) X).map uv).length = 8) := by show _ = _; rw [List.length_map]; exact (hst.block X).1
          clear hst hsl hXe hXl hXat
          go_wp2_with fail
          obtain ⟨gx, hgx⟩ : ∃ gx, w9.heap.size = gx := ⟨_, rfl⟩
          have hxB : Bk (w9.alloc (.cells #[.int .u8 0, .int .u8 0, .int .u8 0, .int .u8 0, .int .u8 0, .int .u8 0, .int .u8 0, .int .u8 0, .int .u8 0, .int .u8 0, .int .u8 0, .int .u8 0, .int .u8 0, .int .u8 0, .int .u8 0, .int .u8 0, .int .u8 0, .int .u8 0, .int .u8 0, .int .u8 0, .int .u8 0, .int .u8 0, .int .u8 0, .int .u8 0, .int .u8 0, .int .u8 0, .int .u8 0, .int .u8 0, .int .u8 0, .int .u8 0, .int .u8 0, .int .u8 0, .int .u8 0, .int .u8 0, .int .u8 0, .int .u8 0, .int .u8 0, .int .u8 0, .int .u8 0, .int .u8 0, .int .u8 0, .int .u8 0, .int .u8 0, .int .u8 0, .int .u8 0, .int .u8 0, .int .u8 0, .int .u8 0, .int .u8 0, .int .u8 0, .int .u8 0, .int .u8 0, .int .u8 0, .int .u8 0, .int .u8 0, .int .u8 0, .int .u8 0, .int .u8 0, .int .u8 0, .int .u8 0, .int .u8 0, .int .u8 0, .int .u8 0, .int .u8 0] 31)) gx 31 (cpL X 0) := Bk.new' _ _ _ _ _ hgx.symm rfl
          have hb9 : Below w9.heap.size w9 (w9.alloc (.cells #[.int .u8 0, .int .u8 0, .int .u8 0, .int .u8 0, .int .u8 0, .int .u8 0, .int .u8 0, .int .u8 0, .int .u8 0, .int .u8 0, .int .u8 0, .int .u8 0, .int .u8 0, .int .u8 0, .int .u8 0, .int .u8 0, .int .u8 0, .int .u8 0, .int .u8 0, .int .u8 0, .int .u8 0, .int .u8 0, .int .u8 0, .int .u8 0, .int .u8 0, .int .u8 0, .int .u8 0, .int .u8 0, .int .u8 0, .int .u8 0, .int .u8 0, .int .u8 0, .int .u8 0, .int .u8 0, .int .u8 0, .int .u8 0, .int .u8 0, .int .u8 0, .int .u8 0, .int .u8 0, .int .u8 0, .int .u8 0, .int .u8 0, .int .u8 0, .int .u8 0, .int .u8 0, .int .u8 0, .int .u8 0, .int .u8 0, .int .u8 0, .int .u8 0, .int .u8 0, .int .u8 0, .int .u8 0, .int .u8 0, .int .u8 0, .int .u8 0, .int .u8 0, .int .u8 0, .int .u8 0, .int .u8 0, .int .u8 0, .int .u8 0, .int .u8 0] 31)) := (Below.refl _ _).alloc (Nat.le_refl _) _
          have hgg : g < gx := by have := hS.lt; omega
          rw [hgx]
          have HGX := Lib.hid hgx
          clear hgx
          go_loopw [11] (fun i wi => ∃ k : Nat, k ≤ 64 ∧ i = .int .i64 k ∧ Bk wi gx 31 (cpL X k) ∧ Below w9.heap.size w9 wi) (fun i _ => 64 - (intOf i).toNat)
          case atStart => exact ⟨0, Nat.zero_le _, rfl, hxB, hb9⟩
          case round =>
            clear hxB hb9
            obtain ⟨k, hk, rfl, hxB, hb9⟩ := hrel
            by_cases hlt3 : k < 64
            · have hR9 := hownR.below hb9 (Nat.le_refl _)
              obtain ⟨A', n', c', e, hn', -, -, hv'⟩ := hR9.bform
              injection e with e1 e2 e3
              subst e1 e2 e3
              obtain ⟨rb, ro, rfl, -, -⟩ := hv'.at_ (by have := hn4.out; omega)
              have hcx := bs_at hv' (64 * q + k) (by rw [hn4.out]; omega)
              obtain ⟨x, hx⟩ : ∃ x, X[k]? = some x := ⟨_, List.getElem?_eq_getElem (by rw [HX.out]; exact hlt3)⟩
              have hbx : byteAt R (64 * q + k) = x.toNat := by
                unfold byteAt
                rw [List.getD_eq_getElem?_getD, HXA.out k x hlt3 hx]
                rfl
              rw [hbx] at hcx
              have hxB2 := hxB.set_ k (bv x)
              rw [cpL_step X k HX.out hlt3 x hx] at hxB2
              have hb92 := hb9.setCell (p := ⟨gx, k, none⟩) (by rw [HGX.out]; exact Nat.le_refl _) (bv x)
              obtain ⟨v0, cw⟩ := hxB.has k (by rw [cpL_length X k HX.out hk]; exact hlt3)
              have hfr := hxB.frozen k
              unfold bv at hxB2 hb92
              have i0 : (0 : Int) ≤ 64 * (q : Int) + (k : Int) := by omega
              have i1 : 64 * (q : Int) + (k : Int) < (n4 : Int) := by omega
              have i2 : (64 * (q : Int) + (k : Int)).toNat = 64 * q + k := by omega
              have k0 : (0 : Int) ≤ (k : Int) := by omega
              have k1 : (k : Int) < 64 := by omega
              clear hx hbx hv' hR9 hxB hb9
              go_wp2_with fail
              go_roundw
              case rel => exact ⟨k + 1, by omega, by go_num, hxB2, hb92⟩
              case measure => simp [intOf]; omega
            · obtain rfl : k = 64 := by omega
              rw [cpL_all X HX.out] at hxB
              have HXL : Hid ((X.map bv).length = 64) := by show _ = _; rw [List.length_map, HX.out]
              have hS9 := hS.below hb9 hS.lt
              have hg9 : wd.grownBy wr (some g) := gB hg (hb9.mono hg.size)
              have hK9 := hKd.grown hg9 (by omega)
              clear hS hg hb9 hownR
              go_wp2_with (first | (refine st8.wpLoad (by rfl) (.tmp 5) (by rfl) (by rfl) hS9 HSL.out ?_) | (refine by64.wpLoad (by rfl) (.tmp 10) (by rfl) (by rfl) hxB HXL.out ?_))
              refine (block_any (blks S1 R q) X wr HS2.out HX.out hK9).mono ?_
              rintro e w10 ⟨rfl, hb10⟩
              have hS10 := hS9.below hb10 hS9.lt
              have hg10 := gB hg9 (hb10.mono hg9.size)
              clear hS9 hg9 hK9 hb10 hxB
              unfold sv8
              go_wp2_with (refine st8.wpStore (by rfl) (.tmp 5) (.tmp 72) (by rfl) (by rfl) hS10 HSL.out ((blockN (blks S1 R q) X).map uv) (by rfl) HBL.out H1 ?_)
              have hS11 : Bk (w10.setRow g ((blockN (blks S1 R q) X).map uv).toArray) g 30 ((blks S1 R (q + 1)).map uv) := by
                rw [HBN.out]
                have := hS10.row ((blockN (blks S1 R q) X).map uv).toArray
                rwa [List.toList_toArray] at this
              have hg11 := hg10.trans (grown_row w10 g ((blockN (blks S1 R q) X).map uv).toArray)
              clear hS10 hg10 H1
              go_roundw
              case rel => exact ⟨q + 1, by omega, by congr 1, hS11, hg11⟩
              case measure => simp [intOf]; omega
          --Z
        · have hle : ¬ 64 * (q : Int) + 64 ≤ (n4 : Int) := by omega
          have hq' : n4 / 64 = q := by omega
          have HQ := Lib.hid hq'
          clear hq'
          have hownL := hownA.kept hg (.inr (fun e => by have := hownA.lt g e; have := HWS.out; omega))
          rw [hn4.out, HQ.out] at HSH
          have hst := HSTA.out.blks R q
          obtain ⟨x0, x1, x2, x3, x4, x5, x6, x7, hx, hx0, -, -, hx3, -, -, -, hx7⟩ := hst.form
          rw [hx] at HSH hS
          have HSH' : Hid (shaN L = beB 4 x0 ++ beB 4 x1 ++ beB 4 x2 ++ beB 4 x3 ++ beB 4 x4 ++ beB 4 x5 ++ beB 4 x6 ++ beB 4 x7) := by
            show _ = _
            rw [HSH.out]
            simp [digB]
          clear hst hx HSH
          have hK9 := hKd.grown hg (by omega)
          obtain ⟨A', n', c', e, hn', hnc', hc', hv'⟩ := hownL.bform
          injection e with e1 e2 e3
          subst e1 e2 e3
          have HO1 := Lib.hid (bv_one (shaN L))
          have HO2 : Hid (((shaN L).map bv).length = 32) := by show _ = _; rw [List.length_map]; exact shaN_length _
          have HLW : Hid (w.heap.size ≤ w9.heap.size) := Lib.hid (Nat.le_trans hbW.size (Nat.le_trans hgd.size hg.size))
          have hgW : W.grownBy w9 (some g) := ⟨hg.os.trans hgd.os, hg.tape.trans hgd.tape, hg.output.trans hgd.output, Nat.le_trans hgd.size hg.size, fun k hk hne => (hg.block k (Nat.lt_of_lt_of_le hk hgd.size) hne).trans (hgd.block k hk hne)⟩
          have hbw9 : Below w.heap.size w w9 := ⟨hgW.os.trans hbW.os, hgW.tape.trans hbW.tape, hgW.output.trans hbW.output, HLW.out, fun k hk => (hgW.block k (Nat.lt_of_lt_of_le hk hbW.size) (by simp; omega)).trans (hbW.block k hk)⟩
          have hs1 : 64 * j + m ≤ 1099511627000 := by omega
          clear hlt2 hlt hj
          go_wp2_with fail
          refine (sum_any A3 (64 * j + m) c3 L w9 hn3 hnc3 (by unfold maxLen at hc3; omega) hv' hK9 hs1).mono ?_
          rintro e w10 ⟨rfl, hb10⟩
          go_wp2_with (refine by32.wpStore (by rfl) (.tmp 12) (.tmp 74) (by rfl) (by rfl) (Bk.new w10 _ _) (by rfl) ((shaN L).map bv) (by rfl) HO2.out HO1.out ?_)
          obtain ⟨V0, hV0⟩ : ∃ V0, V0 = (w10.alloc (.cells #[.int .u8 0, .int .u8 0, .int .u8 0, .int .u8 0, .int .u8 0, .int .u8 0, .int .u8 0, .int .u8 0, .int .u8 0, .int .u8 0, .int .u8 0, .int .u8 0, .int .u8 0, .int .u8 0, .int .u8 0, .int .u8 0, .int .u8 0, .int .u8 0, .int .u8 0, .int .u8 0, .int .u8 0, .int .u8 0, .int .u8 0, .int .u8 0, .int .u8 0, .int .u8 0, .int .u8 0, .int .u8 0, .int .u8 0, .int .u8 0, .int .u8 0, .int .u8 0] 24)).setRow w10.heap.size ((shaN L).map bv).toArray := ⟨_, rfl⟩
          have hB : Bk V0 w10.heap.size 24 ((shaN L).map bv) := by
            have := (Bk.new w10 #[.int .u8 0, .int .u8 0, .int .u8 0, .int .u8 0, .int .u8 0, .int .u8 0, .int .u8 0, .int .u8 0, .int .u8 0, .int .u8 0, .int .u8 0, .int .u8 0, .int .u8 0, .int .u8 0, .int .u8 0, .int .u8 0, .int .u8 0, .int .u8 0, .int .u8 0, .int .u8 0, .int .u8 0, .int .u8 0, .int .u8 0, .int .u8 0, .int .u8 0, .int .u8 0, .int .u8 0, .int .u8 0, .int .u8 0, .int .u8 0, .int .u8 0, .int .u8 0] 24).row ((shaN L).map bv).toArray
            rw [List.toList_toArray] at this
            rw [hV0]
            exact this
          have hb12 : Below w9.heap.size w9 V0 := by rw [hV0]; exact below_row (hb10.alloc hb10.size _) hb10.size _
          have hSV := hS.below hb12 hS.lt
          have hLV := (hv'.below hb12 (Nat.le_refl _)).more hb12.size
          have hKV := hK9.below hb12
          have hbV := hbw9.trans (hb12.mono hbw9.size)
          have hsD : Bs V0 V0.heap.size (some ⟨w10.heap.size, 0, none⟩) (shaN L) := by
            have := hB.part 0 32
            rwa [List.drop_zero, List.take_of_length_le (by rw [HO2.out]; omega)] at this
          have hsl := slice_arr_all (P := Tryd.prog) Tryd.underlying24 (by kernel_rfl) ⟨w10.heap.size, 0, none⟩
          have hmx : (shaN L).length ≤ maxLen := by rw [shaN_length]; unfold maxLen; omega
          have HSLn : Hid ((shaN L).length = 32) := Lib.hid (shaN_length L)
          have k0 : ∀ V : World, Below V0.heap.size V0 V → V.cell? ⟨g, 0, none⟩ = some (.int .u32 (x0 : Int)) := fun V hV => (hSV.below hV hSV.lt).cell 0
          have k3 : ∀ V : World, Below V0.heap.size V0 V → V.cell? ⟨g, 3, none⟩ = some (.int .u32 (x3 : Int)) := fun V hV => (hSV.below hV hSV.lt).cell 3
          have k7 : ∀ V : World, Below V0.heap.size V0 V → V.cell? ⟨g, 7, none⟩ = some (.int .u32 (x7 : Int)) := fun V hV => (hSV.below hV hSV.lt).cell 7
          have d0 : ∀ V : World, Below V0.heap.size V0 V → V.cell? ⟨w10.heap.size, 0, none⟩ = some (.int .u8 (IntKind.u8.wrap ((x0 : Int) / 16777216))) := fun V hV => by
            rw [(hB.below hV hB.lt).cell, HSH'.out]
            rw [IntKind.wrap_u8']
            exact dig_0 _ _ _ _ _ _ _ _
          have d13 : ∀ V : World, Below V0.heap.size V0 V → V.cell? ⟨w10.heap.size, 13, none⟩ = some (.int .u8 (IntKind.u8.wrap ((x3 : Int) / 65536))) := fun V hV => by
            rw [(hB.below hV hB.lt).cell, HSH'.out]
            rw [IntKind.wrap_u8']
            exact dig_13 _ _ _ _ _ _ _ _
          have d31 : ∀ V : World, Below V0.heap.size V0 V → V.cell? ⟨w10.heap.size, 31, none⟩ = some (.int .u8 (IntKind.u8.wrap (x7 : Int))) := fun V hV => by
            rw [(hB.below hV hB.lt).cell, HSH'.out]
            rw [IntKind.wrap_u8']
            exact dig_31 _ _ _ _ _ _ _ _
          rw [← hV0]
          clear hV0 hB hb10 hS hSV hb12 hv' hK9 hg hgd hgW hbw9 hown4 hownA hownL hownR hKd hbd
          go_frame
          go_region_held3 (fun V => Below V0.heap.size V0 V) (first | assumption | exact below_drewN (Below.refl _ _) 1 | exact Below.refl _ _) (first
            | (go_at_call 10; (with_reducible refine (rsum_any A3 (64 * j + m) c3 L _ hn3 ?_ hs1).mono ?_); exact hLV; rintro e w12 ⟨A2', n2, c2', rfl, hn2, -, -, -, hv2, hb2⟩; have hb2 : Below V0.heap.size V0 w12 := (below_drewN (Below.refl _ _) 1).trans hb2)
            | (go_at_call 9; (with_reducible refine (same_any _ A2' 32 n2 32 c2' (shaN L) (shaN L) w12.heap.size w12 HSLn.out hn2.out ?_ hv2 hmx hmx).mono ?_); exact (hsD.below hb2 (Nat.le_refl _)).more hb2.size; rintro e w13 ⟨rfl, nq, rfl⟩; rw [decide_eq_true (rfl : shaN L = shaN L)]; have hb3 : Below V0.heap.size V0 (w12.drewN nq) := below_drewN hb2 nq)
            | (go_at_call 7; (with_reducible refine (awake03_any _ ?_).mono ?_); exact hKV.below hb3; rintro e w14 ⟨rfl, hb4⟩; have hb4 : Below V0.heap.size V0 w14 := hb3.trans (hb4.mono hb3.size)))
          go_wp2_with fail
          go_ret
          exact ⟨rfl, hbV.trans (hb4.mono hbV.size)⟩
end Go.Proofs.YtfbdncjbpcgfnaaDoor
