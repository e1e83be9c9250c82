/-
  Package taximeterref09: Do: Append.
-/
import Derived.Test.YtjdjidlopmanbaaRef9e
import Derived.Deep.RegionLaw
namespace Go.Proofs.Ytjdjidlopmanbaa
open Go.RowKit
set_option linter.unusedVariables false

/-- append by its run, as a step of a region that draws its order. -/
theorem step_appRun {P : Program} (w : World) {ops : Array Oper} {o : Oper} {a : Act} {K : Act → World → Prop} {Q : Exit → Act → World → Prop} {E0 : Prop} (hgd : o.guard = none) (s x : Operand) (t : TypeId)
    (ho : o.op = .call { callee := .builtin .append, args := #[s, x], argTypes := #[t, t] }) {v y v' : Value} {w' : World} (hs : a.eval s = v) (hx : a.eval x = y) (hrun : (Builtin.append_ #[t, t] o.type #[v, y]).run P w = .ok v' w')
    (h : K (a.put o.dst v') w') : if Region.wanted o (yielded ops a.tmps) = true then Oper.wp P o a w K Q else E0 := by
  rw [if_pos (by simp [Region.wanted, hgd])]
  unfold Oper.wp execOp
  simp only [ho, resolve, invoke, builtin, Sem.run_bind, Sem.run_pure, Result.andThen_ok, List.map_toArray, List.map_cons, List.map_nil, hs, hx, hrun]
  exact h
/-- One end: this frame, this world. -/
def OneEnd (A : Act) (W : World) : Exit → Act → World → Prop
  | .normal, a, w => a = A ∧ w = W
  | _, _, _ => False
/-- A region whose every order comes to one frame and one world. -/
theorem region_one {P : Program} {c : Code} {Q : Exit → Act → World → Prop} {a : Act} {w : World} (A : Act) (W : World) (H : c.wp P (OneEnd A W) a w) (T : Q .normal A W) : c.wp P Q a w :=
  Code.wp_mono (fun e a' w' h => by
    cases e with
    | normal =>
      obtain ⟨rfl, rfl⟩ := h
      exact T
    | _ => exact (h : False).elim) H
theorem FilOk.ownR {w : World} {B : Nat} {f : Fil} (h : Own w B 5 (.slice f.A f.n f.c) (f.data.map bv)) (hl : f.data.length = f.n) (hc : f.n ≤ f.c) (hm : f.c ≤ maxLen) : FilOk w (fun b => B ≤ b) f := by
  refine ⟨hl, hc, hm, ?_⟩
  rcases Nat.eq_zero_or_pos f.n with h0 | h0
  · exact .inl (List.eq_nil_of_length_eq_zero (by omega))
  · obtain ⟨g, hA, hB, hg⟩ := h.addr h0
    refine .inr ⟨g, 0, hA, hg, hB, fun j hj => ?_⟩
    rw [hA] at h
    rw [Nat.zero_add]
    exact h.cellAt j hj
set_option maxRecDepth 100000 in
set_option maxHeartbeats 12800000 in
theorem rdo1_any {w : World} {x : Nat} {st : DSt} {A : Option Addr} {c : Nat} {l : List Fil} (h : RDsk w x st A c l) (nm to : ByteArray) (hs : nm.size ≤ 65536) (DA : Option Addr) (dn dc : Nat) (data : List UInt8) (hdn : data.length = dn) (hdc : dn ≤ dc) (hdm : dc ≤ maxLen) (hds : Bs w x DA data) (hz : sizeF st.files + dn ≤ 1099511627776) (num m : Int) :
    Calls Try.prog 14 #[.pointer (some ⟨x, 0, none⟩), .agg #[.int .i64 1, .string nm, .string to, .slice DA dn dc, .int .u64 num, .int .i64 m]] w (RetR (.int .i64 (callS (appendS (bl nm) data) st).2) (callS (appendS (bl nm) data) st).1 x w) := by
  obtain ⟨wb, hwb⟩ : ∃ wb, w.alloc (.cells #[.int .i64 1, .string nm, .string to, .slice DA dn dc, .int .u64 num, .int .i64 m] 43) = wb := ⟨_, rfl⟩
  have hbb : Below w.heap.size w wb := by rw [← hwb]; exact (Below.refl _ w).alloc (Nat.le_refl _) _
  have hbox : Bk wb w.heap.size 43 [.int .i64 1, .string nm, .string to, .slice DA dn dc, .int .u64 num, .int .i64 m] := by rw [← hwb]; exact Bk.new w _ _
  have hxw := h.blk.lt
  have hxn : (some w.heap.size : Option Nat) ≠ some x := by simp; omega
  have b0 : wb.cell? ⟨w.heap.size, 0, none⟩ = some (.int .i64 1) := hbox.cellAt 0 (show 0 < 6 by decide)
  have HB := Lib.hid (rbegin_any (h.grown hbb))
  have HBX := Lib.hid hbox
  have HDN := Lib.hid hdn
  have HDS : Hid (Bs wb x DA data) := hds.below hbb (Nat.le_of_lt hxw)
  clear hdn hds
  have HBB : Hid (w.grownBy wb (some x)) := grownXB hbb _
  clear h hbb hbox
  cases hbg : (beginS st).2 with
  | false =>
    rw [hbg] at HB
    have HG := Lib.hid hbg
    clear hbg
    go_enter Try.func14, Try.ntmps14
    go_wp2_with fail
    refine HB.out.mono ?_
    rintro e w1 ⟨rfl, hI, hg⟩
    have HI := Lib.hid hI
    have HGR := Lib.hid hg
    clear hI hg
    go_wp2_with fail
    go_ret
    exact RetR.off HG.out HBB.out HI.out HGR.out
  | true =>
    rw [hbg] at HB
    have HG := Lib.hid hbg
    have HZ : Hid (sizeF (beginS st).1.files + dn ≤ 1099511627776) := by
      show _ ≤ _
      have e : (beginS st).1.files = st.files := by
        have h9 := hbg
        unfold beginS at h9 ⊢
        split
        · rfl
        · split
          · next h1 h2 => rw [if_neg h1, if_pos h2] at h9; cases h9
          · rfl
      rw [e]
      exact hz
    clear hbg hz
    go_enter Try.func14, Try.ntmps14
    go_wp2_with fail
    refine HB.out.mono ?_
    rintro e w1 ⟨rfl, ⟨A1, c1, l1, h1⟩, hg1⟩
    have hB1 := HBX.out.grown hg1 hxn
    clear b0
    have b0 : w1.cell? ⟨w.heap.size, 0, none⟩ = some (.int .i64 1) := hB1.cellAt 0 (show 0 < 6 by decide)
    have b1 : w1.cell? ⟨w.heap.size, 1, none⟩ = some (.string nm) := hB1.cellAt 1 (show 1 < 6 by decide)
    have HB1 := Lib.hid hB1
    have HH := Lib.hid h1
    have HG1 : Hid (w.grownBy w1 (some x)) := grownX HBB.out hg1
    have HDS1 : Hid (Bs w1 x DA data) := Vs.keep HDS.out fun p hp => World.cell?_of_block (hg1.block p.block (by have := HBB.out.size; omega) (by simp; omega))
    have HT := Lib.hid (rtarget_any nm w1 (by unfold maxLen; omega))
    clear hB1 h1 hg1 HB HBX HBB HDS
    go_wp2_with fail
    refine HT.out.mono ?_
    rintro e w1' ⟨rfl, rfl⟩
    cases htl : targetL (bl nm) with
    | false =>
      have HTL := Lib.hid htl
      clear htl
      go_wp2_with fail
      go_ret
      exact RetR.on HG.out HG1.out (by unfold appendS; rw [if_pos HTL.out]) ⟨A1, c1, l1, HH.out⟩ (World.grownBy.refl _ _)
    | true =>
      have HTL := Lib.hid htl
      clear htl
      have d0 : w1.cell? ⟨x, 0, none⟩ = some (.slice A1 l1.length c1) := HH.out.blk.cellAt 0 (show 0 < 7 by decide)
      rcases HH.out.place (bl nm) with ⟨hfn, hfr⟩ | ⟨i, hi, hfs, hfr, hnm⟩
      · have HFI := Lib.hid (fun n => (HH.out.drewN n).find nm hfr)
        have hq : ∀ n, Calls Try.prog 32 #[.slice A1 l1.length c1, .string nm] (w1.drewN n) fun e w' => e = .returned (.int .i64 (-1)) ∧ ∃ k, w' = w1.drewN k := fun n => ((HH.out.drewN n).find nm hfr).mono fun _ _ ⟨he, k, hk⟩ => ⟨he, n + k, by rw [hk]; simp⟩
        have HFN := Lib.hid hfn
        obtain ⟨n1, hn1⟩ : ∃ n1, l1.length = n1 := ⟨_, rfl⟩
        rw [hn1] at d0
        have HN1 := Lib.hid hn1
        have HD0 : Hid (∀ V : World, Below w1.heap.size w1 V → V.cell? ⟨x, 0, none⟩ = some (.slice A1 n1 c1)) := fun V hV => by rw [← HN1.out]; exact (HH.out.grown hV).blk.cellAt 0 (show 0 < 7 by decide)
        rw [hn1] at hq
        have HQ := Lib.hid hq
        clear hn1
        clear hq hfr hfn HFI
        go_wp2_with fail
        go_quiet ((go_at_call 32; with_reducible exact HQ.out _))
        generalize hw2 : w1.drewN _ = w2
        have HB2 : Hid (Below w1.heap.size w1 w2) := by show Below _ _ _; rw [← hw2]; exact below_drewN (Below.refl _ w1) _
        clear b0 b1 d0 hw2
        have hB2 := HB1.out.below HB2.out HB1.out.lt
        have b1 : w2.cell? ⟨w.heap.size, 1, none⟩ = some (.string nm) := hB2.cellAt 1 (show 1 < 6 by decide)
        obtain ⟨w3, hw3⟩ : ∃ w3, w2.alloc (.cells #[.string ⟨#[]⟩, .slice none 0 0, .int .i64 0] 50) = w3 := ⟨_, rfl⟩
        have hb3 : Below w2.heap.size w2 w3 := by rw [← hw3]; exact (Below.refl _ w2).alloc (Nat.le_refl _) _
        have hK3 : Bk w3 w2.heap.size 50 [.string ⟨#[]⟩, .slice none 0 0, .int .i64 0] := by rw [← hw3]; exact Bk.new w2 _ _
        have HK3 := Lib.hid hK3
        have HB3 := Lib.hid hb3
        have HBK2 := Lib.hid hB2
        clear hB2 hb3 hK3
        have hcl : l1.length = n1 := HN1.out
        have hcf : (beginS st).1.files.length = n1 := by rw [← HH.out.pf, List.length_map]; exact hcl
        by_cases hmax : 1024 ≤ n1
        · have g9 : decide ((n1 : Int) ≥ 1024) = true := by rw [decide_eq_true_iff]; omega
          have HEq : Hid (appendS (bl nm) data (beginS st).1 = ((beginS st).1, 15)) := by
            show _ = _
            unfold appendS
            rw [if_neg (by rw [HTL.out]; decide), if_pos ⟨by rw [HFN.out]; rfl, by omega⟩]
          clear hcl hcf
          go_wp2_with (first | (refine file_store (by rfl) (.tmp 6) (.tmp 71) (by rfl) (by rfl) HK3.out (by rfl) (by simp [Value.oneCell']) ?_; intro w4 hK4 hg4 hs4; have HB4 : Hid (Below w2.heap.size w2 w4) := below_own HB3.out hg4 (Nat.le_refl _); have HB14 := Lib.hid (HB2.out.trans (HB4.out.mono HB2.out.size)); have HK4 := Lib.hid hK4; have b0 : w4.cell? ⟨w.heap.size, 0, none⟩ = some (.int .i64 1) := (HBK2.out.below HB4.out HBK2.out.lt).cellAt 0 (show 0 < 6 by decide); have d0 := HD0.out w4 HB14.out; clear hK4 hg4 hs4))
          go_ret
          exact RetR.on HG.out HG1.out HEq.out ⟨_, _, _, HH.out.grown HB14.out⟩ (grownXB HB14.out _)
        have g9 : decide ((n1 : Int) ≥ 1024) = false := by rw [decide_eq_false_iff_not]; omega
        have HA0 : Hid (¬ ((findF (bl nm) (beginS st).1.files).isNone = true ∧ 1024 ≤ (beginS st).1.files.length)) := by show ¬ _; rintro ⟨_, h⟩; omega
        have HLT : Hid ((beginS st).1.files.length < 1024) := by show _ < _; omega
        obtain ⟨f, hf⟩ : ∃ f : Fil, f = ⟨nm, none, 0, 0, [], 0⟩ := ⟨_, rfl⟩
        have HFE : Hid ((findF (bl nm) (beginS st).1.files).elim (⟨bl nm, data, 0⟩ : PF) (fun g => ⟨bl nm, g.data ++ data, g.sure⟩) = ⟨bl nm, f.data ++ data, f.sure⟩) := by show _ = _; rw [HFN.out, hf]; rfl
        have HNM : Hid (bl f.name = bl nm) := by show _ = _; rw [hf]
        have HFO : Hid (FilOk w1 (fun k => k ≠ x) f) := by show FilOk _ _ _; rw [hf]; exact ⟨rfl, Nat.le_refl _, Nat.zero_le _, .inl rfl⟩
        have HSU : Hid (f.sure ≤ f.data.length) := by show _ ≤ _; rw [hf]; exact Nat.le_refl _
        have HFZ : Hid (f.n ≤ 1099511627776 - dn) := by show _ ≤ _; rw [hf]; exact Nat.zero_le _
        have HF0 := Lib.hid hf
        clear hcl hcf hmax hf
        go_wp2_with (first | (refine file_store (by rfl) (.tmp 6) (.tmp 71) (by rfl) (by rfl) HK3.out (by rfl) (by simp [Value.oneCell']) ?_; intro w4 hK4 hg4 hs4; have HB4 : Hid (Below w2.heap.size w2 w4) := below_own HB3.out hg4 (Nat.le_refl _); have HB14 := Lib.hid (HB2.out.trans (HB4.out.mono HB2.out.size)); have HK4 := Lib.hid hK4; have b0 : w4.cell? ⟨w.heap.size, 0, none⟩ = some (.int .i64 1) := (HBK2.out.below HB4.out HBK2.out.lt).cellAt 0 (show 0 < 6 by decide); have d0 := HD0.out w4 HB14.out; clear hK4 hg4 hs4))
        have HK4' : Hid (Bk w4 w2.heap.size 50 [.string f.name, .slice f.A f.n f.c, .int .i64 (f.sure : Int)]) := by show Bk _ _ _ _; rw [HF0.out]; exact HK4.out

        have hWB := HB14.out
        have hB5 := (HH.out.grown hWB).blk
        have hXB := HB1.out.below hWB HB1.out.lt
        have d0 : w4.cell? ⟨x, 0, none⟩ = some (.slice A1 n1 c1) := HD0.out w4 hWB
        have d1 : w4.cell? ⟨x, 1, none⟩ = some (.int .i64 (beginS st).1.cap) := hB5.cellAt 1 (show 1 < 7 by decide)
        have b3 : w4.cell? ⟨w.heap.size, 3, none⟩ = some (.slice DA dn dc) := hXB.cellAt 3 (show 3 < 6 by decide)
        have hcap := Go.bounds_i64 HH.out.cap
        have hcap0 := HH.out.cap0
        have hzz0 := HZ.out
        obtain ⟨q, hq⟩ : ∃ q, (beginS st).1.cap - (sizeF (beginS st).1.files : Int) = q := ⟨_, rfl⟩
        have hwq : IntKind.i64.wrap ((beginS st).1.cap - (sizeF (beginS st).1.files : Int)) = q := by rw [IntKind.wrap_i64]; omega
        have HQQ := Lib.hid hq
        have hsz : ∀ k, Calls Try.prog 33 #[.slice A1 n1 c1] (w4.drewN k) fun e w' => e = .returned (.int .i64 (sizeF (beginS st).1.files : Int)) ∧ ∃ j, w' = w4.drewN j := fun k => by
          have h9 := HH.out.grown (w' := w4.drewN k) (below_drewN hWB k)
          have := rsize_any h9.files h9.room h9.max (by rw [h9.pf]; have := HZ.out; omega)
          rw [HN1.out, h9.pf] at this
          exact this.mono fun _ _ ⟨he, hw⟩ => ⟨he, k, hw.symm⟩
        have HSZ := Lib.hid hsz
        clear hB5 hXB hcap hcap0 hzz0 hq hsz hWB
        by_cases hfull : q < (dn : Int)
        · have g2 : decide (q < (dn : Int)) = true := decide_eq_true hfull
          have HEq : Hid (appendS (bl nm) data (beginS st).1 = ((beginS st).1, 10)) := by
            show _ = _
            unfold appendS
            rw [if_neg (by rw [HTL.out]; decide), if_neg HA0.out, if_pos (by rw [HQQ.out, HDN.out]; exact hfull)]
          clear hfull
          go_quiet ((go_at_call 33; with_reducible exact HSZ.out _))
          clear d0 d1 b3
          go_wp2_with fail
          go_ret
          exact RetR.on HG.out HG1.out HEq.out ⟨_, _, _, HH.out.grown (below_drewN HB14.out _)⟩ (grownXB (below_drewN HB14.out _) _)
        · have g2 : decide (q < (dn : Int)) = false := decide_eq_false hfull
          have hnf : ¬ ((beginS st).1.cap - (sizeF (beginS st).1.files : Int) < (data.length : Int)) := by rw [HQQ.out, HDN.out]; exact hfull
          have HNF := Lib.hid hnf
          clear hnf hfull
          go_quiet ((go_at_call 33; with_reducible exact HSZ.out _))
          clear d0 d1 b3 g2 hwq HSZ
          generalize hw6 : w4.drewN _ = w6
          have HB6 : Hid (Below w1.heap.size w1 w6) := by show Below _ _ _; rw [← hw6]; exact below_drewN HB14.out _
          have HK6 : Hid (Bk w6 w2.heap.size 50 [.string f.name, .slice f.A f.n f.c, .int .i64 (f.sure : Int)]) := by show Bk _ _ _ _; rw [← hw6]; exact HK4'.out
          clear hw6
          have hg6 := HK6.out.lt
          have hX6 := HB1.out.below HB6.out HB1.out.lt
          have hX6l := hX6.lt
          have HX6 := Lib.hid hX6
          have hx12 := HB2.out.size
          have hxl := HH.out.blk.lt
          -- the bytes of both
          have hbs1 : Bs w6 w6.heap.size f.A f.data := by rw [HF0.out]; exact Bs.nil _ _ _
          have hbs2 : Bs w6 w6.heap.size DA data := ((HDS1.out.below HB6.out (Nat.le_of_lt hxl)).more (by have := HB6.out.size; omega))
          have hbsd : Bs w6 w6.heap.size DA data := hbs2
          have y1 : w6.cell? ⟨w2.heap.size, 1, none⟩ = some (.slice f.A f.n f.c) := HK6.out.cellAt 1 (show 1 < 3 by decide)
          have b3 : w6.cell? ⟨w.heap.size, 3, none⟩ = some (.slice DA dn dc) := hX6.cellAt 3 (show 3 < 6 by decide)
          have y1a := fun o => (World.cell?_alloc_lt w6 o ⟨w2.heap.size, 1, none⟩ hg6).trans y1
          have b3a := fun o => (World.cell?_alloc_lt w6 o ⟨w.heap.size, 3, none⟩ hX6l).trans b3
          have hl0 : (f.data.map bv).length = f.n := by rw [List.length_map]; exact HFO.out.len
          have hl2 : (data.map bv).length = dn := by rw [List.length_map]; exact HDN.out
          have hFz : f.n ≤ 1099511627776 - dn := HFZ.out
          have hdz : dn ≤ 1099511627776 := by have := HZ.out; omega
          obtain ⟨wa, hwa⟩ : ∃ wa, (w6.alloc (.cells #[] 5)).drew = wa := ⟨_, rfl⟩
          have hmade : Own wa w6.heap.size 5 (.slice (some ⟨w6.heap.size, 0, none⟩) 0 0) [] := by
            rw [← hwa]
            exact World.ownsRow_made (base := w6.heap.size) (e := 5) (size := 1) w6 #[] 0 (Nat.le_refl _) (Nat.zero_le _) rfl
          have hba : Below w6.heap.size w6 wa := by
            rw [← hwa]
            exact below_drewN ((Below.refl _ w6).alloc (Nat.le_refl _) _) 1
          obtain ⟨v8, w8, hrun8, hO8, hG8, -⟩ := run_app (P := Try.prog) wa w6.heap.size 41 41 5 u8E (.slice (some ⟨w6.heap.size, 0, none⟩) 0 0) [] hmade wa.heap.size f.A f.n f.c (f.data.map bv) hl0 ((hbs1.below hba (Nat.le_refl _)).more hba.size) (bv_one _) (by unfold maxLen; simp; omega) (by simp; omega) hba.size
          rw [List.nil_append] at hO8
          have hb8 : Below w6.heap.size w6 w8 := hba.trans (below_app hmade hG8 hba.size)
          obtain ⟨v9, w9, hrun9, hO9, hG9, -⟩ := run_app (P := Try.prog) w8 w6.heap.size 41 41 5 u8E v8 (f.data.map bv) hO8 w6.heap.size DA dn dc (data.map bv) hl2 (hbsd.below hb8 (Nat.le_refl _)) (bv_one _) (by rw [hl0]; unfold maxLen; omega) (by rw [hl0]; omega) hb8.size
          have hb9 : Below w6.heap.size w6 w9 := hb8.trans (below_app hO8 hG9 hb8.size)
          rw [← List.map_append] at hO9
          obtain ⟨A9, n9, c9, rfl, hn9, hnc9, hc9, -⟩ := Own.bform (l := f.data ++ data) hO9
          have hK9 := HK6.out.below hb9 hg6
          have e1 := (show w9.cell? ⟨w2.heap.size, 1, none⟩ = some (.slice f.A f.n f.c) from hK9.cellAt 1 (show 1 < 3 by decide))
          have ef : w9.frozen? ⟨w2.heap.size, 1, none⟩ = false := hK9.frozen 1
          have b3b : w8.cell? ⟨w.heap.size, 3, none⟩ = some (.slice DA dn dc) := (hX6.below hb8 hX6l).cellAt 3 (show 3 < 6 by decide)
          have HG6 := Lib.hid hg6
          have HO9 := Lib.hid hO9
          have HB9 := Lib.hid hb9
          have HK9 := Lib.hid hK9
          rw [← hwa] at hrun8
          clear hbs1 hbs2 hg6 hX6 hX6l hFz hdz hbsd hmade hba hO8 hG8 hb8 hO9 hG9 hb9 hK9 hl0 hl2 hwa
          go_wp2_with fail
          apply region_one
          · go_region_law (first
            | (refine step_appRun _ (by rfl) (.tmp 108) (.tmp 110) _ (by rfl) (by rfl) (by rfl) (by exact hrun8) ?_)
            | (refine step_appRun _ (by rfl) (.tmp 111) (.tmp 113) _ (by rfl) (by rfl) (by rfl) (by exact hrun9) ?_))
            all_goals exact ⟨rfl, rfl⟩
          all_goals
            have hO9 := HO9.out
            have hb9 := HB9.out
            have hK10 := HK9.out.set_ 1 (.slice A9 n9 c9)
            have hb110 : Below w1.heap.size w1 (w9.setCell ⟨w2.heap.size, 1, none⟩ (.slice A9 n9 c9)) := below_own (HB6.out.trans (hb9.mono HB6.out.size)) (grown_set _ _ _ _) hx12
            have hfo : FilOk w9 (fun k => w6.heap.size ≤ k) ⟨f.name, A9, n9, c9, f.data ++ data, f.sure⟩ := FilOk.ownR hO9 hn9.out hnc9 hc9
            have hfo10 : FilOk (w9.setCell ⟨w2.heap.size, 1, none⟩ (.slice A9 n9 c9)) (fun k => k ≠ x) ⟨f.name, A9, n9, c9, f.data ++ data, f.sure⟩ :=
              hfo.keepR (fun k _ hk => heap_setCell_other _ ⟨w2.heap.size, 1, none⟩ k _ (show k ≠ w2.heap.size by have := HG6.out; omega)) (by simp) (fun k _ hk => show k ≠ x by have := HG6.out; omega)
            revert hK10 hb110 hfo10
            generalize w9.setCell ⟨w2.heap.size, 1, none⟩ (.slice A9 n9 c9) = w10
            intro hK10 hb110 hfo10
            have hK10 : Bk w10 w2.heap.size 50 [.string f.name, .slice A9 n9 c9, .int .i64 (f.sure : Int)] := hK10
            clear e1 ef hO9 hb9 b3b hfo y1 y1a b3 b3a hrun8 hrun9
            obtain ⟨F, hF⟩ : ∃ F : Fil, F = ⟨f.name, A9, n9, c9, f.data ++ data, f.sure⟩ := ⟨_, rfl⟩
            rw [← hF] at hfo10
            have hpf : F.pf = ⟨bl nm, f.data ++ data, f.sure⟩ := by rw [hF, ← HNM.out]; rfl
            have hap : appendS (bl nm) data (beginS st).1 = ({ (beginS st).1 with files := putF F.pf (beginS st).1.files }, 0) := by
              unfold appendS
              rw [if_neg (by rw [HTL.out]; decide), if_neg HA0.out, if_neg (by have := HNF.out; omega), HFE.out, hpf]
            have HAP := Lib.hid hap
            have hFs : F.sure ≤ F.data.length := by
              rw [hF]
              have := HSU.out
              show f.sure ≤ (f.data ++ data).length
              rw [List.length_append]
              omega
            have hcnt : (putF F.pf (beginS st).1.files).length ≤ 1024 := by
              have h1 := len_put F.pf (beginS st).1.files
              have h2 := HLT.out
              omega
            have hzz : sizeF (putF F.pf (beginS st).1.files) ≤ 1099511627776 := by
              have h8 := size_append (bl nm) data (beginS st).1
              rw [hap, HDN.out] at h8
              exact Nat.le_trans h8 HZ.out
            have h10 := HH.out.grown hb110
            have hWI : ∀ V : World, Below w10.heap.size w10 V → Calls Try.prog 34 #[.slice A1 n1 c1, .agg #[.string f.name, .slice A9 n9 c9, .int .i64 (f.sure : Int)]] V fun e w' => ∃ v, e = .returned v ∧ FSl w' (fun b => b ≠ x) v (wiF F l1) ∧ Below V.heap.size V w' := fun V hV => by
              have hxlt := h10.blk.lt
              have := with_any (h10.grown hV).files (fun k hk => show k ≠ x by have := hV.size; omega) h10.room h10.max (Nat.le_trans h10.len (by decide)) F (hfo10.keepR (fun b hb _ => hV.block b hb) hV.size (fun _ _ hq => hq))
              rw [HN1.out, hF] at this
              rw [hF]
              exact this
            have HWI := Lib.hid hWI
            have H10 := Lib.hid h10
            have HB110 := Lib.hid hb110
            have HFIN := Lib.hid (fun w4 A4 n4 c4 hv hb => h10.withF F hFs hcnt hzz (w4 := w4) (A4 := A4) (n4 := n4) (c4 := c4) hv hb)
            have d0 : w10.cell? ⟨x, 0, none⟩ = some (.slice A1 n1 c1) := HD0.out w10 hb110
            have y0 : w10.cell? ⟨w2.heap.size, 0, none⟩ = some (.string f.name) := hK10.cellAt 0 (show 0 < 3 by decide)
            have y1 : w10.cell? ⟨w2.heap.size, 1, none⟩ = some (.slice A9 n9 c9) := hK10.cellAt 1 (show 1 < 3 by decide)
            have y2 : w10.cell? ⟨w2.heap.size, 2, none⟩ = some (.int .i64 (f.sure : Int)) := hK10.cellAt 2 (show 2 < 3 by decide)
            clear hK10 hfo10 hF hpf hap hFs hcnt hzz h10 hWI hb110
            try go_wp2_with fail
            go_region_with (first
              | (go_at_call 34; (with_reducible refine (HWI.out _ ?_).mono ?_); exact below_drewN (Below.refl _ _) 1; rintro e w11 ⟨v11, rfl, hF11, hb11⟩; have hb11 : Below w10.heap.size w10 w11 := (below_drewN (Below.refl _ _) 1).trans hb11; obtain ⟨A11, n11, c11, rfl, hF11⟩ := hF11.form; have HFI11 := Lib.hid (HFIN.out w11 A11 n11 c11 hF11 hb11); have hB11 := (H10.out.grown hb11).blk; have e0 := (show w11.cell? ⟨x, 0, none⟩ = some (.slice A1 l1.length c1) from hB11.cellAt 0 (show 0 < 7 by decide)); have ef : w11.frozen? ⟨x, 0, none⟩ = false := hB11.frozen 0; clear hB11 hF11))
            all_goals
              clear d0 y0 y1 y2 e0 ef
              go_wp2_with fail
              go_ret
              exact RetR.on HG.out HG1.out HAP.out HFI11.out.1 (grownX (grownXB HB110.out _) HFI11.out.2)
      · obtain ⟨f, hf⟩ : ∃ f, l1[i] = f := ⟨_, rfl⟩
        rw [hf] at hfs hnm
        have hq : ∀ n, Calls Try.prog 32 #[.slice A1 l1.length c1, .string nm] (w1.drewN n) fun e w' => e = .returned (.int .i64 (i : Int)) ∧ ∃ k, w' = w1.drewN k := fun n => ((HH.out.drewN n).find nm hfr).mono fun _ _ ⟨he, k, hk⟩ => ⟨he, n + k, by rw [hk]; simp⟩
        have HQ := Lib.hid hq
        have HFO : Hid (FilOk w1 (fun k => k ≠ x) f) := HH.out.files.1 f (by rw [← hf]; exact List.getElem_mem hi)
        have HFS := Lib.hid hfs
        have HNM := Lib.hid hnm
        have HFM : Hid (f ∈ l1) := by show f ∈ l1; rw [← hf]; exact List.getElem_mem hi
        obtain ⟨b, o, hA, hb, hbx, hcell⟩ : ∃ b o, A1 = some ⟨b, o, none⟩ ∧ b < w1.heap.size ∧ b ≠ x ∧ ∀ (i : Nat) (h : i < l1.length) (j : Nat) v, l1[i].cells[j]? = some v → w1.cell? ⟨b, o + (i * 3 + j), none⟩ = some v := by
          rcases HH.out.files.2 with h | h
          · rw [h] at hi; simp at hi
          · exact h
        subst hA
        have HC0 : Hid (∀ V : World, Below w1.heap.size w1 V → V.cell? ⟨b, o + i * 3, none⟩ = some (.string f.name)) := fun V hV => by rw [hV.cell hb, ← hf]; exact hcell i hi 0 _ rfl
        have HC1 : Hid (∀ V : World, Below w1.heap.size w1 V → V.cell? ⟨b, o + i * 3 + 1, none⟩ = some (.slice f.A f.n f.c)) := fun V hV => by rw [hV.cell hb, ← hf, Nat.add_assoc]; exact hcell i hi 1 _ rfl
        have HC2 : Hid (∀ V : World, Below w1.heap.size w1 V → V.cell? ⟨b, o + i * 3 + 2, none⟩ = some (.int .i64 (f.sure : Int))) := fun V hV => by rw [hV.cell hb, ← hf, Nat.add_assoc]; exact hcell i hi 2 _ rfl
        have hi0 : (0 : Int) ≤ (i : Int) := by omega
        obtain ⟨n1, hn1⟩ : ∃ n1, l1.length = n1 := ⟨_, rfl⟩
        rw [hn1] at hi d0 HQ
        have HN1 := Lib.hid hn1
        clear hq hfr hfs hnm hcell hf hn1
        go_wp2_with fail
        go_quiet ((go_at_call 32; with_reducible exact HQ.out _))
        generalize hw2 : w1.drewN _ = w2
        have HB2 : Hid (Below w1.heap.size w1 w2) := by show Below _ _ _; rw [← hw2]; exact below_drewN (Below.refl _ w1) _
        clear b0 b1 d0 hw2
        have hB2 := HB1.out.below HB2.out HB1.out.lt
        have HBK2 := Lib.hid hB2
        have b1 : w2.cell? ⟨w.heap.size, 1, none⟩ = some (.string nm) := hB2.cellAt 1 (show 1 < 6 by decide)
        obtain ⟨w3, hw3⟩ : ∃ w3, w2.alloc (.cells #[.string ⟨#[]⟩, .slice none 0 0, .int .i64 0] 50) = w3 := ⟨_, rfl⟩
        have hb3 : Below w2.heap.size w2 w3 := by rw [← hw3]; exact (Below.refl _ w2).alloc (Nat.le_refl _) _
        have hK3 : Bk w3 w2.heap.size 50 [.string ⟨#[]⟩, .slice none 0 0, .int .i64 0] := by rw [← hw3]; exact Bk.new w2 _ _
        have HK3 := Lib.hid hK3
        have HB3 := Lib.hid hb3
        have HBK2 := Lib.hid hB2
        have HD0 : Hid (∀ V : World, Below w1.heap.size w1 V → V.cell? ⟨x, 0, none⟩ = some (.slice (some ⟨b, o, none⟩) n1 c1)) := fun V hV => by rw [← HN1.out]; exact (HH.out.grown hV).blk.cellAt 0 (show 0 < 7 by decide)
        clear hB2 hb3 hK3
        go_wp2_with (first
          | (refine file_store (by rfl) (.tmp 6) (.tmp 71) (by rfl) (by rfl) HK3.out (by rfl) (by simp [Value.oneCell']) ?_; intro w4 hK4 hg4 hs4; have HB4 : Hid (Below w2.heap.size w2 w4) := below_own HB3.out hg4 (Nat.le_refl _); have HB14 := Lib.hid (HB2.out.trans (HB4.out.mono HB2.out.size)); have HK4 := Lib.hid hK4; have d0 := HD0.out w4 HB14.out; have z0 := HC0.out w4 HB14.out; have z1 := HC1.out w4 HB14.out; have z2 := HC2.out w4 HB14.out; clear hK4 hg4 hs4)
          | (refine file_store (by rfl) (.tmp 6) (.tmp 80) (by rfl) (by rfl) HK4.out (by rfl) (by simp [Value.oneCell']) ?_; intro w5 hK5 hg5 hs5; have HB5 : Hid (Below w2.heap.size w2 w5) := below_own HB4.out hg5 (Nat.le_refl _); have HB15 := Lib.hid (HB2.out.trans (HB5.out.mono HB2.out.size)); have HK5 := Lib.hid hK5; have b0 : w5.cell? ⟨w.heap.size, 0, none⟩ = some (.int .i64 1) := (HBK2.out.below HB5.out HBK2.out.lt).cellAt 0 (show 0 < 6 by decide); clear hK5 hg5 hs5 d0 z0 z1 z2))
        have HA0 : Hid (¬ ((findF (bl nm) (beginS st).1.files).isNone = true ∧ 1024 ≤ (beginS st).1.files.length)) := by show ¬ _; rw [HFS.out]; simp
        have HFE : Hid ((findF (bl nm) (beginS st).1.files).elim (⟨bl nm, data, 0⟩ : PF) (fun g => ⟨bl nm, g.data ++ data, g.sure⟩) = ⟨bl nm, f.data ++ data, f.sure⟩) := by show _ = _; rw [HFS.out]; rfl
        have HSU : Hid (f.sure ≤ f.data.length) := HH.out.good.sure f.pf (by rw [← HH.out.pf]; exact List.mem_map_of_mem HFM.out)
        have HFZ : Hid (f.n ≤ 1099511627776 - dn) := by
          show _ ≤ _
          have h1 := sizeF_drop_mem (nm := bl f.name) (f := f.pf) rfl (l := (beginS st).1.files) (by rw [← HH.out.pf]; exact List.mem_map_of_mem HFM.out)
          have h2 : f.pf.data.length = f.n := HFO.out.len
          have h3 := HZ.out
          omega

        have hWB := HB15.out
        have hB5 := (HH.out.grown hWB).blk
        have hXB := HB1.out.below hWB HB1.out.lt
        have d0 : w5.cell? ⟨x, 0, none⟩ = some (.slice (some ⟨b, o, none⟩) n1 c1) := HD0.out w5 hWB
        have d1 : w5.cell? ⟨x, 1, none⟩ = some (.int .i64 (beginS st).1.cap) := hB5.cellAt 1 (show 1 < 7 by decide)
        have b3 : w5.cell? ⟨w.heap.size, 3, none⟩ = some (.slice DA dn dc) := hXB.cellAt 3 (show 3 < 6 by decide)
        have hcap := Go.bounds_i64 HH.out.cap
        have hcap0 := HH.out.cap0
        have hzz0 := HZ.out
        obtain ⟨q, hq⟩ : ∃ q, (beginS st).1.cap - (sizeF (beginS st).1.files : Int) = q := ⟨_, rfl⟩
        have hwq : IntKind.i64.wrap ((beginS st).1.cap - (sizeF (beginS st).1.files : Int)) = q := by rw [IntKind.wrap_i64]; omega
        have HQQ := Lib.hid hq
        have hsz : ∀ k, Calls Try.prog 33 #[.slice (some ⟨b, o, none⟩) n1 c1] (w5.drewN k) fun e w' => e = .returned (.int .i64 (sizeF (beginS st).1.files : Int)) ∧ ∃ j, w' = w5.drewN j := fun k => by
          have h9 := HH.out.grown (w' := w5.drewN k) (below_drewN hWB k)
          have := rsize_any h9.files h9.room h9.max (by rw [h9.pf]; have := HZ.out; omega)
          rw [HN1.out, h9.pf] at this
          exact this.mono fun _ _ ⟨he, hw⟩ => ⟨he, k, hw.symm⟩
        have HSZ := Lib.hid hsz
        clear hB5 hXB hcap hcap0 hzz0 hq hsz hWB
        by_cases hfull : q < (dn : Int)
        · have g2 : decide (q < (dn : Int)) = true := decide_eq_true hfull
          have HEq : Hid (appendS (bl nm) data (beginS st).1 = ((beginS st).1, 10)) := by
            show _ = _
            unfold appendS
            rw [if_neg (by rw [HTL.out]; decide), if_neg HA0.out, if_pos (by rw [HQQ.out, HDN.out]; exact hfull)]
          clear hfull
          go_quiet ((go_at_call 33; with_reducible exact HSZ.out _))
          clear d0 d1 b3
          go_wp2_with fail
          go_ret
          exact RetR.on HG.out HG1.out HEq.out ⟨_, _, _, HH.out.grown (below_drewN HB15.out _)⟩ (grownXB (below_drewN HB15.out _) _)
        · have g2 : decide (q < (dn : Int)) = false := decide_eq_false hfull
          have hnf : ¬ ((beginS st).1.cap - (sizeF (beginS st).1.files : Int) < (data.length : Int)) := by rw [HQQ.out, HDN.out]; exact hfull
          have HNF := Lib.hid hnf
          clear hnf hfull
          go_quiet ((go_at_call 33; with_reducible exact HSZ.out _))
          clear d0 d1 b3 g2 hwq HSZ
          generalize hw6 : w5.drewN _ = w6
          have HB6 : Hid (Below w1.heap.size w1 w6) := by show Below _ _ _; rw [← hw6]; exact below_drewN HB15.out _
          have HK6 : Hid (Bk w6 w2.heap.size 50 [.string f.name, .slice f.A f.n f.c, .int .i64 (f.sure : Int)]) := by show Bk _ _ _ _; rw [← hw6]; exact HK5.out
          clear hw6
          have hg6 := HK6.out.lt
          have hX6 := HB1.out.below HB6.out HB1.out.lt
          have hX6l := hX6.lt
          have HX6 := Lib.hid hX6
          have hx12 := HB2.out.size
          have hxl := HH.out.blk.lt
          -- the bytes of both
          have hbs1 : Bs w6 w6.heap.size f.A f.data := ((HFO.out.bs).below HB6.out (Nat.le_refl _)).more HB6.out.size
          have hbs2 : Bs w6 w6.heap.size DA data := ((HDS1.out.below HB6.out (Nat.le_of_lt hxl)).more (by have := HB6.out.size; omega))
          have hbsd : Bs w6 w6.heap.size DA data := hbs2
          have y1 : w6.cell? ⟨w2.heap.size, 1, none⟩ = some (.slice f.A f.n f.c) := HK6.out.cellAt 1 (show 1 < 3 by decide)
          have b3 : w6.cell? ⟨w.heap.size, 3, none⟩ = some (.slice DA dn dc) := hX6.cellAt 3 (show 3 < 6 by decide)
          have y1a := fun o => (World.cell?_alloc_lt w6 o ⟨w2.heap.size, 1, none⟩ hg6).trans y1
          have b3a := fun o => (World.cell?_alloc_lt w6 o ⟨w.heap.size, 3, none⟩ hX6l).trans b3
          have hl0 : (f.data.map bv).length = f.n := by rw [List.length_map]; exact HFO.out.len
          have hl2 : (data.map bv).length = dn := by rw [List.length_map]; exact HDN.out
          have hFz : f.n ≤ 1099511627776 - dn := HFZ.out
          have hdz : dn ≤ 1099511627776 := by have := HZ.out; omega
          obtain ⟨wa, hwa⟩ : ∃ wa, (w6.alloc (.cells #[] 5)).drew = wa := ⟨_, rfl⟩
          have hmade : Own wa w6.heap.size 5 (.slice (some ⟨w6.heap.size, 0, none⟩) 0 0) [] := by
            rw [← hwa]
            exact World.ownsRow_made (base := w6.heap.size) (e := 5) (size := 1) w6 #[] 0 (Nat.le_refl _) (Nat.zero_le _) rfl
          have hba : Below w6.heap.size w6 wa := by
            rw [← hwa]
            exact below_drewN ((Below.refl _ w6).alloc (Nat.le_refl _) _) 1
          obtain ⟨v8, w8, hrun8, hO8, hG8, -⟩ := run_app (P := Try.prog) wa w6.heap.size 41 41 5 u8E (.slice (some ⟨w6.heap.size, 0, none⟩) 0 0) [] hmade wa.heap.size f.A f.n f.c (f.data.map bv) hl0 ((hbs1.below hba (Nat.le_refl _)).more hba.size) (bv_one _) (by unfold maxLen; simp; omega) (by simp; omega) hba.size
          rw [List.nil_append] at hO8
          have hb8 : Below w6.heap.size w6 w8 := hba.trans (below_app hmade hG8 hba.size)
          obtain ⟨v9, w9, hrun9, hO9, hG9, -⟩ := run_app (P := Try.prog) w8 w6.heap.size 41 41 5 u8E v8 (f.data.map bv) hO8 w6.heap.size DA dn dc (data.map bv) hl2 (hbsd.below hb8 (Nat.le_refl _)) (bv_one _) (by rw [hl0]; unfold maxLen; omega) (by rw [hl0]; omega) hb8.size
          have hb9 : Below w6.heap.size w6 w9 := hb8.trans (below_app hO8 hG9 hb8.size)
          rw [← List.map_append] at hO9
          obtain ⟨A9, n9, c9, rfl, hn9, hnc9, hc9, -⟩ := Own.bform (l := f.data ++ data) hO9
          have hK9 := HK6.out.below hb9 hg6
          have e1 := (show w9.cell? ⟨w2.heap.size, 1, none⟩ = some (.slice f.A f.n f.c) from hK9.cellAt 1 (show 1 < 3 by decide))
          have ef : w9.frozen? ⟨w2.heap.size, 1, none⟩ = false := hK9.frozen 1
          have b3b : w8.cell? ⟨w.heap.size, 3, none⟩ = some (.slice DA dn dc) := (hX6.below hb8 hX6l).cellAt 3 (show 3 < 6 by decide)
          have HG6 := Lib.hid hg6
          have HO9 := Lib.hid hO9
          have HB9 := Lib.hid hb9
          have HK9 := Lib.hid hK9
          rw [← hwa] at hrun8
          clear hbs1 hbs2 hg6 hX6 hX6l hFz hdz hbsd hmade hba hO8 hG8 hb8 hO9 hG9 hb9 hK9 hl0 hl2 hwa
          go_wp2_with fail
          apply region_one
          · go_region_law (first
            | (refine step_appRun _ (by rfl) (.tmp 108) (.tmp 110) _ (by rfl) (by rfl) (by rfl) (by exact hrun8) ?_)
            | (refine step_appRun _ (by rfl) (.tmp 111) (.tmp 113) _ (by rfl) (by rfl) (by rfl) (by exact hrun9) ?_))
            all_goals exact ⟨rfl, rfl⟩
          all_goals
            have hO9 := HO9.out
            have hb9 := HB9.out
            have hK10 := HK9.out.set_ 1 (.slice A9 n9 c9)
            have hb110 : Below w1.heap.size w1 (w9.setCell ⟨w2.heap.size, 1, none⟩ (.slice A9 n9 c9)) := below_own (HB6.out.trans (hb9.mono HB6.out.size)) (grown_set _ _ _ _) hx12
            have hfo : FilOk w9 (fun k => w6.heap.size ≤ k) ⟨f.name, A9, n9, c9, f.data ++ data, f.sure⟩ := FilOk.ownR hO9 hn9.out hnc9 hc9
            have hfo10 : FilOk (w9.setCell ⟨w2.heap.size, 1, none⟩ (.slice A9 n9 c9)) (fun k => k ≠ x) ⟨f.name, A9, n9, c9, f.data ++ data, f.sure⟩ :=
              hfo.keepR (fun k _ hk => heap_setCell_other _ ⟨w2.heap.size, 1, none⟩ k _ (show k ≠ w2.heap.size by have := HG6.out; omega)) (by simp) (fun k _ hk => show k ≠ x by have := HG6.out; omega)
            revert hK10 hb110 hfo10
            generalize w9.setCell ⟨w2.heap.size, 1, none⟩ (.slice A9 n9 c9) = w10
            intro hK10 hb110 hfo10
            have hK10 : Bk w10 w2.heap.size 50 [.string f.name, .slice A9 n9 c9, .int .i64 (f.sure : Int)] := hK10
            clear e1 ef hO9 hb9 b3b hfo y1 y1a b3 b3a hrun8 hrun9
            obtain ⟨F, hF⟩ : ∃ F : Fil, F = ⟨f.name, A9, n9, c9, f.data ++ data, f.sure⟩ := ⟨_, rfl⟩
            rw [← hF] at hfo10
            have hpf : F.pf = ⟨bl nm, f.data ++ data, f.sure⟩ := by rw [hF, ← HNM.out]; rfl
            have hap : appendS (bl nm) data (beginS st).1 = ({ (beginS st).1 with files := putF F.pf (beginS st).1.files }, 0) := by
              unfold appendS
              rw [if_neg (by rw [HTL.out]; decide), if_neg HA0.out, if_neg (by have := HNF.out; omega), HFE.out, hpf]
            have HAP := Lib.hid hap
            have hFs : F.sure ≤ F.data.length := by
              rw [hF]
              have := HSU.out
              show f.sure ≤ (f.data ++ data).length
              rw [List.length_append]
              omega
            have hcnt : (putF F.pf (beginS st).1.files).length ≤ 1024 := by
              have h1 : findF F.pf.name (beginS st).1.files = some f.pf := by rw [hpf]; exact HFS.out
              exact Nat.le_trans (len_put_there h1) HH.out.count
            have hzz : sizeF (putF F.pf (beginS st).1.files) ≤ 1099511627776 := by
              have h8 := size_append (bl nm) data (beginS st).1
              rw [hap, HDN.out] at h8
              exact Nat.le_trans h8 HZ.out
            have h10 := HH.out.grown hb110
            have hWI : ∀ V : World, Below w10.heap.size w10 V → Calls Try.prog 34 #[.slice (some ⟨b, o, none⟩) n1 c1, .agg #[.string f.name, .slice A9 n9 c9, .int .i64 (f.sure : Int)]] V fun e w' => ∃ v, e = .returned v ∧ FSl w' (fun b => b ≠ x) v (wiF F l1) ∧ Below V.heap.size V w' := fun V hV => by
              have hxlt := h10.blk.lt
              have := with_any (h10.grown hV).files (fun k hk => show k ≠ x by have := hV.size; omega) h10.room h10.max (Nat.le_trans h10.len (by decide)) F (hfo10.keepR (fun b hb _ => hV.block b hb) hV.size (fun _ _ hq => hq))
              rw [HN1.out, hF] at this
              rw [hF]
              exact this
            have HWI := Lib.hid hWI
            have H10 := Lib.hid h10
            have HB110 := Lib.hid hb110
            have HFIN := Lib.hid (fun w4 A4 n4 c4 hv hb => h10.withF F hFs hcnt hzz (w4 := w4) (A4 := A4) (n4 := n4) (c4 := c4) hv hb)
            have d0 : w10.cell? ⟨x, 0, none⟩ = some (.slice (some ⟨b, o, none⟩) n1 c1) := HD0.out w10 hb110
            have y0 : w10.cell? ⟨w2.heap.size, 0, none⟩ = some (.string f.name) := hK10.cellAt 0 (show 0 < 3 by decide)
            have y1 : w10.cell? ⟨w2.heap.size, 1, none⟩ = some (.slice A9 n9 c9) := hK10.cellAt 1 (show 1 < 3 by decide)
            have y2 : w10.cell? ⟨w2.heap.size, 2, none⟩ = some (.int .i64 (f.sure : Int)) := hK10.cellAt 2 (show 2 < 3 by decide)
            clear hK10 hfo10 hF hpf hap hFs hcnt hzz h10 hWI hb110
            try go_wp2_with fail
            go_region_with (first
              | (go_at_call 34; (with_reducible refine (HWI.out _ ?_).mono ?_); exact below_drewN (Below.refl _ _) 1; rintro e w11 ⟨v11, rfl, hF11, hb11⟩; have hb11 : Below w10.heap.size w10 w11 := (below_drewN (Below.refl _ _) 1).trans hb11; obtain ⟨A11, n11, c11, rfl, hF11⟩ := hF11.form; have HFI11 := Lib.hid (HFIN.out w11 A11 n11 c11 hF11 hb11); have hB11 := (H10.out.grown hb11).blk; have e0 := (show w11.cell? ⟨x, 0, none⟩ = some (.slice (some ⟨b, o, none⟩) l1.length c1) from hB11.cellAt 0 (show 0 < 7 by decide)); have ef : w11.frozen? ⟨x, 0, none⟩ = false := hB11.frozen 0; clear hB11 hF11))
            all_goals
              clear d0 y0 y1 y2 e0 ef
              go_wp2_with fail
              go_ret
              exact RetR.on HG.out HG1.out HAP.out HFI11.out.1 (grownX (grownXB HB110.out _) HFI11.out.2)
end Go.Proofs.Ytjdjidlopmanbaa
