/-
  Package taximeterref09: Do: Sync. Package taximeterref09: Do: Rename. Package taximeterref09: Do: Remove.
-/
import Derived.Test.YtjdjidlopmanbaaRef9e
namespace Go.Proofs.Ytjdjidlopmanbaa
open Go.RowKit
set_option linter.unusedVariables false

set_option maxRecDepth 100000 in
set_option maxHeartbeats 6400000 in
theorem rdo2_any {w : World} {x : Nat} {st : DSt} {A : Option Addr} {c : Nat} {l : List Fil} (h : RDsk w x st A c l) (nm to : ByteArray) (hs : nm.size ≤ 65536) (DA : Option Addr) (dn dc : Nat) (num m : Int) :
    Calls Try.prog 14 #[.pointer (some ⟨x, 0, none⟩), .agg #[.int .i64 2, .string nm, .string to, .slice DA dn dc, .int .u64 num, .int .i64 m]] w (RetR (.int .i64 (callS (syncS (bl nm)) st).2) (callS (syncS (bl nm)) st).1 x w) := by
  obtain ⟨wb, hwb⟩ : ∃ wb, w.alloc (.cells #[.int .i64 2, .string nm, .string to, .slice DA dn dc, .int .u64 num, .int .i64 m] 43) = wb := ⟨_, rfl⟩
  have hbb : Below w.heap.size w wb := by rw [← hwb]; exact (Below.refl _ w).alloc (Nat.le_refl _) _
  have hbox : Bk wb w.heap.size 43 [.int .i64 2, .string nm, .string to, .slice DA dn dc, .int .u64 num, .int .i64 m] := by rw [← hwb]; exact Bk.new w _ _
  have hxw := h.blk.lt
  have hxn : (some w.heap.size : Option Nat) ≠ some x := by simp; omega
  have b0 : wb.cell? ⟨w.heap.size, 0, none⟩ = some (.int .i64 2) := hbox.cellAt 0 (show 0 < 6 by decide)
  have HB := Lib.hid (rbegin_any (h.grown hbb))
  have HBX := Lib.hid hbox
  have HBB : Hid (w.grownBy wb (some x)) := grownXB hbb _
  clear h hbb hbox
  cases hbg : (beginS st).2 with
  | false =>
    rw [hbg] at HB
    have HG := Lib.hid hbg
    clear hbg
    go_enter Try.func14, Try.ntmps14
    go_wp2_with fail
    refine HB.out.mono ?_
    rintro e w1 ⟨rfl, hI, hg⟩
    have HI := Lib.hid hI
    have HGR := Lib.hid hg
    clear hI hg
    go_wp2_with fail
    go_ret
    exact RetR.off HG.out HBB.out HI.out HGR.out
  | true =>
    rw [hbg] at HB
    have HG := Lib.hid hbg
    clear hbg
    go_enter Try.func14, Try.ntmps14
    go_wp2_with fail
    refine HB.out.mono ?_
    rintro e w1 ⟨rfl, ⟨A1, c1, l1, h1⟩, hg1⟩
    have hB1 := HBX.out.grown hg1 hxn
    clear b0
    have b0 : w1.cell? ⟨w.heap.size, 0, none⟩ = some (.int .i64 2) := hB1.cellAt 0 (show 0 < 6 by decide)
    have b1 : w1.cell? ⟨w.heap.size, 1, none⟩ = some (.string nm) := hB1.cellAt 1 (show 1 < 6 by decide)
    have HB1 := Lib.hid hB1
    have HH := Lib.hid h1
    have HG1 : Hid (w.grownBy w1 (some x)) := grownX HBB.out hg1
    have HT := Lib.hid (rtarget_any nm w1 (by unfold maxLen; omega))
    clear hB1 h1 hg1 HB HBX HBB
    go_wp2_with fail
    refine HT.out.mono ?_
    rintro e w1' ⟨rfl, rfl⟩
    cases htl : targetL (bl nm) with
    | false =>
      have HTL := Lib.hid htl
      clear htl
      go_wp2_with fail
      go_ret
      exact RetR.on HG.out HG1.out (by unfold syncS; rw [if_pos HTL.out]) ⟨A1, c1, l1, HH.out⟩ (World.grownBy.refl _ _)
    | true =>
      have HTL := Lib.hid htl
      clear htl
      have d0 : w1.cell? ⟨x, 0, none⟩ = some (.slice A1 l1.length c1) := HH.out.blk.cellAt 0 (show 0 < 7 by decide)
      rcases HH.out.place (bl nm) with ⟨hfn, hfr⟩ | ⟨i, hi, hfs, hfr, hnm⟩
      · have HFI := Lib.hid (fun n => (HH.out.drewN n).find nm hfr)
        have hq : ∀ n, Calls Try.prog 32 #[.slice A1 l1.length c1, .string nm] (w1.drewN n) fun e w' => e = .returned (.int .i64 (-1)) ∧ ∃ k, w' = w1.drewN k := fun n => ((HH.out.drewN n).find nm hfr).mono fun _ _ ⟨he, k, hk⟩ => ⟨he, n + k, by rw [hk]; simp⟩
        have HQ := Lib.hid hq
        have HFN := Lib.hid hfn
        clear hq hfr hfn HFI
        go_wp2_with fail
        go_quiet ((go_at_call 32; with_reducible exact HQ.out _))
        generalize hw2 : w1.drewN _ = w2
        have HB2 : Hid (Below w1.heap.size w1 w2) := by show Below _ _ _; rw [← hw2]; exact below_drewN (Below.refl _ w1) _
        clear b0 b1 d0 hw2
        have hB2 := HB1.out.below HB2.out HB1.out.lt
        have b1 : w2.cell? ⟨w.heap.size, 1, none⟩ = some (.string nm) := hB2.cellAt 1 (show 1 < 6 by decide)
        obtain ⟨w3, hw3⟩ : ∃ w3, w2.alloc (.cells #[.string ⟨#[]⟩, .slice none 0 0, .int .i64 0] 50) = w3 := ⟨_, rfl⟩
        have hb3 : Below w2.heap.size w2 w3 := by rw [← hw3]; exact (Below.refl _ w2).alloc (Nat.le_refl _) _
        have hK3 : Bk w3 w2.heap.size 50 [.string ⟨#[]⟩, .slice none 0 0, .int .i64 0] := by rw [← hw3]; exact Bk.new w2 _ _
        have HK3 := Lib.hid hK3
        have HB3 := Lib.hid hb3
        have HBK2 := Lib.hid hB2
        clear hB2 hb3 hK3
        go_wp2_with (first | (refine file_store (by rfl) (.tmp 6) (.tmp 71) (by rfl) (by rfl) HK3.out (by rfl) (by simp [Value.oneCell']) ?_; intro w4 hK4 hg4 hs4; have HB4 : Hid (Below w2.heap.size w2 w4) := below_own HB3.out hg4 (Nat.le_refl _); have b0 : w4.cell? ⟨w.heap.size, 0, none⟩ = some (.int .i64 2) := (HBK2.out.below HB4.out HBK2.out.lt).cellAt 0 (show 0 < 6 by decide); clear hK4 hg4 hs4))
        go_ret
        have HB13 := HB2.out.trans (HB4.out.mono HB2.out.size)
        refine RetR.on HG.out HG1.out (st' := (beginS st).1) (by unfold syncS; rw [if_neg (by rw [HTL.out]; decide), HFN.out]) ?_ ?_
        · exact ⟨_, _, _, HH.out.grown HB13⟩
        · exact grownXB HB13 _
      · obtain ⟨f, hf⟩ : ∃ f, l1[i] = f := ⟨_, rfl⟩
        rw [hf] at hfs hnm
        have hq : ∀ n, Calls Try.prog 32 #[.slice A1 l1.length c1, .string nm] (w1.drewN n) fun e w' => e = .returned (.int .i64 (i : Int)) ∧ ∃ k, w' = w1.drewN k := fun n => ((HH.out.drewN n).find nm hfr).mono fun _ _ ⟨he, k, hk⟩ => ⟨he, n + k, by rw [hk]; simp⟩
        have HQ := Lib.hid hq
        have HFS := Lib.hid hfs
        have HNM := Lib.hid hnm
        have HFM : Hid (f ∈ l1) := by show f ∈ l1; rw [← hf]; exact List.getElem_mem hi
        obtain ⟨b, o, hA, hb, hbx, hcell⟩ : ∃ b o, A1 = some ⟨b, o, none⟩ ∧ b < w1.heap.size ∧ b ≠ x ∧ ∀ (i : Nat) (h : i < l1.length) (j : Nat) v, l1[i].cells[j]? = some v → w1.cell? ⟨b, o + (i * 3 + j), none⟩ = some v := by
          rcases HH.out.files.2 with h | h
          · rw [h] at hi; simp at hi
          · exact h
        subst hA
        have HC0 : Hid (∀ V : World, Below w1.heap.size w1 V → V.cell? ⟨b, o + i * 3, none⟩ = some (.string f.name)) := fun V hV => by rw [hV.cell hb, ← hf]; exact hcell i hi 0 _ rfl
        have HC1 : Hid (∀ V : World, Below w1.heap.size w1 V → V.cell? ⟨b, o + i * 3 + 1, none⟩ = some (.slice f.A f.n f.c)) := fun V hV => by rw [hV.cell hb, ← hf, Nat.add_assoc]; exact hcell i hi 1 _ rfl
        have HC2 : Hid (∀ V : World, Below w1.heap.size w1 V → V.cell? ⟨b, o + i * 3 + 2, none⟩ = some (.int .i64 (f.sure : Int))) := fun V hV => by rw [hV.cell hb, ← hf, Nat.add_assoc]; exact hcell i hi 2 _ rfl
        have hi0 : (0 : Int) ≤ (i : Int) := by omega
        obtain ⟨n1, hn1⟩ : ∃ n1, l1.length = n1 := ⟨_, rfl⟩
        rw [hn1] at hi d0 HQ
        have HN1 := Lib.hid hn1
        clear hq hfr hfs hnm hcell hf hn1
        go_wp2_with fail
        go_quiet ((go_at_call 32; with_reducible exact HQ.out _))
        generalize hw2 : w1.drewN _ = w2
        have HB2 : Hid (Below w1.heap.size w1 w2) := by show Below _ _ _; rw [← hw2]; exact below_drewN (Below.refl _ w1) _
        clear b0 b1 d0 hw2
        have hB2 := HB1.out.below HB2.out HB1.out.lt
        have HBK2 := Lib.hid hB2
        have b1 : w2.cell? ⟨w.heap.size, 1, none⟩ = some (.string nm) := hB2.cellAt 1 (show 1 < 6 by decide)
        obtain ⟨w3, hw3⟩ : ∃ w3, w2.alloc (.cells #[.string ⟨#[]⟩, .slice none 0 0, .int .i64 0] 50) = w3 := ⟨_, rfl⟩
        have hb3 : Below w2.heap.size w2 w3 := by rw [← hw3]; exact (Below.refl _ w2).alloc (Nat.le_refl _) _
        have hK3 : Bk w3 w2.heap.size 50 [.string ⟨#[]⟩, .slice none 0 0, .int .i64 0] := by rw [← hw3]; exact Bk.new w2 _ _
        have HK3 := Lib.hid hK3
        have HB3 := Lib.hid hb3
        have HBK2 := Lib.hid hB2
        have HD0 : Hid (∀ V : World, Below w1.heap.size w1 V → V.cell? ⟨x, 0, none⟩ = some (.slice (some ⟨b, o, none⟩) n1 c1)) := fun V hV => by rw [← HN1.out]; exact (HH.out.grown hV).blk.cellAt 0 (show 0 < 7 by decide)
        clear hB2 hb3 hK3
        go_wp2_with (first
          | (refine file_store (by rfl) (.tmp 6) (.tmp 71) (by rfl) (by rfl) HK3.out (by rfl) (by simp [Value.oneCell']) ?_; intro w4 hK4 hg4 hs4; have HB4 : Hid (Below w2.heap.size w2 w4) := below_own HB3.out hg4 (Nat.le_refl _); have HB14 := Lib.hid (HB2.out.trans (HB4.out.mono HB2.out.size)); have HK4 := Lib.hid hK4; have d0 := HD0.out w4 HB14.out; have z0 := HC0.out w4 HB14.out; have z1 := HC1.out w4 HB14.out; have z2 := HC2.out w4 HB14.out; clear hK4 hg4 hs4)
          | (refine file_store (by rfl) (.tmp 6) (.tmp 80) (by rfl) (by rfl) HK4.out (by rfl) (by simp [Value.oneCell']) ?_; intro w5 hK5 hg5 hs5; have HB5 : Hid (Below w2.heap.size w2 w5) := below_own HB4.out hg5 (Nat.le_refl _); have HB15 := Lib.hid (HB2.out.trans (HB5.out.mono HB2.out.size)); have HK5 := Lib.hid hK5; have b0 : w5.cell? ⟨w.heap.size, 0, none⟩ = some (.int .i64 2) := (HBK2.out.below HB5.out HBK2.out.lt).cellAt 0 (show 0 < 6 by decide); have y1 : w5.cell? ⟨w2.heap.size, 1, none⟩ = some (.slice f.A f.n f.c) := hK5.cellAt 1 (show 1 < 3 by decide); have y2 : w5.cell? ⟨w2.heap.size, 2, none⟩ = some (.int .i64 (f.sure : Int)) := hK5.cellAt 2 (show 2 < 3 by decide); have q2 : w5.frozen? ⟨w2.heap.size, 2, none⟩ = false := hK5.frozen 2; clear hK5 hg5 hs5 d0 z0 z1 z2))
        have hB6 : Bk (w5.setCell ⟨w2.heap.size, 2, none⟩ (.int .i64 (f.n : Int))) w2.heap.size 50 [.string f.name, .slice f.A f.n f.c, .int .i64 (f.n : Int)] := HK5.out.set_ 2 _
        have hb6 : Below w2.heap.size w2 (w5.setCell ⟨w2.heap.size, 2, none⟩ (.int .i64 (f.n : Int))) := below_own HB5.out (grown_set _ _ _ _) (Nat.le_refl _)
        revert hB6 hb6
        generalize w5.setCell ⟨w2.heap.size, 2, none⟩ (.int .i64 (f.n : Int)) = w6
        intro hB6 hb6
        have hb16 := HB2.out.trans (hb6.mono HB2.out.size)
        have h6 := HH.out.grown hb16
        have hfo := h6.files.1 f HFM.out
        obtain ⟨F, hF⟩ : ∃ F : Fil, F = ⟨f.name, f.A, f.n, f.c, f.data, f.n⟩ := ⟨_, rfl⟩
        have hpf : F.pf = ⟨bl nm, f.data, f.data.length⟩ := by rw [hF, hfo.len, ← HNM.out]; rfl
        have hFo : FilOk w6 (fun b => b ≠ x) F := by rw [hF]; exact ⟨hfo.len, hfo.cap, hfo.max, hfo.data⟩
        have hFs : F.sure ≤ F.data.length := by rw [hF]; exact Nat.le_of_eq hfo.len.symm
        have hft : findF F.pf.name (beginS st).1.files = some f.pf := by rw [hpf]; exact HFS.out
        have hcnt : (putF F.pf (beginS st).1.files).length ≤ 1024 := Nat.le_trans (len_put_there hft) h6.count
        have hsy : syncS (bl nm) (beginS st).1 = ({ (beginS st).1 with files := putF F.pf (beginS st).1.files }, 0) := by
          unfold syncS
          rw [if_neg (by rw [HTL.out]; decide), HFS.out, hpf]
          rfl
        have hzz : sizeF (putF F.pf (beginS st).1.files) ≤ 1099511627776 := by
          have := size_sync (bl nm) (beginS st).1
          rw [hsy] at this
          exact Nat.le_trans this h6.size
        have HSY := Lib.hid hsy
        have hxlt := h6.blk.lt
        have hWI : ∀ V : World, Below w6.heap.size w6 V → Calls Try.prog 34 #[.slice (some ⟨b, o, none⟩) n1 c1, .agg #[.string f.name, .slice f.A f.n f.c, .int .i64 (f.n : Int)]] V fun e w' => ∃ v, e = .returned v ∧ FSl w' (fun b => b ≠ x) v (wiF F l1) ∧ Below V.heap.size V w' := fun V hV => by
          have := with_any (h6.grown hV).files (fun k hk => show k ≠ x by have := hV.size; omega) h6.room h6.max (Nat.le_trans h6.len (by decide)) F (hFo.keepR (fun b hb _ => hV.block b hb) hV.size (fun _ _ hq => hq))
          rw [HN1.out, hF] at this
          rw [hF]
          exact this
        have HWI := Lib.hid hWI
        have H6 := Lib.hid h6
        have HFIN := Lib.hid (fun w4 A4 n4 c4 hv hb => h6.withF F hFs hcnt hzz (w4 := w4) (A4 := A4) (n4 := n4) (c4 := c4) hv hb)
        have d0 : w6.cell? ⟨x, 0, none⟩ = some (.slice (some ⟨b, o, none⟩) n1 c1) := HD0.out w6 hb16
        have y0 : w6.cell? ⟨w2.heap.size, 0, none⟩ = some (.string f.name) := hB6.cellAt 0 (show 0 < 3 by decide)
        clear y1 y2
        have y1 : w6.cell? ⟨w2.heap.size, 1, none⟩ = some (.slice f.A f.n f.c) := hB6.cellAt 1 (show 1 < 3 by decide)
        have y2 : w6.cell? ⟨w2.heap.size, 2, none⟩ = some (.int .i64 (f.n : Int)) := hB6.cellAt 2 (show 2 < 3 by decide)
        have HB16 := Lib.hid hb16
        clear b0 b1 q2 hB6 hb6 hfo hpf hFo hFs hft hcnt hsy hzz hWI h6 hb16 hF
        go_region_with (first
          | (go_at_call 34; (with_reducible refine (HWI.out _ ?_).mono ?_); exact below_drewN (Below.refl _ _) 1; rintro e w7 ⟨v7, rfl, hF7, hb7⟩; have hb7 : Below w6.heap.size w6 w7 := (below_drewN (Below.refl _ _) 1).trans hb7; obtain ⟨A7, n7, c7, rfl, hF7⟩ := hF7.form; have HFI7 := Lib.hid (HFIN.out w7 A7 n7 c7 hF7 hb7); have hB7 := (H6.out.grown hb7).blk; have e0 := (show w7.cell? ⟨x, 0, none⟩ = some (.slice (some ⟨b, o, none⟩) l1.length c1) from hB7.cellAt 0 (show 0 < 7 by decide)); have ef : w7.frozen? ⟨x, 0, none⟩ = false := hB7.frozen 0; clear hB7 hF7))
        all_goals
          clear d0 y0 y1 y2 e0 ef
          go_wp2_with fail
          go_ret
          exact RetR.on HG.out HG1.out HSY.out HFI7.out.1 (grownX (grownXB HB16.out _) HFI7.out.2)
end Go.Proofs.Ytjdjidlopmanbaa

namespace Go.Proofs.Ytjdjidlopmanbaa
open Go.RowKit
set_option linter.unusedVariables false

theorem grown_new {a b c : World} {row : Option Nat} {g : Nat} (h : a.grownBy b row) (k : b.grownBy c (some g)) (hg : a.heap.size ≤ g) : a.grownBy c row :=
  ⟨k.os.trans h.os, k.tape.trans h.tape, k.output.trans h.output, Nat.le_trans h.size k.size, fun i hi hne => (k.block i (Nat.lt_of_lt_of_le hi h.size) (by simp; omega)).trans (h.block i hi hne)⟩
theorem RDsk.withoutG {W w7 w9 : World} {x g : Nat} {st : DSt} {A : Option Addr} {c : Nat} {l : List Fil} (h : RDsk W x st A c l) (nm : List UInt8)
    {A4 : Option Addr} {n4 c4 : Nat} (hv : FSl w7 (fun b => b ≠ x ∧ b ≠ g) (.slice A4 n4 c4) (woF nm l)) (hw : ∀ k, k ≠ x → k ≠ g → w9.heap[k]? = w7.heap[k]?) (hs : w7.heap.size ≤ w9.heap.size) (hx : Bk w9 x 39 (rcells A4 n4 c4 st)) :
    ∃ l4, RDsk w9 x { st with files := dropF nm st.files } A4 c4 l4 ∧ l4.length = n4 := by
  obtain ⟨A', c', e, hF, hc, hm⟩ := hv
  obtain ⟨rfl, rfl, rfl⟩ : A4 = A' ∧ n4 = (woF nm l).length ∧ c4 = c' := by simpa using e
  have hpf : (woF nm l).map Fil.pf = dropF nm st.files := by rw [woF_pf, h.pf]
  have hF9 : IsFiles w9 (fun b => b ≠ x) A4 (woF nm l) := (hF.keep (fun k _ hq => hw k hq.1 hq.2) hs).imp fun _ hq => hq.1
  refine ⟨woF nm l, h.list (W := w9) { st with files := dropF nm st.files } (by rw [hpf]) hF9 hc hm (h.ris.drop _) (h.good.drop _) ?_ ?_ hx (World.grownBy.refl _ _), rfl⟩
  · exact Nat.le_trans (List.length_filter_le _ _) h.count
  · exact Nat.le_trans (sizeF_drop nm st.files) h.size

set_option maxRecDepth 100000 in
set_option maxHeartbeats 6400000 in
theorem rdo3_any {w : World} {x : Nat} {st : DSt} {A : Option Addr} {c : Nat} {l : List Fil} (h : RDsk w x st A c l) (nm to : ByteArray) (hs : nm.size ≤ 65536) (ht : to.size ≤ 65536) (DA : Option Addr) (dn dc : Nat) (num m : Int) :
    Calls Try.prog 14 #[.pointer (some ⟨x, 0, none⟩), .agg #[.int .i64 3, .string nm, .string to, .slice DA dn dc, .int .u64 num, .int .i64 m]] w (RetR (.int .i64 (callS (renameS (bl nm) (bl to)) st).2) (callS (renameS (bl nm) (bl to)) st).1 x w) := by
  obtain ⟨wb, hwb⟩ : ∃ wb, w.alloc (.cells #[.int .i64 3, .string nm, .string to, .slice DA dn dc, .int .u64 num, .int .i64 m] 43) = wb := ⟨_, rfl⟩
  have hbb : Below w.heap.size w wb := by rw [← hwb]; exact (Below.refl _ w).alloc (Nat.le_refl _) _
  have hbox : Bk wb w.heap.size 43 [.int .i64 3, .string nm, .string to, .slice DA dn dc, .int .u64 num, .int .i64 m] := by rw [← hwb]; exact Bk.new w _ _
  have hxw := h.blk.lt
  have hxn : (some w.heap.size : Option Nat) ≠ some x := by simp; omega
  have b0 : wb.cell? ⟨w.heap.size, 0, none⟩ = some (.int .i64 3) := hbox.cellAt 0 (show 0 < 6 by decide)
  have HB := Lib.hid (rbegin_any (h.grown hbb))
  have HBX := Lib.hid hbox
  have HBB : Hid (w.grownBy wb (some x)) := grownXB hbb _
  clear h hbb hbox
  cases hbg : (beginS st).2 with
  | false =>
    rw [hbg] at HB
    have HG := Lib.hid hbg
    clear hbg
    go_enter Try.func14, Try.ntmps14
    go_wp2_with fail
    refine HB.out.mono ?_
    rintro e w1 ⟨rfl, hI, hg⟩
    have HI := Lib.hid hI
    have HGR := Lib.hid hg
    clear hI hg
    go_wp2_with fail
    go_ret
    exact RetR.off HG.out HBB.out HI.out HGR.out
  | true =>
    rw [hbg] at HB
    have HG := Lib.hid hbg
    clear hbg
    go_enter Try.func14, Try.ntmps14
    go_wp2_with fail
    refine HB.out.mono ?_
    rintro e w1 ⟨rfl, ⟨A1, c1, l1, h1⟩, hg1⟩
    have hB1 := HBX.out.grown hg1 hxn
    clear b0
    have b0 : w1.cell? ⟨w.heap.size, 0, none⟩ = some (.int .i64 3) := hB1.cellAt 0 (show 0 < 6 by decide)
    have b1 : w1.cell? ⟨w.heap.size, 1, none⟩ = some (.string nm) := hB1.cellAt 1 (show 1 < 6 by decide)
    have HB1 := Lib.hid hB1
    have HH := Lib.hid h1
    have HG1 : Hid (w.grownBy w1 (some x)) := grownX HBB.out hg1
    have HT := Lib.hid (rtarget_any nm w1 (by unfold maxLen; omega))
    clear hB1 h1 hg1 HB HBX HBB
    go_wp2_with fail
    refine HT.out.mono ?_
    rintro e w1' ⟨rfl, rfl⟩
    cases htl : targetL (bl nm) with
    | false =>
      have HTL := Lib.hid htl
      clear htl
      go_wp2_with fail
      go_ret
      exact RetR.on HG.out HG1.out (by unfold renameS; rw [if_pos (.inl HTL.out)]) ⟨A1, c1, l1, HH.out⟩ (World.grownBy.refl _ _)
    | true =>
      have HTL := Lib.hid htl
      have b2 : w1.cell? ⟨w.heap.size, 2, none⟩ = some (.string to) := HB1.out.cellAt 2 (show 2 < 6 by decide)
      have HT2 := Lib.hid (rtarget_any to w1 (by unfold maxLen; omega))
      clear htl
      go_wp2_with fail
      refine HT2.out.mono ?_
      rintro e w1' ⟨rfl, rfl⟩
      clear b2
      cases hto : targetL (bl to)
      case false =>
        have HTO := Lib.hid hto
        clear hto
        go_wp2_with fail
        go_ret
        exact RetR.on HG.out HG1.out (by unfold renameS; rw [if_pos (.inr HTO.out)]) ⟨A1, c1, l1, HH.out⟩ (World.grownBy.refl _ _)
      have HTO := Lib.hid hto
      have HNB : Hid (¬ (targetL (bl nm) = false ∨ targetL (bl to) = false)) := by show ¬ _; rw [HTL.out, HTO.out]; decide
      clear hto
      have d0 : w1.cell? ⟨x, 0, none⟩ = some (.slice A1 l1.length c1) := HH.out.blk.cellAt 0 (show 0 < 7 by decide)
      rcases HH.out.place (bl nm) with ⟨hfn, hfr⟩ | ⟨i, hi, hfs, hfr, hnm⟩
      · have HFI := Lib.hid (fun n => (HH.out.drewN n).find nm hfr)
        have hq : ∀ n, Calls Try.prog 32 #[.slice A1 l1.length c1, .string nm] (w1.drewN n) fun e w' => e = .returned (.int .i64 (-1)) ∧ ∃ k, w' = w1.drewN k := fun n => ((HH.out.drewN n).find nm hfr).mono fun _ _ ⟨he, k, hk⟩ => ⟨he, n + k, by rw [hk]; simp⟩
        have HQ := Lib.hid hq
        have HFN := Lib.hid hfn
        clear hq hfr hfn HFI
        go_wp2_with fail
        go_quiet ((go_at_call 32; with_reducible exact HQ.out _))
        generalize hw2 : w1.drewN _ = w2
        have HB2 : Hid (Below w1.heap.size w1 w2) := by show Below _ _ _; rw [← hw2]; exact below_drewN (Below.refl _ w1) _
        clear b0 b1 d0 hw2
        have hB2 := HB1.out.below HB2.out HB1.out.lt
        have b1 : w2.cell? ⟨w.heap.size, 1, none⟩ = some (.string nm) := hB2.cellAt 1 (show 1 < 6 by decide)
        obtain ⟨w3, hw3⟩ : ∃ w3, w2.alloc (.cells #[.string ⟨#[]⟩, .slice none 0 0, .int .i64 0] 50) = w3 := ⟨_, rfl⟩
        have hb3 : Below w2.heap.size w2 w3 := by rw [← hw3]; exact (Below.refl _ w2).alloc (Nat.le_refl _) _
        have hK3 : Bk w3 w2.heap.size 50 [.string ⟨#[]⟩, .slice none 0 0, .int .i64 0] := by rw [← hw3]; exact Bk.new w2 _ _
        have HK3 := Lib.hid hK3
        have HB3 := Lib.hid hb3
        have HBK2 := Lib.hid hB2
        clear hB2 hb3 hK3
        go_wp2_with (first | (refine file_store (by rfl) (.tmp 6) (.tmp 71) (by rfl) (by rfl) HK3.out (by rfl) (by simp [Value.oneCell']) ?_; intro w4 hK4 hg4 hs4; have HB4 : Hid (Below w2.heap.size w2 w4) := below_own HB3.out hg4 (Nat.le_refl _); have b0 : w4.cell? ⟨w.heap.size, 0, none⟩ = some (.int .i64 3) := (HBK2.out.below HB4.out HBK2.out.lt).cellAt 0 (show 0 < 6 by decide); clear hK4 hg4 hs4))
        go_ret
        have HB13 := HB2.out.trans (HB4.out.mono HB2.out.size)
        refine RetR.on HG.out HG1.out (st' := (beginS st).1) (by unfold renameS; rw [if_neg HNB.out, HFN.out]) ?_ ?_
        · exact ⟨_, _, _, HH.out.grown HB13⟩
        · exact grownXB HB13 _
      · obtain ⟨f, hf⟩ : ∃ f, l1[i] = f := ⟨_, rfl⟩
        rw [hf] at hfs hnm
        have hq : ∀ n, Calls Try.prog 32 #[.slice A1 l1.length c1, .string nm] (w1.drewN n) fun e w' => e = .returned (.int .i64 (i : Int)) ∧ ∃ k, w' = w1.drewN k := fun n => ((HH.out.drewN n).find nm hfr).mono fun _ _ ⟨he, k, hk⟩ => ⟨he, n + k, by rw [hk]; simp⟩
        have HQ := Lib.hid hq
        have HFS := Lib.hid hfs
        have HNM := Lib.hid hnm
        have HFM : Hid (f ∈ l1) := by show f ∈ l1; rw [← hf]; exact List.getElem_mem hi
        obtain ⟨b, o, hA, hb, hbx, hcell⟩ : ∃ b o, A1 = some ⟨b, o, none⟩ ∧ b < w1.heap.size ∧ b ≠ x ∧ ∀ (i : Nat) (h : i < l1.length) (j : Nat) v, l1[i].cells[j]? = some v → w1.cell? ⟨b, o + (i * 3 + j), none⟩ = some v := by
          rcases HH.out.files.2 with h | h
          · rw [h] at hi; simp at hi
          · exact h
        subst hA
        have HC0 : Hid (∀ V : World, Below w1.heap.size w1 V → V.cell? ⟨b, o + i * 3, none⟩ = some (.string f.name)) := fun V hV => by rw [hV.cell hb, ← hf]; exact hcell i hi 0 _ rfl
        have HC1 : Hid (∀ V : World, Below w1.heap.size w1 V → V.cell? ⟨b, o + i * 3 + 1, none⟩ = some (.slice f.A f.n f.c)) := fun V hV => by rw [hV.cell hb, ← hf, Nat.add_assoc]; exact hcell i hi 1 _ rfl
        have HC2 : Hid (∀ V : World, Below w1.heap.size w1 V → V.cell? ⟨b, o + i * 3 + 2, none⟩ = some (.int .i64 (f.sure : Int))) := fun V hV => by rw [hV.cell hb, ← hf, Nat.add_assoc]; exact hcell i hi 2 _ rfl
        have hi0 : (0 : Int) ≤ (i : Int) := by omega
        obtain ⟨n1, hn1⟩ : ∃ n1, l1.length = n1 := ⟨_, rfl⟩
        rw [hn1] at hi d0 HQ
        have HN1 := Lib.hid hn1
        clear hq hfr hfs hnm hcell hf hn1
        go_wp2_with fail
        go_quiet ((go_at_call 32; with_reducible exact HQ.out _))
        generalize hw2 : w1.drewN _ = w2
        have HB2 : Hid (Below w1.heap.size w1 w2) := by show Below _ _ _; rw [← hw2]; exact below_drewN (Below.refl _ w1) _
        clear b0 b1 d0 hw2
        have hB2 := HB1.out.below HB2.out HB1.out.lt
        have HBK2 := Lib.hid hB2
        have b1 : w2.cell? ⟨w.heap.size, 1, none⟩ = some (.string nm) := hB2.cellAt 1 (show 1 < 6 by decide)
        obtain ⟨w3, hw3⟩ : ∃ w3, w2.alloc (.cells #[.string ⟨#[]⟩, .slice none 0 0, .int .i64 0] 50) = w3 := ⟨_, rfl⟩
        have hb3 : Below w2.heap.size w2 w3 := by rw [← hw3]; exact (Below.refl _ w2).alloc (Nat.le_refl _) _
        have hK3 : Bk w3 w2.heap.size 50 [.string ⟨#[]⟩, .slice none 0 0, .int .i64 0] := by rw [← hw3]; exact Bk.new w2 _ _
        have HK3 := Lib.hid hK3
        have HB3 := Lib.hid hb3
        have HBK2 := Lib.hid hB2
        have HD0 : Hid (∀ V : World, Below w1.heap.size w1 V → V.cell? ⟨x, 0, none⟩ = some (.slice (some ⟨b, o, none⟩) n1 c1)) := fun V hV => by rw [← HN1.out]; exact (HH.out.grown hV).blk.cellAt 0 (show 0 < 7 by decide)
        clear hB2 hb3 hK3
        go_wp2_with (first
          | (refine file_store (by rfl) (.tmp 6) (.tmp 71) (by rfl) (by rfl) HK3.out (by rfl) (by simp [Value.oneCell']) ?_; intro w4 hK4 hg4 hs4; have HB4 : Hid (Below w2.heap.size w2 w4) := below_own HB3.out hg4 (Nat.le_refl _); have HB14 := Lib.hid (HB2.out.trans (HB4.out.mono HB2.out.size)); have HK4 := Lib.hid hK4; have d0 := HD0.out w4 HB14.out; have z0 := HC0.out w4 HB14.out; have z1 := HC1.out w4 HB14.out; have z2 := HC2.out w4 HB14.out; clear hK4 hg4 hs4)
          | (refine file_store (by rfl) (.tmp 6) (.tmp 80) (by rfl) (by rfl) HK4.out (by rfl) (by simp [Value.oneCell']) ?_; intro w5 hK5 hg5 hs5; have HB5 : Hid (Below w2.heap.size w2 w5) := below_own HB4.out hg5 (Nat.le_refl _); have HB15 := Lib.hid (HB2.out.trans (HB5.out.mono HB2.out.size)); have HK5 := Lib.hid hK5; have b0 : w5.cell? ⟨w.heap.size, 0, none⟩ = some (.int .i64 3) := (HBK2.out.below HB5.out HBK2.out.lt).cellAt 0 (show 0 < 6 by decide); have b1' : w5.cell? ⟨w.heap.size, 1, none⟩ = some (.string nm) := (HBK2.out.below HB5.out HBK2.out.lt).cellAt 1 (show 1 < 6 by decide); clear hK5 hg5 hs5 d0 z0 z1 z2; have d0 := HD0.out w5 HB15.out))
        have h5 := HH.out.grown HB15.out
        have hK5 := HK5.out
        have hg12 := HB2.out.size
        have hgx : x < w2.heap.size := Nat.lt_of_lt_of_le HH.out.blk.lt hg12
        have hrm : renameS (bl nm) (bl to) (beginS st).1 = ({ (beginS st).1 with files := putF ⟨bl to, f.data, f.sure⟩ (dropF (bl nm) (beginS st).1.files) }, 0) := by
          unfold renameS
          rw [if_neg HNB.out, HFS.out]
          rfl
        have HRM := Lib.hid hrm
        have hQ5 : IsFiles w5 (fun k => k ≠ x ∧ k ≠ w2.heap.size) (some ⟨b, o, none⟩) l1 := (HH.out.files.bound.imp fun k hq => ⟨hq.1, by have := hq.2; omega⟩).below HB15.out
        have hWO : ∀ V : World, Below w5.heap.size w5 V → Calls Try.prog 35 #[.slice (some ⟨b, o, none⟩) n1 c1, .string nm] V fun e w' => ∃ v, e = .returned v ∧ FSl w' (fun k => k ≠ x ∧ k ≠ w2.heap.size) v (woF (bl nm) l1) ∧ Below V.heap.size V w' := fun V hV => by
          have hglt := hK5.lt
          have := without_any (hQ5.below hV) (fun k hk => ⟨show k ≠ x by have := hV.size; omega, show k ≠ w2.heap.size by have := hV.size; omega⟩) h5.room h5.max (Nat.le_trans h5.len (by decide)) nm
          rw [HN1.out] at this
          exact this
        have HWO := Lib.hid hWO
        have H5 := Lib.hid h5
        have hfo1 := HH.out.files.1 f HFM.out
        have HFO1 := Lib.hid hfo1
        have HGX := Lib.hid hgx
        have HG12 := Lib.hid hg12
        clear hrm hWO h5 b1 hK5 hQ5 hfo1 hgx hg12
        go_region_with (first
          | (go_at_call 35; (with_reducible refine (HWO.out _ ?_).mono ?_); exact below_drewN (Below.refl _ _) 1; rintro e w7 ⟨v7, rfl, hF7, hb7⟩; have hb7 : Below w5.heap.size w5 w7 := (below_drewN (Below.refl _ _) 1).trans hb7; obtain ⟨A7, n7, c7, rfl, hF7⟩ := hF7.form; have HF7 := Lib.hid hF7; have HB7 := Lib.hid hb7; have hB7 := (H5.out.grown hb7).blk; have e0 := (show w7.cell? ⟨x, 0, none⟩ = some (.slice (some ⟨b, o, none⟩) l1.length c1) from hB7.cellAt 0 (show 0 < 7 by decide)); have ef : w7.frozen? ⟨x, 0, none⟩ = false := hB7.frozen 0; clear hB7 hF7 hb7))
        all_goals
          clear d0 b0 b1'
          have hgx := HGX.out
          have hB7 := (H5.out.grown HB7.out).blk
          have hK7 := HK5.out.below HB7.out HK5.out.lt
          have hX7 := (HBK2.out.below HB5.out HBK2.out.lt).below HB7.out (HBK2.out.below HB5.out HBK2.out.lt).lt
          have hgs : w.heap.size ≠ w2.heap.size := Nat.ne_of_lt HBK2.out.lt
          have hxs : w.heap.size ≠ x := by omega
          have hB8 := hB7.set_ 0 (.slice A7 n7 c7)
          have hK8 : Bk (w7.setCell ⟨x, 0, none⟩ (.slice A7 n7 c7)) w2.heap.size 50 [.string f.name, .slice f.A f.n f.c, .int .i64 (f.sure : Int)] := hK7.far (show w2.heap.size ≠ x by omega) _
          have hX8 := hX7.far (p := ⟨x, 0, none⟩) hxs (.slice A7 n7 c7)
          have hB9 := hB8.far (p := ⟨w2.heap.size, 0, none⟩) (show x ≠ w2.heap.size by omega) (.string to)
          have hK9 := hK8.set_ 0 (.string to)
          have b0 : (w7.setCell ⟨x, 0, none⟩ (.slice A7 n7 c7)).cell? ⟨w.heap.size, 0, none⟩ = some (.int .i64 3) := hX8.cellAt 0 (show 0 < 6 by decide)
          have b2 : (w7.setCell ⟨x, 0, none⟩ (.slice A7 n7 c7)).cell? ⟨w.heap.size, 2, none⟩ = some (.string to) := hX8.cellAt 2 (show 2 < 6 by decide)
          have y0 : (w7.setCell ⟨x, 0, none⟩ (.slice A7 n7 c7)).cell? ⟨w2.heap.size, 0, none⟩ = some (.string f.name) := hK8.cellAt 0 (show 0 < 3 by decide)
          have q0 : (w7.setCell ⟨x, 0, none⟩ (.slice A7 n7 c7)).frozen? ⟨w2.heap.size, 0, none⟩ = false := hK8.frozen 0
          have hst : ∀ k, k ≠ x → k ≠ w2.heap.size → ((w7.setCell ⟨x, 0, none⟩ (.slice A7 n7 c7)).setCell ⟨w2.heap.size, 0, none⟩ (.string to)).heap[k]? = w7.heap[k]? := fun k h1 h2 => by
            rw [heap_setCell_other _ ⟨w2.heap.size, 0, none⟩ k _ h2, heap_setCell_other _ ⟨x, 0, none⟩ k _ h1]
          have hg19 : w1.grownBy ((w7.setCell ⟨x, 0, none⟩ (.slice A7 n7 c7)).setCell ⟨w2.heap.size, 0, none⟩ (.string to)) (some x) :=
            grown_new (grownX (grownXB (HB15.out.trans (HB7.out.mono HB15.out.size)) _) (grown_set w7 x 0 _)) (grown_set _ w2.heap.size 0 _) HG12.out
          obtain ⟨l4, h9, hl4⟩ := H5.out.withoutG (bl nm) HF7.out hst (by simp) (by
            have := hB9
            exact this)
          have H9 := Lib.hid h9
          have HL4 := Lib.hid hl4
          have HK9 := Lib.hid hK9
          have HG19 := Lib.hid hg19
          clear hB7 hK7 hX7 hB8 hK8 hX8 hB9 hK9 h9 hl4 hg19 hst hgs hxs hgx
          go_wp2_with fail
          revert H9 HK9 HG19
          generalize ((w7.setCell ⟨x, 0, none⟩ (.slice A7 n7 c7)).setCell ⟨w2.heap.size, 0, none⟩ (.string to)) = w9
          intro H9 HK9 HG19
          clear b0 b2 y0 q0 e0 ef
          have h9 := H9.out
          obtain ⟨F, hF⟩ : ∃ F : Fil, F = ⟨to, f.A, f.n, f.c, f.data, f.sure⟩ := ⟨_, rfl⟩
          have hpf : F.pf = ⟨bl to, f.data, f.sure⟩ := by rw [hF]; rfl
          have hf9 := HFO1.out.keepR (w' := w9) (Q' := fun b => b ≠ x) (fun k hk hq => HG19.out.block k hk (by simpa using hq)) HG19.out.size (fun _ _ hq => hq)
          have hFo : FilOk w9 (fun b => b ≠ x) F := by rw [hF]; exact ⟨hf9.len, hf9.cap, hf9.max, hf9.data⟩
          have hFs : F.sure ≤ F.data.length := by
            rw [hF]
            have := HH.out.good.sure f.pf (by rw [← HH.out.pf]; exact List.mem_map_of_mem HFM.out)
            exact this
          have hcnt : (putF F.pf (dropF (bl nm) (beginS st).1.files)).length ≤ 1024 := by
            have h1 := len_put F.pf (dropF (bl nm) (beginS st).1.files)
            have h2 := len_drop_lt HFS.out
            have h3 := HH.out.count
            omega
          have hzz : sizeF (putF F.pf (dropF (bl nm) (beginS st).1.files)) ≤ 1099511627776 := by
            have := size_rename (bl nm) (bl to) (beginS st).1
            rw [HRM.out] at this
            rw [hpf]
            exact Nat.le_trans this HH.out.size
          have hxlt := h9.blk.lt
          have hWI : ∀ V : World, Below w9.heap.size w9 V → Calls Try.prog 34 #[.slice A7 n7 c7, .agg #[.string to, .slice f.A f.n f.c, .int .i64 (f.sure : Int)]] V fun e w' => ∃ v, e = .returned v ∧ FSl w' (fun b => b ≠ x) v (wiF F l4) ∧ Below V.heap.size V w' := fun V hV => by
            have := with_any (h9.grown hV).files (fun k hk => show k ≠ x by have := hV.size; omega) h9.room h9.max (Nat.le_trans h9.len (by decide)) F (hFo.keepR (fun b hb _ => hV.block b hb) hV.size (fun _ _ hq => hq))
            rw [HL4.out, hF] at this
            rw [hF]
            exact this
          have HWI := Lib.hid hWI
          have HFIN := Lib.hid (fun w4 A4 n4 c4 hv hb => h9.withF F hFs hcnt hzz (w4 := w4) (A4 := A4) (n4 := n4) (c4 := c4) hv hb)
          have d0 : w9.cell? ⟨x, 0, none⟩ = some (.slice A7 n7 c7) := by rw [← HL4.out]; exact h9.blk.cellAt 0 (show 0 < 7 by decide)
          have y0 : w9.cell? ⟨w2.heap.size, 0, none⟩ = some (.string to) := HK9.out.cellAt 0 (show 0 < 3 by decide)
          have y1 : w9.cell? ⟨w2.heap.size, 1, none⟩ = some (.slice f.A f.n f.c) := HK9.out.cellAt 1 (show 1 < 3 by decide)
          have y2 : w9.cell? ⟨w2.heap.size, 2, none⟩ = some (.int .i64 (f.sure : Int)) := HK9.out.cellAt 2 (show 2 < 3 by decide)
          have HPF := Lib.hid hpf
          clear h9 hF hpf hf9 hFo hFs hcnt hzz hxlt hWI
          go_region_with (first
            | (go_at_call 34; (with_reducible refine (HWI.out _ ?_).mono ?_); exact below_drewN (Below.refl _ _) 1; rintro e w10 ⟨v10, rfl, hF10, hb10⟩; have hb10 : Below w9.heap.size w9 w10 := (below_drewN (Below.refl _ _) 1).trans hb10; obtain ⟨A10, n10, c10, rfl, hF10⟩ := hF10.form; have HFI10 := Lib.hid (HFIN.out w10 A10 n10 c10 hF10 hb10); have hB10 := (H9.out.grown hb10).blk; have e0 := (show w10.cell? ⟨x, 0, none⟩ = some (.slice A7 l4.length c7) from hB10.cellAt 0 (show 0 < 7 by decide)); have ef : w10.frozen? ⟨x, 0, none⟩ = false := hB10.frozen 0; clear hB10 hF10))
          all_goals
            clear d0 y0 y1 y2 e0 ef
            go_wp2_with fail
            go_ret
            have hfin := HFI10.out
            rw [HPF.out] at hfin
            exact RetR.on HG.out HG1.out HRM.out hfin.1 (grownX HG19.out hfin.2)
end Go.Proofs.Ytjdjidlopmanbaa

namespace Go.Proofs.Ytjdjidlopmanbaa
open Go.RowKit
set_option linter.unusedVariables false

set_option maxRecDepth 100000 in
set_option maxHeartbeats 6400000 in
theorem rdo4_any {w : World} {x : Nat} {st : DSt} {A : Option Addr} {c : Nat} {l : List Fil} (h : RDsk w x st A c l) (nm to : ByteArray) (hs : nm.size ≤ 65536) (DA : Option Addr) (dn dc : Nat) (num m : Int) :
    Calls Try.prog 14 #[.pointer (some ⟨x, 0, none⟩), .agg #[.int .i64 4, .string nm, .string to, .slice DA dn dc, .int .u64 num, .int .i64 m]] w (RetR (.int .i64 (callS (removeS (bl nm)) st).2) (callS (removeS (bl nm)) st).1 x w) := by
  obtain ⟨wb, hwb⟩ : ∃ wb, w.alloc (.cells #[.int .i64 4, .string nm, .string to, .slice DA dn dc, .int .u64 num, .int .i64 m] 43) = wb := ⟨_, rfl⟩
  have hbb : Below w.heap.size w wb := by rw [← hwb]; exact (Below.refl _ w).alloc (Nat.le_refl _) _
  have hbox : Bk wb w.heap.size 43 [.int .i64 4, .string nm, .string to, .slice DA dn dc, .int .u64 num, .int .i64 m] := by rw [← hwb]; exact Bk.new w _ _
  have hxw := h.blk.lt
  have hxn : (some w.heap.size : Option Nat) ≠ some x := by simp; omega
  have b0 : wb.cell? ⟨w.heap.size, 0, none⟩ = some (.int .i64 4) := hbox.cellAt 0 (show 0 < 6 by decide)
  have HB := Lib.hid (rbegin_any (h.grown hbb))
  have HBX := Lib.hid hbox
  have HBB : Hid (w.grownBy wb (some x)) := grownXB hbb _
  clear h hbb hbox
  cases hbg : (beginS st).2 with
  | false =>
    rw [hbg] at HB
    have HG := Lib.hid hbg
    clear hbg
    go_enter Try.func14, Try.ntmps14
    go_wp2_with fail
    refine HB.out.mono ?_
    rintro e w1 ⟨rfl, hI, hg⟩
    have HI := Lib.hid hI
    have HGR := Lib.hid hg
    clear hI hg
    go_wp2_with fail
    go_ret
    exact RetR.off HG.out HBB.out HI.out HGR.out
  | true =>
    rw [hbg] at HB
    have HG := Lib.hid hbg
    clear hbg
    go_enter Try.func14, Try.ntmps14
    go_wp2_with fail
    refine HB.out.mono ?_
    rintro e w1 ⟨rfl, ⟨A1, c1, l1, h1⟩, hg1⟩
    have hB1 := HBX.out.grown hg1 hxn
    clear b0
    have b0 : w1.cell? ⟨w.heap.size, 0, none⟩ = some (.int .i64 4) := hB1.cellAt 0 (show 0 < 6 by decide)
    have b1 : w1.cell? ⟨w.heap.size, 1, none⟩ = some (.string nm) := hB1.cellAt 1 (show 1 < 6 by decide)
    have HB1 := Lib.hid hB1
    have HH := Lib.hid h1
    have HG1 : Hid (w.grownBy w1 (some x)) := grownX HBB.out hg1
    have HT := Lib.hid (rtarget_any nm w1 (by unfold maxLen; omega))
    clear hB1 h1 hg1 HB HBX HBB
    go_wp2_with fail
    refine HT.out.mono ?_
    rintro e w1' ⟨rfl, rfl⟩
    cases htl : targetL (bl nm) with
    | false =>
      have HTL := Lib.hid htl
      clear htl
      go_wp2_with fail
      go_ret
      exact RetR.on HG.out HG1.out (by unfold removeS; rw [if_pos HTL.out]) ⟨A1, c1, l1, HH.out⟩ (World.grownBy.refl _ _)
    | true =>
      have HTL := Lib.hid htl
      clear htl
      have d0 : w1.cell? ⟨x, 0, none⟩ = some (.slice A1 l1.length c1) := HH.out.blk.cellAt 0 (show 0 < 7 by decide)
      rcases HH.out.place (bl nm) with ⟨hfn, hfr⟩ | ⟨i, hi, hfs, hfr, hnm⟩
      · have HFI := Lib.hid (fun n => (HH.out.drewN n).find nm hfr)
        have hq : ∀ n, Calls Try.prog 32 #[.slice A1 l1.length c1, .string nm] (w1.drewN n) fun e w' => e = .returned (.int .i64 (-1)) ∧ ∃ k, w' = w1.drewN k := fun n => ((HH.out.drewN n).find nm hfr).mono fun _ _ ⟨he, k, hk⟩ => ⟨he, n + k, by rw [hk]; simp⟩
        have HQ := Lib.hid hq
        have HFN := Lib.hid hfn
        clear hq hfr hfn HFI
        go_wp2_with fail
        go_quiet ((go_at_call 32; with_reducible exact HQ.out _))
        generalize hw2 : w1.drewN _ = w2
        have HB2 : Hid (Below w1.heap.size w1 w2) := by show Below _ _ _; rw [← hw2]; exact below_drewN (Below.refl _ w1) _
        clear b0 b1 d0 hw2
        have hB2 := HB1.out.below HB2.out HB1.out.lt
        have b1 : w2.cell? ⟨w.heap.size, 1, none⟩ = some (.string nm) := hB2.cellAt 1 (show 1 < 6 by decide)
        obtain ⟨w3, hw3⟩ : ∃ w3, w2.alloc (.cells #[.string ⟨#[]⟩, .slice none 0 0, .int .i64 0] 50) = w3 := ⟨_, rfl⟩
        have hb3 : Below w2.heap.size w2 w3 := by rw [← hw3]; exact (Below.refl _ w2).alloc (Nat.le_refl _) _
        have hK3 : Bk w3 w2.heap.size 50 [.string ⟨#[]⟩, .slice none 0 0, .int .i64 0] := by rw [← hw3]; exact Bk.new w2 _ _
        have HK3 := Lib.hid hK3
        have HB3 := Lib.hid hb3
        have HBK2 := Lib.hid hB2
        clear hB2 hb3 hK3
        go_wp2_with (first | (refine file_store (by rfl) (.tmp 6) (.tmp 71) (by rfl) (by rfl) HK3.out (by rfl) (by simp [Value.oneCell']) ?_; intro w4 hK4 hg4 hs4; have HB4 : Hid (Below w2.heap.size w2 w4) := below_own HB3.out hg4 (Nat.le_refl _); have b0 : w4.cell? ⟨w.heap.size, 0, none⟩ = some (.int .i64 4) := (HBK2.out.below HB4.out HBK2.out.lt).cellAt 0 (show 0 < 6 by decide); clear hK4 hg4 hs4))
        go_ret
        have HB13 := HB2.out.trans (HB4.out.mono HB2.out.size)
        refine RetR.on HG.out HG1.out (st' := (beginS st).1) (by unfold removeS; rw [if_neg (by rw [HTL.out]; decide), HFN.out]) ?_ ?_
        · exact ⟨_, _, _, HH.out.grown HB13⟩
        · exact grownXB HB13 _
      · obtain ⟨f, hf⟩ : ∃ f, l1[i] = f := ⟨_, rfl⟩
        rw [hf] at hfs hnm
        have hq : ∀ n, Calls Try.prog 32 #[.slice A1 l1.length c1, .string nm] (w1.drewN n) fun e w' => e = .returned (.int .i64 (i : Int)) ∧ ∃ k, w' = w1.drewN k := fun n => ((HH.out.drewN n).find nm hfr).mono fun _ _ ⟨he, k, hk⟩ => ⟨he, n + k, by rw [hk]; simp⟩
        have HQ := Lib.hid hq
        have HFS := Lib.hid hfs
        have HNM := Lib.hid hnm
        have HFM : Hid (f ∈ l1) := by show f ∈ l1; rw [← hf]; exact List.getElem_mem hi
        obtain ⟨b, o, hA, hb, hbx, hcell⟩ : ∃ b o, A1 = some ⟨b, o, none⟩ ∧ b < w1.heap.size ∧ b ≠ x ∧ ∀ (i : Nat) (h : i < l1.length) (j : Nat) v, l1[i].cells[j]? = some v → w1.cell? ⟨b, o + (i * 3 + j), none⟩ = some v := by
          rcases HH.out.files.2 with h | h
          · rw [h] at hi; simp at hi
          · exact h
        subst hA
        have HC0 : Hid (∀ V : World, Below w1.heap.size w1 V → V.cell? ⟨b, o + i * 3, none⟩ = some (.string f.name)) := fun V hV => by rw [hV.cell hb, ← hf]; exact hcell i hi 0 _ rfl
        have HC1 : Hid (∀ V : World, Below w1.heap.size w1 V → V.cell? ⟨b, o + i * 3 + 1, none⟩ = some (.slice f.A f.n f.c)) := fun V hV => by rw [hV.cell hb, ← hf, Nat.add_assoc]; exact hcell i hi 1 _ rfl
        have HC2 : Hid (∀ V : World, Below w1.heap.size w1 V → V.cell? ⟨b, o + i * 3 + 2, none⟩ = some (.int .i64 (f.sure : Int))) := fun V hV => by rw [hV.cell hb, ← hf, Nat.add_assoc]; exact hcell i hi 2 _ rfl
        have hi0 : (0 : Int) ≤ (i : Int) := by omega
        obtain ⟨n1, hn1⟩ : ∃ n1, l1.length = n1 := ⟨_, rfl⟩
        rw [hn1] at hi d0 HQ
        have HN1 := Lib.hid hn1
        clear hq hfr hfs hnm hcell hf hn1
        go_wp2_with fail
        go_quiet ((go_at_call 32; with_reducible exact HQ.out _))
        generalize hw2 : w1.drewN _ = w2
        have HB2 : Hid (Below w1.heap.size w1 w2) := by show Below _ _ _; rw [← hw2]; exact below_drewN (Below.refl _ w1) _
        clear b0 b1 d0 hw2
        have hB2 := HB1.out.below HB2.out HB1.out.lt
        have HBK2 := Lib.hid hB2
        have b1 : w2.cell? ⟨w.heap.size, 1, none⟩ = some (.string nm) := hB2.cellAt 1 (show 1 < 6 by decide)
        obtain ⟨w3, hw3⟩ : ∃ w3, w2.alloc (.cells #[.string ⟨#[]⟩, .slice none 0 0, .int .i64 0] 50) = w3 := ⟨_, rfl⟩
        have hb3 : Below w2.heap.size w2 w3 := by rw [← hw3]; exact (Below.refl _ w2).alloc (Nat.le_refl _) _
        have hK3 : Bk w3 w2.heap.size 50 [.string ⟨#[]⟩, .slice none 0 0, .int .i64 0] := by rw [← hw3]; exact Bk.new w2 _ _
        have HK3 := Lib.hid hK3
        have HB3 := Lib.hid hb3
        have HBK2 := Lib.hid hB2
        have HD0 : Hid (∀ V : World, Below w1.heap.size w1 V → V.cell? ⟨x, 0, none⟩ = some (.slice (some ⟨b, o, none⟩) n1 c1)) := fun V hV => by rw [← HN1.out]; exact (HH.out.grown hV).blk.cellAt 0 (show 0 < 7 by decide)
        clear hB2 hb3 hK3
        go_wp2_with (first
          | (refine file_store (by rfl) (.tmp 6) (.tmp 71) (by rfl) (by rfl) HK3.out (by rfl) (by simp [Value.oneCell']) ?_; intro w4 hK4 hg4 hs4; have HB4 : Hid (Below w2.heap.size w2 w4) := below_own HB3.out hg4 (Nat.le_refl _); have HB14 := Lib.hid (HB2.out.trans (HB4.out.mono HB2.out.size)); have HK4 := Lib.hid hK4; have d0 := HD0.out w4 HB14.out; have z0 := HC0.out w4 HB14.out; have z1 := HC1.out w4 HB14.out; have z2 := HC2.out w4 HB14.out; clear hK4 hg4 hs4)
          | (refine file_store (by rfl) (.tmp 6) (.tmp 80) (by rfl) (by rfl) HK4.out (by rfl) (by simp [Value.oneCell']) ?_; intro w5 hK5 hg5 hs5; have HB5 : Hid (Below w2.heap.size w2 w5) := below_own HB4.out hg5 (Nat.le_refl _); have HB15 := Lib.hid (HB2.out.trans (HB5.out.mono HB2.out.size)); have HK5 := Lib.hid hK5; have b0 : w5.cell? ⟨w.heap.size, 0, none⟩ = some (.int .i64 4) := (HBK2.out.below HB5.out HBK2.out.lt).cellAt 0 (show 0 < 6 by decide); have b1' : w5.cell? ⟨w.heap.size, 1, none⟩ = some (.string nm) := (HBK2.out.below HB5.out HBK2.out.lt).cellAt 1 (show 1 < 6 by decide); clear hK5 hg5 hs5 d0 z0 z1 z2; have d0 := HD0.out w5 HB15.out))
        have h5 := HH.out.grown HB15.out
        have hrm : removeS (bl nm) (beginS st).1 = ({ (beginS st).1 with files := dropF (bl nm) (beginS st).1.files }, 0) := by
          unfold removeS
          rw [if_neg (by rw [HTL.out]; decide), HFS.out]
        have HRM := Lib.hid hrm
        have hWO : ∀ V : World, Below w5.heap.size w5 V → Calls Try.prog 35 #[.slice (some ⟨b, o, none⟩) n1 c1, .string nm] V fun e w' => ∃ v, e = .returned v ∧ FSl w' (fun b => b ≠ x) v (woF (bl nm) l1) ∧ Below V.heap.size V w' := fun V hV => by
          have hxlt := h5.blk.lt
          have := without_any (h5.grown hV).files (fun k hk => show k ≠ x by have := hV.size; omega) h5.room h5.max (Nat.le_trans h5.len (by decide)) nm
          rw [HN1.out] at this
          exact this
        have HWO := Lib.hid hWO
        have H5 := Lib.hid h5
        have HFIN := Lib.hid (fun w4 A4 n4 c4 hv hb => h5.withoutF (bl nm) (w4 := w4) (A4 := A4) (n4 := n4) (c4 := c4) hv hb)
        clear hrm hWO h5 b1
        go_region_with (first
          | (go_at_call 35; (with_reducible refine (HWO.out _ ?_).mono ?_); exact below_drewN (Below.refl _ _) 1; rintro e w7 ⟨v7, rfl, hF7, hb7⟩; have hb7 : Below w5.heap.size w5 w7 := (below_drewN (Below.refl _ _) 1).trans hb7; obtain ⟨A7, n7, c7, rfl, hF7⟩ := hF7.form; have HFI7 := Lib.hid (HFIN.out w7 A7 n7 c7 hF7 hb7); have hB7 := (H5.out.grown hb7).blk; have e0 := (show w7.cell? ⟨x, 0, none⟩ = some (.slice (some ⟨b, o, none⟩) l1.length c1) from hB7.cellAt 0 (show 0 < 7 by decide)); have ef : w7.frozen? ⟨x, 0, none⟩ = false := hB7.frozen 0; clear hB7 hF7))
        all_goals
          have b9 : (w7.setCell ⟨x, 0, none⟩ (.slice A7 n7 c7)).cell? ⟨w.heap.size, 0, none⟩ = some (.int .i64 4) := ((HBK2.out.below HB5.out HBK2.out.lt).grown HFI7.out.2 hxn).cellAt 0 (show 0 < 6 by decide)
          clear d0 e0 ef b0 b1'
          go_wp2_with fail
          go_ret
          obtain ⟨⟨l4, hl4, -⟩, hg4⟩ := HFI7.out
          exact RetR.on HG.out HG1.out HRM.out ⟨_, _, _, hl4⟩ (grownX (grownXB HB15.out _) hg4)
end Go.Proofs.Ytjdjidlopmanbaa
