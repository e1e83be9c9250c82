/-
  A disk's Remove and Rename.
-/
import Derived.Test.YtillnfjedjahnaaPDsk6
namespace Go.Proofs.Ytillnfjedjahnaa
open Go.RowKit
set_option linter.unusedVariables false

theorem len_dropPil {nm : List UInt8} {L : List Pil} : (dropPil nm L).length ≤ L.length := List.length_filter_le _ _
theorem len_dropPil_lt {nm : List UInt8} {L : List Pil} {x : Pil} (hx : x ∈ L) (hn : bl x.name = nm) : (dropPil nm L).length < L.length := by
  unfold dropPil
  exact List.length_filter_lt_length_iff_exists.2 ⟨x, hx, by simp [hn]⟩
/-- A file is gone. -/
theorem PDsk.gone {w w' : World} {O : Nat → Prop} {d : Nat} {st : DSt} {mb : Nat} {L : List Pil} (h : PDsk w O d st mb L) (nm : List UInt8) (hm : PMapIs w' mb (dropPil nm L)) (hg : w.grownBy w' (some mb)) :
    PDsk w' O d { st with files := dropF nm st.files } mb (dropPil nm L) := by
  have hpf : (dropPil nm L).map Pil.pf = dropF nm st.files := by rw [dropPil_pf, h.pf]
  have := h.sub (w' := w') (L' := dropPil nm L) (fun x hx => (mem_dropPil.1 hx).1) len_dropPil hm (fun b hO hb => hg.block b (h.lt b hO) (by simpa using hb)) hg.size (by rw [hpf]; exact h.good.drop nm)
  rw [hpf] at this
  exact this

set_option maxHeartbeats 1600000 in
theorem pdskRemove_any {w : World} {O : Nat → Prop} {d : Nat} {st : DSt} {mb : Nat} {L : List Pil} (h : PDsk w O d st mb L) (s : ByteArray) (hs : s.size ≤ 65536) :
    Calls Try.prog 21 #[dptr d, .string s] w (RetD IsP (.int .i64 (callS (removeS (bl s)) st).2) (callS (removeS (bl s)) st).1 d O w) := by
  have HB := Lib.hid (pdskBegin_any h)
  clear h
  cases hbg : (beginS st).2 with
  | false =>
    rw [hbg] at HB
    have HG := Lib.hid hbg
    clear hbg
    go_enter Try.func21, Try.ntmps21
    go_wp2_with fail
    refine HB.out.mono ?_
    rintro e w1 ⟨rfl, hI⟩
    have HI := Lib.hid hI
    clear hI
    go_wp2_with fail
    go_ret
    exact Began.off HG.out HI.out
  | true =>
    rw [hbg] at HB
    have HG := Lib.hid hbg
    clear hbg
    go_enter Try.func21, Try.ntmps21
    go_wp2_with fail
    refine HB.out.mono ?_
    rintro e w1 ⟨rfl, O1, ⟨mb1, L1, h1⟩, he, -⟩
    have HE := Lib.hid he
    have HH := Lib.hid h1
    clear he h1 HB
    go_wp2_with fail
    refine (pdskFind_any HH.out s hs).mono ?_
    rintro e w2 ⟨rfl, hb2⟩
    have HB2 := Lib.hid hb2
    clear hb2
    cases htl : targetL (bl s) with
    | false =>
      rw [findV_bad htl]
      have HT := Lib.hid htl
      clear htl
      go_wp2_with fail
      go_ret
      have e : removeS (bl s) (beginS st).1 = ((beginS st).1, 7) := by unfold removeS; rw [if_pos HT.out]
      exact Done.ret HG.out HE.out (Done.same HH.out HB2.out (by rw [e])) (by rw [e])
    | true =>
      cases hf : findPil (bl s) L1 with
      | none =>
        rw [findV_none htl hf]
        have HT := Lib.hid htl
        have HF := Lib.hid hf
        clear htl hf
        go_wp2_with fail
        go_ret
        have e : removeS (bl s) (beginS st).1 = ((beginS st).1, 8) := by unfold removeS; rw [if_neg (by rw [HT.out]; decide), findPil_pfs HH.out.pf, HF.out]; rfl
        exact Done.ret HG.out HE.out (Done.same HH.out HB2.out (by rw [e])) (by rw [e])
      | some x =>
        rw [findV_some htl hf]
        have h2 := HH.out.below HB2.out
        have c1 : w2.cell? ⟨d, 1, none⟩ = some (.map (some mb1)) := h2.blk.cellAt 1 (show 1 < 7 by decide)
        obtain ⟨w3, hdel, hm3, hg3⟩ := h2.map_.drop s (by unfold maxLen; omega) 0
        have hres : Done (removeS (bl s) (beginS st).1) d O1 w2 w3 ∧ (removeS (bl s) (beginS st).1).2 = 0 := by
          have e : removeS (bl s) (beginS st).1 = ({ (beginS st).1 with files := dropF (bl s) (beginS st).1.files }, 0) := by
            unfold removeS
            rw [if_neg (by rw [htl]; decide), findPil_pfs HH.out.pf, hf]
            rfl
          rw [e]
          exact ⟨⟨O1, ⟨mb1, _, h2.gone (bl s) hm3 hg3⟩, eff_set h2.om hg3⟩, rfl⟩
        have HR := Lib.hid hres
        clear hres hm3 hg3 h2 hf htl
        go_wp2_with fail
        go_ret
        exact Done.ret HG.out (HE.out.trans (Eff.of_below HB2.out)) HR.out.1 HR.out.2

theorem findV_not7 {nm : List UInt8} (h : targetL nm = true) (L : List Pil) : ∃ a b, findV nm L = (a, b) ∧ ((b : Int) == 7) = false := by
  cases hf : findPil nm L with
  | none => exact ⟨_, _, findV_none h hf, rfl⟩
  | some x => exact ⟨_, _, findV_some h hf, rfl⟩

set_option maxHeartbeats 3200000 in
theorem pdskRename_any {w : World} {O : Nat → Prop} {d : Nat} {st : DSt} {mb : Nat} {L : List Pil} (h : PDsk w O d st mb L) (s to : ByteArray) (hs : s.size ≤ 65536) (ht : to.size ≤ 65536) :
    Calls Try.prog 20 #[dptr d, .string s, .string to] w (RetD IsP (.int .i64 (callS (renameS (bl s) (bl to)) st).2) (callS (renameS (bl s) (bl to)) st).1 d O w) := by
  have HB := Lib.hid (pdskBegin_any h)
  clear h
  cases hbg : (beginS st).2 with
  | false =>
    rw [hbg] at HB
    have HG := Lib.hid hbg
    clear hbg
    go_enter Try.func20, Try.ntmps20
    go_wp2_with fail
    refine HB.out.mono ?_
    rintro e w1 ⟨rfl, hI⟩
    have HI := Lib.hid hI
    clear hI
    go_wp2_with fail
    go_ret
    exact Began.off HG.out HI.out
  | true =>
    rw [hbg] at HB
    have HG := Lib.hid hbg
    clear hbg
    go_enter Try.func20, Try.ntmps20
    go_wp2_with fail
    refine HB.out.mono ?_
    rintro e w1 ⟨rfl, O1, ⟨mb1, L1, h1⟩, he, -⟩
    have HE := Lib.hid he
    have HH := Lib.hid h1
    clear he h1 HB
    go_wp2_with fail
    refine (pdskFind_any HH.out s hs).mono ?_
    rintro e w2 ⟨rfl, hb2⟩
    have HB2 := Lib.hid hb2
    have HH2 := Lib.hid (HH.out.below hb2)
    clear hb2
    have HT2 := Lib.hid (pdskFind_any HH2.out to ht)
    cases hto : targetL (bl to) with
    | false =>
      obtain ⟨a, b, hab⟩ : ∃ a b, findV (bl s) L1 = (a, b) := ⟨_, _, rfl⟩
      rw [hab]
      rw [findV_bad hto] at HT2
      have HTo := Lib.hid hto
      clear hto hab
      go_wp2_with fail
      refine HT2.out.mono ?_
      rintro e w3 ⟨rfl, hb3⟩
      have HB3 := Lib.hid hb3
      clear hb3
      go_wp2_with fail
      go_ret
      have e : renameS (bl s) (bl to) (beginS st).1 = ((beginS st).1, 7) := by unfold renameS; rw [if_pos (.inr HTo.out)]
      exact Done.ret HG.out HE.out (Done.same HH.out (HB2.out.trans (HB3.out.mono HB2.out.size)) (by rw [e])) (by rw [e])
    | true =>
      obtain ⟨a, b, hab, hb7⟩ := findV_not7 hto L1
      rw [hab] at HT2
      have HTo := Lib.hid hto
      clear hto hab
      cases htl : targetL (bl s) with
      | false =>
        rw [findV_bad htl]
        have HT := Lib.hid htl
        clear htl
        go_wp2_with fail
        refine HT2.out.mono ?_
        rintro e w3 ⟨rfl, hb3⟩
        have HB3 := Lib.hid hb3
        clear hb3
        go_wp2_with fail
        go_ret
        have e : renameS (bl s) (bl to) (beginS st).1 = ((beginS st).1, 7) := by unfold renameS; rw [if_pos (.inl HT.out)]
        exact Done.ret HG.out HE.out (Done.same HH.out (HB2.out.trans (HB3.out.mono HB2.out.size)) (by rw [e])) (by rw [e])
      | true =>
        have hnb : ¬ (targetL (bl s) = false ∨ targetL (bl to) = false) := by rw [htl, HTo.out]; decide
        cases hf : findPil (bl s) L1 with
        | none =>
          rw [findV_none htl hf]
          have HN := Lib.hid hnb
          have HF := Lib.hid hf
          clear htl hf hnb
          go_wp2_with fail
          refine HT2.out.mono ?_
          rintro e w3 ⟨rfl, hb3⟩
          have HB3 := Lib.hid hb3
          clear hb3
          go_wp2_with fail
          go_ret
          have e : renameS (bl s) (bl to) (beginS st).1 = ((beginS st).1, 8) := by unfold renameS; rw [if_neg HN.out, findPil_pfs HH.out.pf, HF.out]; rfl
          exact Done.ret HG.out HE.out (Done.same HH.out (HB2.out.trans (HB3.out.mono HB2.out.size)) (by rw [e])) (by rw [e])
        | some x =>
          rw [findV_some htl hf]
          have HN := Lib.hid hnb
          have HF := Lib.hid hf
          clear htl hf hnb
          go_wp2_with fail
          refine HT2.out.mono ?_
          rintro e w3 ⟨rfl, hb3⟩
          have HB3 := Lib.hid hb3
          have h3 := HH2.out.below hb3
          obtain ⟨hx, hxn⟩ := findPil_some HF.out
          have c1 : w3.cell? ⟨d, 1, none⟩ = some (.map (some mb1)) := h3.blk.cellAt 1 (show 1 < 7 by decide)
          obtain ⟨w4, hdel, hm4, hg4⟩ := h3.map_.drop s (by unfold maxLen; omega) 0
          have h4 := h3.gone (bl s) hm4 hg4
          have c2 : w4.cell? ⟨d, 1, none⟩ = some (.map (some mb1)) := h4.blk.cellAt 1 (show 1 < 7 by decide)
          obtain ⟨x', hx'⟩ : ∃ x' : Pil, x' = ⟨⟨to, x.f.A, x.f.n, x.f.c, x.f.data, x.f.sure⟩, x.p⟩ := ⟨_, rfl⟩
          have hcnt := len_dropPil_lt hx hxn
          have hc0 := h3.count
          obtain ⟨w5, hup, hm5, hg5⟩ := h4.map_.put x' (show x'.f.name.size ≤ maxLen by rw [hx']; unfold maxLen; show to.size ≤ _; omega) (by unfold maxLen; omega)
          have hup' : (Instr.mapUpdate 49 (.map (some mb1)) (.string to) (.pointer (some ⟨x.p, 0, none⟩))).run Try.prog w4 = .ok () w5 := by rw [hx'] at hup; exact hup
          have hres : Done (renameS (bl s) (bl to) (beginS st).1) d O1 w3 w5 ∧ (renameS (bl s) (bl to) (beginS st).1).2 = 0 := by
            have e : renameS (bl s) (bl to) (beginS st).1 = ({ (beginS st).1 with files := putF ⟨bl to, x.f.data, x.f.sure⟩ (dropF (bl s) (beginS st).1.files) }, 0) := by
              unfold renameS
              rw [if_neg HN.out, findPil_pfs HH.out.pf, HF.out]
              rfl
            rw [e]
            refine ⟨?_, rfl⟩
            have hfa := h3.files x hx
            have hxh : ∀ b, x'.has b → x.has b := fun b hq => by rw [hx'] at hq; exact hq
            have hxlt : ∀ b, x.has b → b < w3.heap.size ∧ b ≠ mb1 := fun b hq => ⟨hfa.lt hq, (h3.has x hx b hq).2.2⟩
            have hs4 := hg4.size
            have hfa' : FileAt w5 x' := by
              have h5 := hfa.keep (w' := w5) fun b hq => (hg5.block b (by have := (hxlt b hq).1; omega) (by simpa using (hxlt b hq).2)).trans (hg4.block b (hxlt b hq).1 (by simpa using (hxlt b hq).2))
              rw [hx']
              exact ⟨h5.cell, h5.own, h5.ne⟩
            have hpf : (putPil x' (dropPil (bl s) L1)).map Pil.pf = putF ⟨bl to, x.f.data, x.f.sure⟩ (dropF (bl s) (beginS st).1.files) := by
              rw [putPil_pf, dropPil_pf, HH.out.pf, hx']
              rfl
            have hgood : GoodS { (beginS st).1 with files := putF ⟨bl to, x.f.data, x.f.sure⟩ (dropF (bl s) (beginS st).1.files) } :=
              h4.good.put ⟨bl to, x.f.data, x.f.sure⟩ (h3.good.sure x.pf (by rw [← HH.out.pf]; exact List.mem_map_of_mem hx))
            have h5 := h4.add (O' := O1) x' hfa' (by rw [hx']; exact ht) (Nat.le_trans (len_putPil _ _) (by omega)) hm5
              (fun b hq => ⟨(h3.has x hx b (hxh b hq)).1, (h3.has x hx b (hxh b hq)).2.1, (h3.has x hx b (hxh b hq)).2.2, fun y hy _ hyb =>
                h3.apart x hx y (mem_dropPil.1 hy).1 (fun e2 => (mem_dropPil.1 hy).2 (by rw [← e2, hxn])) b (hxh b hq) hyb⟩)
              (fun b hO => hO) (fun b hO => by have := h3.lt b hO; have := hg5.size; omega)
              (fun b hO hne => hg5.block b (by have := h3.lt b hO; omega) (by simpa using hne)) (by rw [hpf]; exact hgood)
            rw [hpf] at h5
            exact ⟨O1, ⟨mb1, _, h5⟩, (eff_set h3.om hg4).trans (eff_set h3.om hg5)⟩
          have HR := Lib.hid hres
          have HB23 := Lib.hid (HB2.out.trans (hb3.mono HB2.out.size))
          clear hres hm4 hm5 hg4 hg5 h3 h4 hb3 hx' hup hcnt hc0 hx hxn
          go_wp2_with fail
          go_ret
          exact Done.ret HG.out (HE.out.trans (Eff.of_below HB23.out)) HR.out.1 HR.out.2
end Go.Proofs.Ytillnfjedjahnaa
