/-
  A file is found; Sync, Remove, Rename.
-/
import Derived.Test.YtillnfjedjahnaaPDsk5
namespace Go.Proofs.Ytillnfjedjahnaa
open Go.RowKit
set_option linter.unusedVariables false

/-- One file is another one, at its name and its block. -/
theorem PDsk.setOne {w w' : World} {O : Nat → Prop} {d : Nat} {st : DSt} {mb : Nat} {L : List Pil} (h : PDsk w O d st mb L) {x x' : Pil} (hx : x ∈ L) (hn : x'.name = x.name) (hp : x'.p = x.p) (hf : FileAt w' x')
    (hh : ∀ b, x'.has b → x.has b ∨ w.heap.size ≤ b) (hb : ∀ b, b < w.heap.size → ¬ x.has b → w'.heap[b]? = w.heap[b]?) (hs : w.heap.size ≤ w'.heap.size) (hsure : x'.f.sure ≤ x'.f.data.length) :
    PDsk w' (fun b => O b ∨ w.heap.size ≤ b ∧ b < w'.heap.size) d { st with files := putF x'.pf st.files } mb (putPil x' L) := by
  have hris := h.map_.rising
  have hF : L.map (fun y => if y.p = x.p ∧ y.name = x.name then x' else y) = putPil x' L := by
    rw [putPil_there x' hris ⟨x, hx, by rw [hn]⟩]
    refine List.map_congr_left fun y hy => ?_
    by_cases e : bl y.name = bl x'.name
    · have hyx : y = x := hris.one hy hx (by rw [e, hn])
      rw [if_pos e, if_pos (by rw [hyx]; exact ⟨rfl, rfl⟩)]
    · rw [if_neg e, if_neg (fun e2 => e (by rw [e2.2, hn]))]
  have hone : ∀ y ∈ L, y.p = x.p ∧ y.name = x.name → y = x := fun y hy e => hris.one hy hx (by rw [e.2])
  have hpf : ((L.map fun y => if y.p = x.p ∧ y.name = x.name then x' else y).map Pil.pf) = putF x'.pf st.files := by rw [hF, putPil_pf, h.pf]
  have hg := h.good.put x'.pf hsure
  have hlt : ∀ y ∈ L, ∀ b, y.has b → b < w.heap.size := fun y hy b hq => (h.files y hy).lt hq
  have := h.change (w' := w') (fun y => if y.p = x.p ∧ y.name = x.name then x' else y) (bl x.name)
    (fun y => by
      split
      · next hy => rw [hn, hy.2]
      · rfl)
    (fun y => by
      split
      · next hy => rw [hp, hy.1]
      · rfl)
    (fun y hy => by
      split
      · exact hf
      · next hne =>
        have hne2 : bl y.name ≠ bl x.name := fun e => hne (by rw [hris.one hy hx e]; exact ⟨rfl, rfl⟩)
        exact (h.files y hy).keep fun b hq => hb b (hlt y hy b hq) fun e => h.apart y hy x hx hne2 b hq e)
    (fun y hy b hq => by
      split at hq
      · next hy2 =>
        rw [hone y hy hy2]
        exact (hh b hq).imp id fun e => ⟨rfl, e⟩
      · exact .inl hq)
    (hb d (h.lt d h.od) fun e => (h.has x hx d e).2.1 rfl) (hb mb (h.lt mb h.om) fun e => (h.has x hx mb e).2.2 rfl) hs (by rw [hpf]; exact hg)
  rw [hpf] at this
  rw [← hF]
  exact this
/-- What 'find' answers. -/
def findV (nm : List UInt8) (L : List Pil) : Value × Int :=
  if targetL nm = false then (.pointer none, 7) else match findPil nm L with
  | none => (.pointer none, 8)
  | some x => (.pointer (some ⟨x.p, 0, none⟩), 0)
theorem pdskFind_any {w : World} {O : Nat → Prop} {d : Nat} {st : DSt} {mb : Nat} {L : List Pil} (h : PDsk w O d st mb L) (s : ByteArray) (hs : s.size ≤ 65536) :
    Calls Try.prog 28 #[dptr d, .string s] w fun e w' => e = .returned (.tuple #[(findV (bl s) L).1, .int .i64 (findV (bl s) L).2]) ∧ Below w.heap.size w w' := by
  have hs2 : s.size ≤ maxLen := by unfold maxLen; omega
  have HT := Lib.hid (target_any s w hs2)
  have HH := Lib.hid h
  unfold findV
  clear h hs
  cases htl : targetL (bl s) with
  | false =>
    rw [htl] at HT
    clear htl
    go_enter Try.func28, Try.ntmps28
    go_wp2_with fail
    refine HT.out.mono ?_
    rintro e w' ⟨rfl, hb⟩
    have HB := Lib.hid hb
    clear hb
    go_wp2_with fail
    go_ret2
    exact ⟨rfl, HB.out⟩
  | true =>
    rw [htl] at HT
    clear htl
    cases hf : findPil (bl s) L with
    | none =>
      go_enter Try.func28, Try.ntmps28
      go_wp2_with fail
      refine HT.out.mono ?_
      rintro e w' ⟨rfl, hb⟩
      have h := HH.out.below hb
      have c1 : w'.cell? ⟨d, 1, none⟩ = some (.map (some mb)) := h.blk.cellAt 1 (show 1 < 7 by decide)
      have hlk := h.map_.look s hs2
      rw [hf] at hlk
      simp only [Option.elim, Option.isSome, zeroPil] at hlk
      have HB := Lib.hid hb
      clear hb h hf
      go_wp2_with fail
      go_ret2
      exact ⟨rfl, HB.out⟩
    | some x =>
      go_enter Try.func28, Try.ntmps28
      go_wp2_with fail
      refine HT.out.mono ?_
      rintro e w' ⟨rfl, hb⟩
      have h := HH.out.below hb
      have c1 : w'.cell? ⟨d, 1, none⟩ = some (.map (some mb)) := h.blk.cellAt 1 (show 1 < 7 by decide)
      have hlk := h.map_.look s hs2
      rw [hf] at hlk
      simp only [Option.elim, Option.isSome, Pil.val] at hlk
      have HB := Lib.hid hb
      clear hb h hf
      go_wp2_with fail
      go_ret2
      exact ⟨rfl, HB.out⟩
theorem findPil_pfs {L : List Pil} {files : List PF} (hp : L.map Pil.pf = files) (nm : List UInt8) : findF nm files = (findPil nm L).map Pil.pf := by rw [← hp, findPil_pf]
/-- Three answers of 'find'. -/
theorem findV_bad {nm : List UInt8} (h : targetL nm = false) (L : List Pil) : findV nm L = (.pointer none, 7) := by unfold findV; rw [if_pos h]
theorem findV_none {nm : List UInt8} (h : targetL nm = true) {L : List Pil} (hf : findPil nm L = none) : findV nm L = (.pointer none, 8) := by unfold findV; rw [if_neg (by rw [h]; decide), hf]
theorem findV_some {nm : List UInt8} (h : targetL nm = true) {L : List Pil} {x : Pil} (hf : findPil nm L = some x) : findV nm L = (.pointer (some ⟨x.p, 0, none⟩), 0) := by unfold findV; rw [if_neg (by rw [h]; decide), hf]

/-- What a call's second half does: as 'go' says of the state that stands. -/
def Done (r : DSt × Int) (d : Nat) (O : Nat → Prop) (w w' : World) : Prop := ∃ O', IsP w' O' d r.1 ∧ Eff O O' w w'
theorem Done.ret {go : DSt → DSt × Int} {st : DSt} {d : Nat} {O O1 : Nat → Prop} {w w1 w' : World} {v : Int} (hb : (beginS st).2 = true) (he : Eff O O1 w w1) (h : Done (go (beginS st).1) d O1 w1 w') (hv : (go (beginS st).1).2 = v) :
    RetD IsP (.int .i64 (callS go st).2) (callS go st).1 d O w (.returned (.int .i64 v)) w' := by
  obtain ⟨O', h1, h2⟩ := h
  have : callS go st = go (beginS st).1 := by unfold callS; rw [if_pos hb]
  rw [this, hv]
  exact ⟨O', rfl, h1, he.trans h2⟩
theorem Began.off {go : DSt → DSt × Int} {st : DSt} {d : Nat} {O : Nat → Prop} {w w' : World} {X : Prop} (hb : (beginS st).2 = false) (h : ∃ O', IsP w' O' d (beginS st).1 ∧ Eff O O' w w' ∧ X) :
    RetD IsP (.int .i64 (callS go st).2) (callS go st).1 d O w (.returned (.int .i64 19)) w' := by
  obtain ⟨O', h1, h2, _⟩ := h
  have : callS go st = ((beginS st).1, 19) := by unfold callS; rw [if_neg (by rw [hb]; decide)]
  rw [this]
  exact ⟨O', rfl, h1, h2⟩
theorem Done.same {r : DSt × Int} {d : Nat} {O : Nat → Prop} {w w' : World} {st : DSt} {mb : Nat} {L : List Pil} (h : PDsk w O d st mb L) (hb : Below w.heap.size w w') (hr : r.1 = st) : Done r d O w w' :=
  ⟨O, ⟨mb, L, hr ▸ h.below hb⟩, Eff.of_below hb⟩

set_option maxHeartbeats 1600000 in
theorem pdskSync_any {w : World} {O : Nat → Prop} {d : Nat} {st : DSt} {mb : Nat} {L : List Pil} (h : PDsk w O d st mb L) (s : ByteArray) (hs : s.size ≤ 65536) :
    Calls Try.prog 19 #[dptr d, .string s] w (RetD IsP (.int .i64 (callS (syncS (bl s)) st).2) (callS (syncS (bl s)) st).1 d O w) := by
  have HB := Lib.hid (pdskBegin_any h)
  clear h
  cases hbg : (beginS st).2 with
  | false =>
    rw [hbg] at HB
    have HG := Lib.hid hbg
    clear hbg
    go_enter Try.func19, Try.ntmps19
    go_wp2_with fail
    refine HB.out.mono ?_
    rintro e w1 ⟨rfl, hI⟩
    have HI := Lib.hid hI
    clear hI
    go_wp2_with fail
    go_ret
    exact Began.off HG.out HI.out
  | true =>
    rw [hbg] at HB
    have HG := Lib.hid hbg
    clear hbg
    go_enter Try.func19, Try.ntmps19
    go_wp2_with fail
    refine HB.out.mono ?_
    rintro e w1 ⟨rfl, O1, ⟨mb1, L1, h1⟩, he, -⟩
    have HE := Lib.hid he
    have HH := Lib.hid h1
    clear he h1 HB
    go_wp2_with fail
    refine (pdskFind_any HH.out s hs).mono ?_
    rintro e w2 ⟨rfl, hb2⟩
    have HB2 := Lib.hid hb2
    clear hb2
    cases htl : targetL (bl s) with
    | false =>
      rw [findV_bad htl]
      have HT := Lib.hid htl
      clear htl
      go_wp2_with fail
      go_ret
      have e : syncS (bl s) (beginS st).1 = ((beginS st).1, 7) := by unfold syncS; rw [if_pos HT.out]
      exact Done.ret HG.out HE.out (Done.same HH.out HB2.out (by rw [e])) (by rw [e])
    | true =>
      cases hf : findPil (bl s) L1 with
      | none =>
        rw [findV_none htl hf]
        have HT := Lib.hid htl
        have HF := Lib.hid hf
        clear htl hf
        go_wp2_with fail
        go_ret
        have e : syncS (bl s) (beginS st).1 = ((beginS st).1, 8) := by unfold syncS; rw [if_neg (by rw [HT.out]; decide), findPil_pfs HH.out.pf, HF.out]; rfl
        exact Done.ret HG.out HE.out (Done.same HH.out HB2.out (by rw [e])) (by rw [e])
      | some x =>
        rw [findV_some htl hf]
        obtain ⟨hx, hxn⟩ := findPil_some hf
        have h2 := HH.out.below HB2.out
        have hfa := h2.files x hx
        have hc := hfa.cell
        have c0 : w2.cell? ⟨x.p, 0, none⟩ = some (.slice x.f.A x.f.n x.f.c) := hc.cellAt 0 (show 0 < 2 by decide)
        have c1 : w2.cell? ⟨x.p, 1, none⟩ = some (.int .i64 (x.f.sure : Int)) := hc.cellAt 1 (show 1 < 2 by decide)
        have f1 : w2.frozen? ⟨x.p, 1, none⟩ = false := hc.frozen 1
        have hres : Done (syncS (bl s) (beginS st).1) d O1 w2 (w2.setCell ⟨x.p, 1, none⟩ (.int .i64 (x.f.n : Int))) ∧ (syncS (bl s) (beginS st).1).2 = 0 := by
          have e : syncS (bl s) (beginS st).1 = ({ (beginS st).1 with files := putF ⟨bl s, x.f.data, x.f.data.length⟩ (beginS st).1.files }, 0) := by
            unfold syncS
            rw [if_neg (by rw [htl]; decide), findPil_pfs HH.out.pf, hf]
            rfl
          rw [e]
          refine ⟨?_, rfl⟩
          have h3 := h2.setOne (w' := w2.setCell ⟨x.p, 1, none⟩ (.int .i64 (x.f.n : Int))) (x' := ⟨⟨x.f.name, x.f.A, x.f.n, x.f.c, x.f.data, x.f.n⟩, x.p⟩) hx rfl rfl
            ⟨hc.set_ 1 (.int .i64 (x.f.n : Int)), hfa.own.same fun g hg => heap_setCell_other _ ⟨x.p, 1, none⟩ g _ (fun e => hfa.ne (by rw [hg, e])), hfa.ne⟩ (fun b hq => .inl hq)
            (fun b _ hq => heap_setCell_other _ ⟨x.p, 1, none⟩ b _ (fun e => hq (.inl e))) (by simp) (Nat.le_of_eq hfa.len.symm)
          refine ⟨_, ⟨mb1, _, by rw [hfa.len, ← hxn]; exact h3⟩, ?_⟩
          have hE := eff_set (h2.has x hx x.p (.inl rfl)).1 (grown_set w2 x.p 1 (.int .i64 (x.f.n : Int)))
          exact ⟨hE.os, hE.tape, hE.output, hE.size, hE.block, fun b hq => hq.elim .inl fun e => .inr e.1⟩
        have HR := Lib.hid hres
        clear hres hfa hc h2 hf htl hx hxn
        go_wp2_with fail
        go_ret
        exact Done.ret HG.out (HE.out.trans (Eff.of_below HB2.out)) HR.out.1 HR.out.2
end Go.Proofs.Ytillnfjedjahnaa
