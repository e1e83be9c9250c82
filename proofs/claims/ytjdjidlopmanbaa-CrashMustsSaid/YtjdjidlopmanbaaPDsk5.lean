/-
  A disk's calls begin; a file is found. A file is found; Sync, Remove, Rename. A disk's Remove and Rename.
-/
import Derived.Test.YtjdjidlopmanbaaPDsk4
namespace Go.Proofs.Ytjdjidlopmanbaa
open Go.RowKit
set_option linter.unusedVariables false

def Began (v : Bool) (st : DSt) (d : Nat) (O : Nat → Prop) (w : World) (e : Ending) (w' : World) : Prop :=
  e = .returned (.bool v) ∧ ∃ O', IsP w' O' d st ∧ Eff O O' w w' ∧ (v = true → w.grownBy w' (some d))
theorem beginS_files {st : DSt} (h : (beginS st).2 = true) : (beginS st).1.files = st.files := by
  unfold beginS at h ⊢
  split
  · rfl
  · split
    · next h1 h2 => rw [if_neg h1, if_pos h2] at h; cases h
    · rfl

set_option maxRecDepth 100000 in
set_option maxHeartbeats 1600000 in
theorem pdskBegin_any {w : World} {O : Nat → Prop} {d : Nat} {st : DSt} {mb : Nat} {L : List Pil} (h : PDsk w O d st mb L) :
    Calls Try.prog 45 #[dptr d] w (Began (beginS st).2 (beginS st).1 d O w) := by
  have HD := Lib.hid (pdskDown_any h)
  have HC := Lib.hid (pdskCrash_any h st.keep h.keep)
  have hB := h.blk
  have hcl := h.calls
  have hll := h.left
  have HH := Lib.hid h
  clear h
  obtain ⟨files, cap, calls, armed, left, keep, down⟩ := st
  have c4 : w.cell? ⟨d, 4, none⟩ = some (.bool armed) := hB.cellAt 4 (show 4 < 7 by decide)
  have c5 : w.cell? ⟨d, 5, none⟩ = some (.int .u64 (left : Int)) := hB.cellAt 5 (show 5 < 7 by decide)
  have c6 : w.cell? ⟨d, 6, none⟩ = some (.int .i64 keep) := hB.cellAt 6 (show 6 < 7 by decide)
  have c2 : w.cell? ⟨d, 2, none⟩ = some (.int .u64 (calls : Int)) := hB.cellAt 2 (show 2 < 7 by decide)
  have f2 : w.frozen? ⟨d, 2, none⟩ = false := hB.frozen 2
  have f5 : w.frozen? ⟨d, 5, none⟩ = false := hB.frozen 5
  simp only at hcl hll
  obtain ⟨c', hc'⟩ : ∃ c', (calls + 1) % 18446744073709551616 = c' := ⟨_, rfl⟩
  have hwc : IntKind.u64.wrap ((calls : Int) + 1) = (c' : Int) := by rw [IntKind.wrap_u64]; omega
  cases down
  case true =>
    clear HC c4 c5 c6 c2 f2 f5 hB hwc
    go_enter Try.func45, Try.ntmps45
    go_wp2_with fail
    refine HD.out.mono ?_
    rintro e w' ⟨rfl, rfl⟩
    go_wp2_with fail
    go_ret
    exact ⟨rfl, O, ⟨mb, L, HH.out⟩, Eff.refl O _, fun e => by cases e⟩
  case false =>
    cases armed
    case false =>
      have hres : Began (beginS ⟨files, cap, calls, false, left, keep, false⟩).2 (beginS ⟨files, cap, calls, false, left, keep, false⟩).1 d O w (.returned (.bool true)) (w.setCell ⟨d, 2, none⟩ (.int .u64 (c' : Int))) := by
        refine ⟨rfl, O, ⟨mb, L, HH.out.row ⟨files, cap, (calls + 1) % 18446744073709551616, false, left, keep, false⟩ rfl rfl (show (calls + 1) % 18446744073709551616 < _ from Nat.mod_lt _ (by decide)) hll HH.out.keep ?_ (fun b hb => heap_setCell_other w ⟨d, 2, none⟩ b _ hb) (by simp)⟩, eff_set HH.out.od (grown_set w d 2 _), fun _ => grown_set w d 2 _⟩
        have := hB.set_ 2 (.int .u64 (c' : Int))
        rw [← hc'] at this ⊢
        exact this
      have HR := Lib.hid hres
      clear hres HC c5 c6 hB hc' hcl hll
      go_enter Try.func45, Try.ntmps45
      go_wp2_with fail
      refine HD.out.mono ?_
      rintro e w' ⟨rfl, rfl⟩
      go_wp2_with fail
      go_ret
      exact HR.out
    case true =>
      by_cases hl0 : left = 0
      · subst hl0
        clear c2 f2 f5 hB hwc hc' hcl hll
        go_enter Try.func45, Try.ntmps45
        go_wp2_with fail
        refine HD.out.mono ?_
        rintro e w' ⟨rfl, rfl⟩
        go_wp2_with fail
        refine HC.out.mono ?_
        rintro e w2 ⟨O2, rfl, hI, hE⟩
        go_wp2_with fail
        go_ret
        exact ⟨rfl, O2, hI, hE, fun e => by cases e⟩
      · have hb0 : ((left : Int) == 0) = false := by rw [beq_eq_false_iff_ne]; omega
        have hwl : IntKind.u64.wrap ((left : Int) - 1) = ((left - 1 : Nat) : Int) := by rw [IntKind.wrap_u64]; omega
        have hB1 := hB.set_ 5 (.int .u64 ((left - 1 : Nat) : Int))
        have d2 : (w.setCell ⟨d, 5, none⟩ (.int .u64 ((left - 1 : Nat) : Int))).cell? ⟨d, 2, none⟩ = some (.int .u64 (calls : Int)) := hB1.cellAt 2 (show 2 < 7 by decide)
        have e2 : (w.setCell ⟨d, 5, none⟩ (.int .u64 ((left - 1 : Nat) : Int))).frozen? ⟨d, 2, none⟩ = false := hB1.frozen 2
        have hbs : beginS ⟨files, cap, calls, true, left, keep, false⟩ = (⟨files, cap, c', true, left - 1, keep, false⟩, true) := by
          unfold beginS
          simp [hl0, hc']
        have hres : Began (beginS ⟨files, cap, calls, true, left, keep, false⟩).2 (beginS ⟨files, cap, calls, true, left, keep, false⟩).1 d O w (.returned (.bool true)) ((w.setCell ⟨d, 5, none⟩ (.int .u64 ((left - 1 : Nat) : Int))).setCell ⟨d, 2, none⟩ (.int .u64 (c' : Int))) := by
          rw [hbs]
          refine ⟨rfl, O, ⟨mb, L, HH.out.row ⟨files, cap, c', true, left - 1, keep, false⟩ rfl rfl (show c' < 18446744073709551616 by omega) (show left - 1 < 18446744073709551616 by omega) HH.out.keep ?_ (fun b hb => ?_) (by simp)⟩, eff_set HH.out.od ((grown_set w d 5 _).andThen (grown_set _ d 2 _) (fun j e => .inr e)), fun _ => (grown_set w d 5 _).andThen (grown_set _ d 2 _) (fun j e => .inr e)⟩
          · exact hB1.set_ 2 (.int .u64 (c' : Int))
          · rw [heap_setCell_other _ ⟨d, 2, none⟩ b _ hb, heap_setCell_other _ ⟨d, 5, none⟩ b _ hb]
        have HR := Lib.hid hres
        clear hres HC c6 hB hB1 hc' hcl hll hbs
        go_enter Try.func45, Try.ntmps45
        go_wp2_with fail
        refine HD.out.mono ?_
        rintro e w' ⟨rfl, rfl⟩
        go_wp2_with fail
        go_ret
        exact HR.out
end Go.Proofs.Ytjdjidlopmanbaa

namespace Go.Proofs.Ytjdjidlopmanbaa
open Go.RowKit
set_option linter.unusedVariables false

/-- One file is another one, at its name and its block. -/
theorem PDsk.setOne {w w' : World} {O : Nat → Prop} {d : Nat} {st : DSt} {mb : Nat} {L : List Pil} (h : PDsk w O d st mb L) {x x' : Pil} (hx : x ∈ L) (hn : x'.name = x.name) (hp : x'.p = x.p) (hf : FileAt w' x')
    (hh : ∀ b, x'.has b → x.has b ∨ w.heap.size ≤ b) (hb : ∀ b, b < w.heap.size → ¬ x.has b → w'.heap[b]? = w.heap[b]?) (hs : w.heap.size ≤ w'.heap.size) (hsure : x'.f.sure ≤ x'.f.data.length) :
    PDsk w' (fun b => O b ∨ w.heap.size ≤ b ∧ b < w'.heap.size) d { st with files := putF x'.pf st.files } mb (putPil x' L) := by
  have hris := h.map_.rising
  have hF : L.map (fun y => if y.p = x.p ∧ y.name = x.name then x' else y) = putPil x' L := by
    rw [putPil_there x' hris ⟨x, hx, by rw [hn]⟩]
    refine List.map_congr_left fun y hy => ?_
    by_cases e : bl y.name = bl x'.name
    · have hyx : y = x := hris.one hy hx (by rw [e, hn])
      rw [if_pos e, if_pos (by rw [hyx]; exact ⟨rfl, rfl⟩)]
    · rw [if_neg e, if_neg (fun e2 => e (by rw [e2.2, hn]))]
  have hone : ∀ y ∈ L, y.p = x.p ∧ y.name = x.name → y = x := fun y hy e => hris.one hy hx (by rw [e.2])
  have hpf : ((L.map fun y => if y.p = x.p ∧ y.name = x.name then x' else y).map Pil.pf) = putF x'.pf st.files := by rw [hF, putPil_pf, h.pf]
  have hg := h.good.put x'.pf hsure
  have hlt : ∀ y ∈ L, ∀ b, y.has b → b < w.heap.size := fun y hy b hq => (h.files y hy).lt hq
  have := h.change (w' := w') (fun y => if y.p = x.p ∧ y.name = x.name then x' else y) (bl x.name)
    (fun y => by
      split
      · next hy => rw [hn, hy.2]
      · rfl)
    (fun y => by
      split
      · next hy => rw [hp, hy.1]
      · rfl)
    (fun y hy => by
      split
      · exact hf
      · next hne =>
        have hne2 : bl y.name ≠ bl x.name := fun e => hne (by rw [hris.one hy hx e]; exact ⟨rfl, rfl⟩)
        exact (h.files y hy).keep fun b hq => hb b (hlt y hy b hq) fun e => h.apart y hy x hx hne2 b hq e)
    (fun y hy b hq => by
      split at hq
      · next hy2 =>
        rw [hone y hy hy2]
        exact (hh b hq).imp id fun e => ⟨rfl, e⟩
      · exact .inl hq)
    (hb d (h.lt d h.od) fun e => (h.has x hx d e).2.1 rfl) (hb mb (h.lt mb h.om) fun e => (h.has x hx mb e).2.2 rfl) hs (by rw [hpf]; exact hg)
  rw [hpf] at this
  rw [← hF]
  exact this
/-- What 'find' answers. -/
def findV (nm : List UInt8) (L : List Pil) : Value × Int :=
  if targetL nm = false then (.pointer none, 7) else match findPil nm L with
  | none => (.pointer none, 8)
  | some x => (.pointer (some ⟨x.p, 0, none⟩), 0)
set_option maxRecDepth 100000 in
theorem pdskFind_any {w : World} {O : Nat → Prop} {d : Nat} {st : DSt} {mb : Nat} {L : List Pil} (h : PDsk w O d st mb L) (s : ByteArray) (hs : s.size ≤ 65536) :
    Calls Try.prog 46 #[dptr d, .string s] w fun e w' => e = .returned (.tuple #[(findV (bl s) L).1, .int .i64 (findV (bl s) L).2]) ∧ Below w.heap.size w w' := by
  have hs2 : s.size ≤ maxLen := by unfold maxLen; omega
  have HT := Lib.hid (target_any s w hs2)
  have HH := Lib.hid h
  unfold findV
  clear h hs
  cases htl : targetL (bl s) with
  | false =>
    rw [htl] at HT
    clear htl
    go_enter Try.func46, Try.ntmps46
    go_wp2_with fail
    refine HT.out.mono ?_
    rintro e w' ⟨rfl, hb⟩
    have HB := Lib.hid hb
    clear hb
    go_wp2_with fail
    go_ret2
    exact ⟨rfl, HB.out⟩
  | true =>
    rw [htl] at HT
    clear htl
    cases hf : findPil (bl s) L with
    | none =>
      go_enter Try.func46, Try.ntmps46
      go_wp2_with fail
      refine HT.out.mono ?_
      rintro e w' ⟨rfl, hb⟩
      have h := HH.out.below hb
      have c1 : w'.cell? ⟨d, 1, none⟩ = some (.map (some mb)) := h.blk.cellAt 1 (show 1 < 7 by decide)
      have hlk := h.map_.look s hs2
      rw [hf] at hlk
      simp only [Option.elim, Option.isSome, zeroPil] at hlk
      have HB := Lib.hid hb
      clear hb h hf
      go_wp2_with fail
      go_ret2
      exact ⟨rfl, HB.out⟩
    | some x =>
      go_enter Try.func46, Try.ntmps46
      go_wp2_with fail
      refine HT.out.mono ?_
      rintro e w' ⟨rfl, hb⟩
      have h := HH.out.below hb
      have c1 : w'.cell? ⟨d, 1, none⟩ = some (.map (some mb)) := h.blk.cellAt 1 (show 1 < 7 by decide)
      have hlk := h.map_.look s hs2
      rw [hf] at hlk
      simp only [Option.elim, Option.isSome, Pil.val] at hlk
      have HB := Lib.hid hb
      clear hb h hf
      go_wp2_with fail
      go_ret2
      exact ⟨rfl, HB.out⟩
theorem findPil_pfs {L : List Pil} {files : List PF} (hp : L.map Pil.pf = files) (nm : List UInt8) : findF nm files = (findPil nm L).map Pil.pf := by rw [← hp, findPil_pf]
/-- Three answers of 'find'. -/
theorem findV_bad {nm : List UInt8} (h : targetL nm = false) (L : List Pil) : findV nm L = (.pointer none, 7) := by unfold findV; rw [if_pos h]
theorem findV_none {nm : List UInt8} (h : targetL nm = true) {L : List Pil} (hf : findPil nm L = none) : findV nm L = (.pointer none, 8) := by unfold findV; rw [if_neg (by rw [h]; decide), hf]
theorem findV_some {nm : List UInt8} (h : targetL nm = true) {L : List Pil} {x : Pil} (hf : findPil nm L = some x) : findV nm L = (.pointer (some ⟨x.p, 0, none⟩), 0) := by unfold findV; rw [if_neg (by rw [h]; decide), hf]

/-- What a call's second half does: as 'go' says of the state that stands. -/
def Done (r : DSt × Int) (d : Nat) (O : Nat → Prop) (w w' : World) : Prop := ∃ O', IsP w' O' d r.1 ∧ Eff O O' w w'
theorem Done.ret {go : DSt → DSt × Int} {st : DSt} {d : Nat} {O O1 : Nat → Prop} {w w1 w' : World} {v : Int} (hb : (beginS st).2 = true) (he : Eff O O1 w w1) (h : Done (go (beginS st).1) d O1 w1 w') (hv : (go (beginS st).1).2 = v) :
    RetD IsP (.int .i64 (callS go st).2) (callS go st).1 d O w (.returned (.int .i64 v)) w' := by
  obtain ⟨O', h1, h2⟩ := h
  have : callS go st = go (beginS st).1 := by unfold callS; rw [if_pos hb]
  rw [this, hv]
  exact ⟨O', rfl, h1, he.trans h2⟩
theorem Began.off {go : DSt → DSt × Int} {st : DSt} {d : Nat} {O : Nat → Prop} {w w' : World} {X : Prop} (hb : (beginS st).2 = false) (h : ∃ O', IsP w' O' d (beginS st).1 ∧ Eff O O' w w' ∧ X) :
    RetD IsP (.int .i64 (callS go st).2) (callS go st).1 d O w (.returned (.int .i64 19)) w' := by
  obtain ⟨O', h1, h2, _⟩ := h
  have : callS go st = ((beginS st).1, 19) := by unfold callS; rw [if_neg (by rw [hb]; decide)]
  rw [this]
  exact ⟨O', rfl, h1, h2⟩
theorem Done.same {r : DSt × Int} {d : Nat} {O : Nat → Prop} {w w' : World} {st : DSt} {mb : Nat} {L : List Pil} (h : PDsk w O d st mb L) (hb : Below w.heap.size w w') (hr : r.1 = st) : Done r d O w w' :=
  ⟨O, ⟨mb, L, hr ▸ h.below hb⟩, Eff.of_below hb⟩

set_option maxRecDepth 100000 in
set_option maxHeartbeats 1600000 in
theorem pdskSync_any {w : World} {O : Nat → Prop} {d : Nat} {st : DSt} {mb : Nat} {L : List Pil} (h : PDsk w O d st mb L) (s : ByteArray) (hs : s.size ≤ 65536) :
    Calls Try.prog 39 #[dptr d, .string s] w (RetD IsP (.int .i64 (callS (syncS (bl s)) st).2) (callS (syncS (bl s)) st).1 d O w) := by
  have HB := Lib.hid (pdskBegin_any h)
  clear h
  cases hbg : (beginS st).2 with
  | false =>
    rw [hbg] at HB
    have HG := Lib.hid hbg
    clear hbg
    go_enter Try.func39, Try.ntmps39
    go_wp2_with fail
    refine HB.out.mono ?_
    rintro e w1 ⟨rfl, hI⟩
    have HI := Lib.hid hI
    clear hI
    go_wp2_with fail
    go_ret
    exact Began.off HG.out HI.out
  | true =>
    rw [hbg] at HB
    have HG := Lib.hid hbg
    clear hbg
    go_enter Try.func39, Try.ntmps39
    go_wp2_with fail
    refine HB.out.mono ?_
    rintro e w1 ⟨rfl, O1, ⟨mb1, L1, h1⟩, he, -⟩
    have HE := Lib.hid he
    have HH := Lib.hid h1
    clear he h1 HB
    go_wp2_with fail
    refine (pdskFind_any HH.out s hs).mono ?_
    rintro e w2 ⟨rfl, hb2⟩
    have HB2 := Lib.hid hb2
    clear hb2
    cases htl : targetL (bl s) with
    | false =>
      rw [findV_bad htl]
      have HT := Lib.hid htl
      clear htl
      go_wp2_with fail
      go_ret
      have e : syncS (bl s) (beginS st).1 = ((beginS st).1, 7) := by unfold syncS; rw [if_pos HT.out]
      exact Done.ret HG.out HE.out (Done.same HH.out HB2.out (by rw [e])) (by rw [e])
    | true =>
      cases hf : findPil (bl s) L1 with
      | none =>
        rw [findV_none htl hf]
        have HT := Lib.hid htl
        have HF := Lib.hid hf
        clear htl hf
        go_wp2_with fail
        go_ret
        have e : syncS (bl s) (beginS st).1 = ((beginS st).1, 8) := by unfold syncS; rw [if_neg (by rw [HT.out]; decide), findPil_pfs HH.out.pf, HF.out]; rfl
        exact Done.ret HG.out HE.out (Done.same HH.out HB2.out (by rw [e])) (by rw [e])
      | some x =>
        rw [findV_some htl hf]
        obtain ⟨hx, hxn⟩ := findPil_some hf
        have h2 := HH.out.below HB2.out
        have hfa := h2.files x hx
        have hc := hfa.cell
        have c0 : w2.cell? ⟨x.p, 0, none⟩ = some (.slice x.f.A x.f.n x.f.c) := hc.cellAt 0 (show 0 < 2 by decide)
        have c1 : w2.cell? ⟨x.p, 1, none⟩ = some (.int .i64 (x.f.sure : Int)) := hc.cellAt 1 (show 1 < 2 by decide)
        have f1 : w2.frozen? ⟨x.p, 1, none⟩ = false := hc.frozen 1
        have hres : Done (syncS (bl s) (beginS st).1) d O1 w2 (w2.setCell ⟨x.p, 1, none⟩ (.int .i64 (x.f.n : Int))) ∧ (syncS (bl s) (beginS st).1).2 = 0 := by
          have e : syncS (bl s) (beginS st).1 = ({ (beginS st).1 with files := putF ⟨bl s, x.f.data, x.f.data.length⟩ (beginS st).1.files }, 0) := by
            unfold syncS
            rw [if_neg (by rw [htl]; decide), findPil_pfs HH.out.pf, hf]
            rfl
          rw [e]
          refine ⟨?_, rfl⟩
          have h3 := h2.setOne (w' := w2.setCell ⟨x.p, 1, none⟩ (.int .i64 (x.f.n : Int))) (x' := ⟨⟨x.f.name, x.f.A, x.f.n, x.f.c, x.f.data, x.f.n⟩, x.p⟩) hx rfl rfl
            ⟨hc.set_ 1 (.int .i64 (x.f.n : Int)), hfa.own.same fun g hg => heap_setCell_other _ ⟨x.p, 1, none⟩ g _ (fun e => hfa.ne (by rw [hg, e])), hfa.ne⟩ (fun b hq => .inl hq)
            (fun b _ hq => heap_setCell_other _ ⟨x.p, 1, none⟩ b _ (fun e => hq (.inl e))) (by simp) (Nat.le_of_eq hfa.len.symm)
          refine ⟨_, ⟨mb1, _, by rw [hfa.len, ← hxn]; exact h3⟩, ?_⟩
          have hE := eff_set (h2.has x hx x.p (.inl rfl)).1 (grown_set w2 x.p 1 (.int .i64 (x.f.n : Int)))
          exact ⟨hE.os, hE.tape, hE.output, hE.size, hE.block, fun b hq => hq.elim .inl fun e => .inr e.1⟩
        have HR := Lib.hid hres
        clear hres hfa hc h2 hf htl hx hxn
        go_wp2_with fail
        go_ret
        exact Done.ret HG.out (HE.out.trans (Eff.of_below HB2.out)) HR.out.1 HR.out.2
end Go.Proofs.Ytjdjidlopmanbaa

namespace Go.Proofs.Ytjdjidlopmanbaa
open Go.RowKit
set_option linter.unusedVariables false

theorem len_dropPil {nm : List UInt8} {L : List Pil} : (dropPil nm L).length ≤ L.length := List.length_filter_le _ _
theorem len_dropPil_lt {nm : List UInt8} {L : List Pil} {x : Pil} (hx : x ∈ L) (hn : bl x.name = nm) : (dropPil nm L).length < L.length := by
  unfold dropPil
  exact List.length_filter_lt_length_iff_exists.2 ⟨x, hx, by simp [hn]⟩
/-- A file is gone. -/
theorem PDsk.gone {w w' : World} {O : Nat → Prop} {d : Nat} {st : DSt} {mb : Nat} {L : List Pil} (h : PDsk w O d st mb L) (nm : List UInt8) (hm : PMapIs w' mb (dropPil nm L)) (hg : w.grownBy w' (some mb)) :
    PDsk w' O d { st with files := dropF nm st.files } mb (dropPil nm L) := by
  have hpf : (dropPil nm L).map Pil.pf = dropF nm st.files := by rw [dropPil_pf, h.pf]
  have := h.sub (w' := w') (L' := dropPil nm L) (fun x hx => (mem_dropPil.1 hx).1) len_dropPil hm (fun b hO hb => hg.block b (h.lt b hO) (by simpa using hb)) hg.size (by rw [hpf]; exact h.good.drop nm)
  rw [hpf] at this
  exact this

set_option maxRecDepth 100000 in
set_option maxHeartbeats 1600000 in
theorem pdskRemove_any {w : World} {O : Nat → Prop} {d : Nat} {st : DSt} {mb : Nat} {L : List Pil} (h : PDsk w O d st mb L) (s : ByteArray) (hs : s.size ≤ 65536) :
    Calls Try.prog 41 #[dptr d, .string s] w (RetD IsP (.int .i64 (callS (removeS (bl s)) st).2) (callS (removeS (bl s)) st).1 d O w) := by
  have HB := Lib.hid (pdskBegin_any h)
  clear h
  cases hbg : (beginS st).2 with
  | false =>
    rw [hbg] at HB
    have HG := Lib.hid hbg
    clear hbg
    go_enter Try.func41, Try.ntmps41
    go_wp2_with fail
    refine HB.out.mono ?_
    rintro e w1 ⟨rfl, hI⟩
    have HI := Lib.hid hI
    clear hI
    go_wp2_with fail
    go_ret
    exact Began.off HG.out HI.out
  | true =>
    rw [hbg] at HB
    have HG := Lib.hid hbg
    clear hbg
    go_enter Try.func41, Try.ntmps41
    go_wp2_with fail
    refine HB.out.mono ?_
    rintro e w1 ⟨rfl, O1, ⟨mb1, L1, h1⟩, he, -⟩
    have HE := Lib.hid he
    have HH := Lib.hid h1
    clear he h1 HB
    go_wp2_with fail
    refine (pdskFind_any HH.out s hs).mono ?_
    rintro e w2 ⟨rfl, hb2⟩
    have HB2 := Lib.hid hb2
    clear hb2
    cases htl : targetL (bl s) with
    | false =>
      rw [findV_bad htl]
      have HT := Lib.hid htl
      clear htl
      go_wp2_with fail
      go_ret
      have e : removeS (bl s) (beginS st).1 = ((beginS st).1, 7) := by unfold removeS; rw [if_pos HT.out]
      exact Done.ret HG.out HE.out (Done.same HH.out HB2.out (by rw [e])) (by rw [e])
    | true =>
      cases hf : findPil (bl s) L1 with
      | none =>
        rw [findV_none htl hf]
        have HT := Lib.hid htl
        have HF := Lib.hid hf
        clear htl hf
        go_wp2_with fail
        go_ret
        have e : removeS (bl s) (beginS st).1 = ((beginS st).1, 8) := by unfold removeS; rw [if_neg (by rw [HT.out]; decide), findPil_pfs HH.out.pf, HF.out]; rfl
        exact Done.ret HG.out HE.out (Done.same HH.out HB2.out (by rw [e])) (by rw [e])
      | some x =>
        rw [findV_some htl hf]
        have h2 := HH.out.below HB2.out
        have c1 : w2.cell? ⟨d, 1, none⟩ = some (.map (some mb1)) := h2.blk.cellAt 1 (show 1 < 7 by decide)
        obtain ⟨w3, hdel, hm3, hg3⟩ := h2.map_.drop s (by unfold maxLen; omega) 0
        have hres : Done (removeS (bl s) (beginS st).1) d O1 w2 w3 ∧ (removeS (bl s) (beginS st).1).2 = 0 := by
          have e : removeS (bl s) (beginS st).1 = ({ (beginS st).1 with files := dropF (bl s) (beginS st).1.files }, 0) := by
            unfold removeS
            rw [if_neg (by rw [htl]; decide), findPil_pfs HH.out.pf, hf]
            rfl
          rw [e]
          exact ⟨⟨O1, ⟨mb1, _, h2.gone (bl s) hm3 hg3⟩, eff_set h2.om hg3⟩, rfl⟩
        have HR := Lib.hid hres
        clear hres hm3 hg3 h2 hf htl
        go_wp2_with fail
        go_ret
        exact Done.ret HG.out (HE.out.trans (Eff.of_below HB2.out)) HR.out.1 HR.out.2

theorem findV_not7 {nm : List UInt8} (h : targetL nm = true) (L : List Pil) : ∃ a b, findV nm L = (a, b) ∧ ((b : Int) == 7) = false := by
  cases hf : findPil nm L with
  | none => exact ⟨_, _, findV_none h hf, rfl⟩
  | some x => exact ⟨_, _, findV_some h hf, rfl⟩

set_option maxRecDepth 100000 in
set_option maxHeartbeats 3200000 in
theorem pdskRename_any {w : World} {O : Nat → Prop} {d : Nat} {st : DSt} {mb : Nat} {L : List Pil} (h : PDsk w O d st mb L) (s to : ByteArray) (hs : s.size ≤ 65536) (ht : to.size ≤ 65536) :
    Calls Try.prog 40 #[dptr d, .string s, .string to] w (RetD IsP (.int .i64 (callS (renameS (bl s) (bl to)) st).2) (callS (renameS (bl s) (bl to)) st).1 d O w) := by
  have HB := Lib.hid (pdskBegin_any h)
  clear h
  cases hbg : (beginS st).2 with
  | false =>
    rw [hbg] at HB
    have HG := Lib.hid hbg
    clear hbg
    go_enter Try.func40, Try.ntmps40
    go_wp2_with fail
    refine HB.out.mono ?_
    rintro e w1 ⟨rfl, hI⟩
    have HI := Lib.hid hI
    clear hI
    go_wp2_with fail
    go_ret
    exact Began.off HG.out HI.out
  | true =>
    rw [hbg] at HB
    have HG := Lib.hid hbg
    clear hbg
    go_enter Try.func40, Try.ntmps40
    go_wp2_with fail
    refine HB.out.mono ?_
    rintro e w1 ⟨rfl, O1, ⟨mb1, L1, h1⟩, he, -⟩
    have HE := Lib.hid he
    have HH := Lib.hid h1
    clear he h1 HB
    go_wp2_with fail
    refine (pdskFind_any HH.out s hs).mono ?_
    rintro e w2 ⟨rfl, hb2⟩
    have HB2 := Lib.hid hb2
    have HH2 := Lib.hid (HH.out.below hb2)
    clear hb2
    have HT2 := Lib.hid (pdskFind_any HH2.out to ht)
    cases hto : targetL (bl to) with
    | false =>
      obtain ⟨a, b, hab⟩ : ∃ a b, findV (bl s) L1 = (a, b) := ⟨_, _, rfl⟩
      rw [hab]
      rw [findV_bad hto] at HT2
      have HTo := Lib.hid hto
      clear hto hab
      go_wp2_with fail
      refine HT2.out.mono ?_
      rintro e w3 ⟨rfl, hb3⟩
      have HB3 := Lib.hid hb3
      clear hb3
      go_wp2_with fail
      go_ret
      have e : renameS (bl s) (bl to) (beginS st).1 = ((beginS st).1, 7) := by unfold renameS; rw [if_pos (.inr HTo.out)]
      exact Done.ret HG.out HE.out (Done.same HH.out (HB2.out.trans (HB3.out.mono HB2.out.size)) (by rw [e])) (by rw [e])
    | true =>
      obtain ⟨a, b, hab, hb7⟩ := findV_not7 hto L1
      rw [hab] at HT2
      have HTo := Lib.hid hto
      clear hto hab
      cases htl : targetL (bl s) with
      | false =>
        rw [findV_bad htl]
        have HT := Lib.hid htl
        clear htl
        go_wp2_with fail
        refine HT2.out.mono ?_
        rintro e w3 ⟨rfl, hb3⟩
        have HB3 := Lib.hid hb3
        clear hb3
        go_wp2_with fail
        go_ret
        have e : renameS (bl s) (bl to) (beginS st).1 = ((beginS st).1, 7) := by unfold renameS; rw [if_pos (.inl HT.out)]
        exact Done.ret HG.out HE.out (Done.same HH.out (HB2.out.trans (HB3.out.mono HB2.out.size)) (by rw [e])) (by rw [e])
      | true =>
        have hnb : ¬ (targetL (bl s) = false ∨ targetL (bl to) = false) := by rw [htl, HTo.out]; decide
        cases hf : findPil (bl s) L1 with
        | none =>
          rw [findV_none htl hf]
          have HN := Lib.hid hnb
          have HF := Lib.hid hf
          clear htl hf hnb
          go_wp2_with fail
          refine HT2.out.mono ?_
          rintro e w3 ⟨rfl, hb3⟩
          have HB3 := Lib.hid hb3
          clear hb3
          go_wp2_with fail
          go_ret
          have e : renameS (bl s) (bl to) (beginS st).1 = ((beginS st).1, 8) := by unfold renameS; rw [if_neg HN.out, findPil_pfs HH.out.pf, HF.out]; rfl
          exact Done.ret HG.out HE.out (Done.same HH.out (HB2.out.trans (HB3.out.mono HB2.out.size)) (by rw [e])) (by rw [e])
        | some x =>
          rw [findV_some htl hf]
          have HN := Lib.hid hnb
          have HF := Lib.hid hf
          clear htl hf hnb
          go_wp2_with fail
          refine HT2.out.mono ?_
          rintro e w3 ⟨rfl, hb3⟩
          have HB3 := Lib.hid hb3
          have h3 := HH2.out.below hb3
          obtain ⟨hx, hxn⟩ := findPil_some HF.out
          have c1 : w3.cell? ⟨d, 1, none⟩ = some (.map (some mb1)) := h3.blk.cellAt 1 (show 1 < 7 by decide)
          obtain ⟨w4, hdel, hm4, hg4⟩ := h3.map_.drop s (by unfold maxLen; omega) 0
          have h4 := h3.gone (bl s) hm4 hg4
          have c2 : w4.cell? ⟨d, 1, none⟩ = some (.map (some mb1)) := h4.blk.cellAt 1 (show 1 < 7 by decide)
          obtain ⟨x', hx'⟩ : ∃ x' : Pil, x' = ⟨⟨to, x.f.A, x.f.n, x.f.c, x.f.data, x.f.sure⟩, x.p⟩ := ⟨_, rfl⟩
          have hcnt := len_dropPil_lt hx hxn
          have hc0 := h3.count
          obtain ⟨w5, hup, hm5, hg5⟩ := h4.map_.put x' (show x'.f.name.size ≤ maxLen by rw [hx']; unfold maxLen; show to.size ≤ _; omega) (by unfold maxLen; omega)
          have hup' : (Instr.mapUpdate 59 (.map (some mb1)) (.string to) (.pointer (some ⟨x.p, 0, none⟩))).run Try.prog w4 = .ok () w5 := by rw [hx'] at hup; exact hup
          have hres : Done (renameS (bl s) (bl to) (beginS st).1) d O1 w3 w5 ∧ (renameS (bl s) (bl to) (beginS st).1).2 = 0 := by
            have e : renameS (bl s) (bl to) (beginS st).1 = ({ (beginS st).1 with files := putF ⟨bl to, x.f.data, x.f.sure⟩ (dropF (bl s) (beginS st).1.files) }, 0) := by
              unfold renameS
              rw [if_neg HN.out, findPil_pfs HH.out.pf, HF.out]
              rfl
            rw [e]
            refine ⟨?_, rfl⟩
            have hfa := h3.files x hx
            have hxh : ∀ b, x'.has b → x.has b := fun b hq => by rw [hx'] at hq; exact hq
            have hxlt : ∀ b, x.has b → b < w3.heap.size ∧ b ≠ mb1 := fun b hq => ⟨hfa.lt hq, (h3.has x hx b hq).2.2⟩
            have hs4 := hg4.size
            have hfa' : FileAt w5 x' := by
              have h5 := hfa.keep (w' := w5) fun b hq => (hg5.block b (by have := (hxlt b hq).1; omega) (by simpa using (hxlt b hq).2)).trans (hg4.block b (hxlt b hq).1 (by simpa using (hxlt b hq).2))
              rw [hx']
              exact ⟨h5.cell, h5.own, h5.ne⟩
            have hpf : (putPil x' (dropPil (bl s) L1)).map Pil.pf = putF ⟨bl to, x.f.data, x.f.sure⟩ (dropF (bl s) (beginS st).1.files) := by
              rw [putPil_pf, dropPil_pf, HH.out.pf, hx']
              rfl
            have hgood : GoodS { (beginS st).1 with files := putF ⟨bl to, x.f.data, x.f.sure⟩ (dropF (bl s) (beginS st).1.files) } :=
              h4.good.put ⟨bl to, x.f.data, x.f.sure⟩ (h3.good.sure x.pf (by rw [← HH.out.pf]; exact List.mem_map_of_mem hx))
            have h5 := h4.add (O' := O1) x' hfa' (by rw [hx']; exact ht) (Nat.le_trans (len_putPil _ _) (by omega)) hm5
              (fun b hq => ⟨(h3.has x hx b (hxh b hq)).1, (h3.has x hx b (hxh b hq)).2.1, (h3.has x hx b (hxh b hq)).2.2, fun y hy _ hyb =>
                h3.apart x hx y (mem_dropPil.1 hy).1 (fun e2 => (mem_dropPil.1 hy).2 (by rw [← e2, hxn])) b (hxh b hq) hyb⟩)
              (fun b hO => hO) (fun b hO => by have := h3.lt b hO; have := hg5.size; omega)
              (fun b hO hne => hg5.block b (by have := h3.lt b hO; omega) (by simpa using hne)) (by rw [hpf]; exact hgood)
            rw [hpf] at h5
            exact ⟨O1, ⟨mb1, _, h5⟩, (eff_set h3.om hg4).trans (eff_set h3.om hg5)⟩
          have HR := Lib.hid hres
          have HB23 := Lib.hid (HB2.out.trans (hb3.mono HB2.out.size))
          clear hres hm4 hm5 hg4 hg5 h3 h4 hb3 hx' hup hcnt hc0 hx hxn
          go_wp2_with fail
          go_ret
          exact Done.ret HG.out (HE.out.trans (Eff.of_below HB23.out)) HR.out.1 HR.out.2
end Go.Proofs.Ytjdjidlopmanbaa
