/-
  Package taximeterref10: Behind, At. Package taximeterref10: At.
-/
import Derived.Test.YtjdjidlopmanbaaCrN
import Derived.Test.YtjdjidlopmanbaaRef9f1
import Derived.Test.YtjdjidlopmanbaaRef9f2
namespace Go.Proofs.Ytjdjidlopmanbaa
open Go.RowKit
set_option linter.unusedVariables false

/-- A call that is not too large. -/
structure OpFit (w : World) (B : Nat) (o : Opn) : Prop where
  call : isCallO o = true
  name : o.name.size ≤ 100
  to : o.to.size ≤ 100
  n : o.n ≤ 200
  len : o.data.length = o.n
  cap : o.n ≤ o.c
  max : o.c ≤ maxLen
  data : Bs w B o.A o.data
theorem rop_any {w : World} {x : Nat} {st : DSt} {A : Option Addr} {c : Nat} {l : List Fil} (h : RDsk w x st A c l) (o : Opn) (hf : OpFit w x o) (hz : sizeF st.files ≤ 65536) :
    Calls Try.prog 14 #[.pointer (some ⟨x, 0, none⟩), .agg #[.int .i64 o.kind, .string o.name, .string o.to, .slice o.A o.n o.c, .int .u64 0, .int .i64 0]] w (RetR (.int .i64 (opS st o).2) (opS st o).1 x w) := by
  obtain ⟨kind, name, to, OA, on, oc, data⟩ := o
  obtain ⟨h1, h2, h3, h4, h5, h6, h7, h8⟩ := hf
  simp only at h2 h3 h4 h5 h6 h7 h8
  unfold isCallO at h1
  rw [Bool.and_eq_true, decide_eq_true_iff, decide_eq_true_iff] at h1
  simp only at h1
  by_cases k1 : kind = 1
  · subst k1
    exact rdo1_any h name to (by omega) OA on oc data h5 h6 h7 h8 (by omega) 0 0
  by_cases k2 : kind = 2
  · subst k2
    exact rdo2_any h name to (by omega) OA on oc 0 0
  by_cases k3 : kind = 3
  · subst k3
    exact rdo3_any h name to (by omega) (by omega) OA on oc 0 0
  obtain rfl : kind = 4 := by omega
  exact rdo4_any h name to (by omega) OA on oc 0 0
/-- A new disk of the reference. -/
theorem RDsk.new {w : World} {x : Nat} {cap : Int} (hc : (Lit.int .i64 cap).wf = true) (hB : Bk w x 39 (rcells none 0 0 (newS cap))) : RDsk w x (newS cap) none 0 [] where
  blk := hB
  files := ⟨(fun f hf => by cases hf), .inl rfl⟩
  room := Nat.le_refl _
  max := Nat.zero_le _
  pf := rfl
  ris := List.Pairwise.nil
  good := ⟨List.Pairwise.nil, fun f hf => by cases hf⟩
  count := Nat.zero_le _
  cap := by
    show (Lit.int .i64 (if cap < 0 then 0 else cap)).wf = true
    split
    · decide
    · exact hc
  cap0 := by
    show 0 ≤ (if cap < 0 then 0 else cap)
    split <;> omega
  calls := show 0 < 18446744073709551616 by decide
  left := show 0 < 18446744073709551616 by decide
  keep := show (Lit.int .i64 0).wf = true by decide
  size := Nat.zero_le _
/-- Work that is not too large. -/
def OpsFit (w : World) (l : List Opn) : Prop := l.length ≤ 60 ∧ ∀ o ∈ l, OpFit w w.heap.size o
theorem OpFit.later {w w' : World} {B B' : Nat} {o : Opn} (h : OpFit w B o) (hb : Below B w w') (hB : B ≤ B') : OpFit w' B' o :=
  ⟨h.call, h.name, h.to, h.n, h.len, h.cap, h.max, (h.data.below hb (Nat.le_refl _)).more hB⟩
theorem OpsFit.size {w : World} {l : List Opn} (h : OpsFit w l) (C : Int) (i : Nat) : sizeF (runS (newS C) (l.take i)).files ≤ 65536 := by
  have h1 := size_run (newS C) 200 (l.take i) fun o ho => by
    have h2 := h.2 o (List.mem_of_mem_take ho)
    have := h2.len
    have := h2.n
    omega
  have h2 : sizeF (newS C).files = 0 := rfl
  have h3 : (l.take i).length ≤ 60 := by have := h.1; simp; omega
  have h4 : 200 * (l.take i).length ≤ 200 * 60 := Nat.mul_le_mul_left 200 h3
  omega

set_option maxRecDepth 100000 in
set_option maxHeartbeats 3200000 in
theorem rbehind_any {w : World} {a : Option Addr} {len cap : Nat} {l : List Opn} (h : IsOps w a len cap l) (hf : OpsFit w l) (C : Int) (hC : (Lit.int .i64 C).wf = true) :
    Calls Try.prog 23 #[.int .i64 C, .slice a len cap] w fun e w' => ∃ x, e = .returned (.pointer (some ⟨x, 0, none⟩)) ∧ w.heap.size ≤ x ∧ IsR w' x (runS (newS C) l) ∧ Below w.heap.size w w' := by
  obtain ⟨hll0, hlc, hcm, hok, hsl⟩ := h
  have HH := Lib.hid hsl
  have HL := Lib.hid hll0
  have HF := Lib.hid hf
  have hlen : len ≤ 60 := by have := hf.1; omega
  obtain ⟨wb, hwb⟩ : ∃ wb, w.alloc (.cells #[.slice none 0 0, .int .i64 C, .int .u64 0, .bool false, .int .u64 0, .int .i64 0, .bool false] 39) = wb := ⟨_, rfl⟩
  have hB : Bk wb w.heap.size 39 [.slice none 0 0, .int .i64 C, .int .u64 0, .bool false, .int .u64 0, .int .i64 0, .bool false] := by rw [← hwb]; exact Bk.new w _ _
  have hbb : Below w.heap.size w wb := by rw [← hwb]; exact (Below.refl _ w).alloc (Nat.le_refl _) _
  obtain ⟨w0, hw0, hR0, hb0⟩ : ∃ w0, w0 = (if C < 0 then wb.setCell ⟨w.heap.size, 1, none⟩ (.int .i64 0) else wb) ∧ IsR w0 w.heap.size (newS C) ∧ Below w.heap.size w w0 := by
    refine ⟨_, rfl, ?_⟩
    split
    · next hneg =>
      refine ⟨⟨none, 0, [], RDsk.new hC ?_⟩, ?_⟩
      · have := hB.set_ 1 (.int .i64 0)
        unfold rcells newS
        simp only [if_pos hneg]
        exact this
      · have hg := grown_set wb w.heap.size 1 (.int .i64 0)
        exact ⟨hg.os.trans hbb.os, hg.tape.trans hbb.tape, hg.output.trans hbb.output, Nat.le_trans hbb.size hg.size, fun k hk => (hg.block k (by have := hbb.size; omega) (by simp; omega)).trans (hbb.block k hk)⟩
    · next hneg =>
      refine ⟨⟨none, 0, [], RDsk.new hC ?_⟩, hbb⟩
      unfold rcells newS
      simp only [if_neg hneg]
      exact hB
  have c1 : wb.cell? ⟨w.heap.size, 1, none⟩ = some (.int .i64 C) := hB.cellAt 1 (show 1 < 7 by decide)
  have f1 : wb.frozen? ⟨w.heap.size, 1, none⟩ = false := hB.frozen 1
  have HR0 := Lib.hid hR0
  have HB0 := Lib.hid hb0
  have HCW := Lib.hid hC
  clear hok hsl hll0 hB hbb hR0 hb0 hf hC
  by_cases hneg : C < 0
  · have g1 : decide (C < 0) = true := decide_eq_true hneg
    rw [if_pos hneg] at hw0
    have hw0' := hw0.symm
    clear hneg hw0
    go_enter Try.func23, Try.ntmps23
    go_wp2_with fail
    clear c1 f1 g1 hw0' hwb
    go_loopw [6] (fun v wr => ∃ i : Nat, v = .int .i64 (i : Int) ∧ i ≤ len ∧ Hid (IsR wr w.heap.size (runS (newS C) (l.take i)) ∧ Below w.heap.size w wr)) (fun v _ => len - (intOf v).toNat)
    case atStart => exact ⟨0, rfl, Nat.zero_le _, HR0.out, HB0.out⟩
    case round =>
      obtain ⟨i, rfl, hil, HI⟩ := hrel
      by_cases hlt : i < len
      · have hll : i < l.length := by rw [HL.out]; exact hlt
        obtain ⟨b, o, rfl, hb, hcell⟩ : ∃ b o, a = some ⟨b, o, none⟩ ∧ b < w.heap.size ∧ ∀ (i : Nat) (h : i < l.length) (j : Nat) v, l[i].cells[j]? = some v → w.cell? ⟨b, o + (i * 4 + j), none⟩ = some v := by
          rcases HH.out with h | h
          · rw [h] at hll; simp at hll
          · exact h
        obtain ⟨g, hg⟩ : ∃ g, l[i] = g := ⟨_, rfl⟩
        have hbw := HI.out.2
        have c0 : wr.cell? ⟨b, o + i * 4, none⟩ = some (.int .i64 g.kind) := by rw [hbw.cell hb, ← hg]; exact hcell i hll 0 _ rfl
        have c1 : wr.cell? ⟨b, o + i * 4 + 1, none⟩ = some (.string g.name) := by rw [hbw.cell hb, ← hg, Nat.add_assoc]; exact hcell i hll 1 _ rfl
        have c2 : wr.cell? ⟨b, o + i * 4 + 2, none⟩ = some (.string g.to) := by rw [hbw.cell hb, ← hg, Nat.add_assoc]; exact hcell i hll 2 _ rfl
        have c3 : wr.cell? ⟨b, o + i * 4 + 3, none⟩ = some (.slice g.A g.n g.c) := by rw [hbw.cell hb, ← hg, Nat.add_assoc]; exact hcell i hll 3 _ rfl
        have HFG : Hid (OpFit w w.heap.size g) := HF.out.2 g (by rw [← hg]; exact List.getElem_mem hll)
        have HSZ := Lib.hid (HF.out.size C i)
        have HSN : Hid (runS (newS C) (l.take (i + 1)) = (opS (runS (newS C) (l.take i)) g).1) := by show _ = _; rw [List.take_succ_eq_append_getElem hll, runS_snoc, hg]
        have b1 : (i : Int) < (len : Int) := by omega
        have hw : IntKind.i64.wrap ((i : Int) + 1) = ((i + 1 : Nat) : Int) := by rw [IntKind.wrap_i64]; omega
        clear hcell hll HH hg hbw
        go_wp2_with fail
        refine (rstep_any g wr).mono ?_
        rintro e w1 ⟨rfl, hb1⟩
        obtain ⟨⟨A1, d1, l1, hr1⟩, hbw⟩ := HI.out
        have hbw1 := hbw.trans (hb1.mono hbw.size)
        have HDO := Lib.hid (rop_any (hr1.grown hb1) g (HFG.out.later hbw1 (Nat.le_refl _)) HSZ.out)
        have HBW1 := Lib.hid hbw1
        clear hr1 hbw hbw1 hb1 c0 c1 c2 c3
        go_wp2_with fail
        refine HDO.out.mono ?_
        rintro e w2 ⟨rfl, hI2, hg2⟩
        have HR2 : Hid (IsR w2 w.heap.size (runS (newS C) (l.take (i + 1))) ∧ Below w.heap.size w w2) := by
          refine ⟨by rw [HSN.out]; exact hI2, ?_⟩
          have h9 := HBW1.out
          exact ⟨hg2.os.trans h9.os, hg2.tape.trans h9.tape, hg2.output.trans h9.output, Nat.le_trans h9.size hg2.size, fun k hk => (hg2.block k (by have := h9.size; omega) (by simp; omega)).trans (h9.block k hk)⟩
        clear hI2 hg2
        go_wp2_with fail
        go_roundw
        case rel => exact ⟨i + 1, by go_num, by omega, HR2⟩
        case measure => simp [intOf]; omega
      · obtain rfl : i = len := by omega
        have b1 : ¬ i < i := Nat.lt_irrefl i
        have HE : Hid (l.take i = l) := by show _ = _; rw [← HL.out, List.take_length]
        rw [HE.out] at HI
        clear HH
        go_wp2_with fail
        go_ret
        exact ⟨w.heap.size, rfl, Nat.le_refl _, HI.out.1, HI.out.2⟩
  · have g1 : decide (C < 0) = false := decide_eq_false hneg
    rw [if_neg hneg] at hw0
    have hw0' := hw0.symm
    clear hneg hw0 c1 f1
    go_enter Try.func23, Try.ntmps23
    go_wp2_with fail
    clear g1 hw0' hwb
    go_loopw [6] (fun v wr => ∃ i : Nat, v = .int .i64 (i : Int) ∧ i ≤ len ∧ Hid (IsR wr w.heap.size (runS (newS C) (l.take i)) ∧ Below w.heap.size w wr)) (fun v _ => len - (intOf v).toNat)
    case atStart => exact ⟨0, rfl, Nat.zero_le _, HR0.out, HB0.out⟩
    case round =>
      obtain ⟨i, rfl, hil, HI⟩ := hrel
      by_cases hlt : i < len
      · have hll : i < l.length := by rw [HL.out]; exact hlt
        obtain ⟨b, o, rfl, hb, hcell⟩ : ∃ b o, a = some ⟨b, o, none⟩ ∧ b < w.heap.size ∧ ∀ (i : Nat) (h : i < l.length) (j : Nat) v, l[i].cells[j]? = some v → w.cell? ⟨b, o + (i * 4 + j), none⟩ = some v := by
          rcases HH.out with h | h
          · rw [h] at hll; simp at hll
          · exact h
        obtain ⟨g, hg⟩ : ∃ g, l[i] = g := ⟨_, rfl⟩
        have hbw := HI.out.2
        have c0 : wr.cell? ⟨b, o + i * 4, none⟩ = some (.int .i64 g.kind) := by rw [hbw.cell hb, ← hg]; exact hcell i hll 0 _ rfl
        have c1 : wr.cell? ⟨b, o + i * 4 + 1, none⟩ = some (.string g.name) := by rw [hbw.cell hb, ← hg, Nat.add_assoc]; exact hcell i hll 1 _ rfl
        have c2 : wr.cell? ⟨b, o + i * 4 + 2, none⟩ = some (.string g.to) := by rw [hbw.cell hb, ← hg, Nat.add_assoc]; exact hcell i hll 2 _ rfl
        have c3 : wr.cell? ⟨b, o + i * 4 + 3, none⟩ = some (.slice g.A g.n g.c) := by rw [hbw.cell hb, ← hg, Nat.add_assoc]; exact hcell i hll 3 _ rfl
        have HFG : Hid (OpFit w w.heap.size g) := HF.out.2 g (by rw [← hg]; exact List.getElem_mem hll)
        have HSZ := Lib.hid (HF.out.size C i)
        have HSN : Hid (runS (newS C) (l.take (i + 1)) = (opS (runS (newS C) (l.take i)) g).1) := by show _ = _; rw [List.take_succ_eq_append_getElem hll, runS_snoc, hg]
        have b1 : (i : Int) < (len : Int) := by omega
        have hw : IntKind.i64.wrap ((i : Int) + 1) = ((i + 1 : Nat) : Int) := by rw [IntKind.wrap_i64]; omega
        clear hcell hll HH hg hbw
        go_wp2_with fail
        refine (rstep_any g wr).mono ?_
        rintro e w1 ⟨rfl, hb1⟩
        obtain ⟨⟨A1, d1, l1, hr1⟩, hbw⟩ := HI.out
        have hbw1 := hbw.trans (hb1.mono hbw.size)
        have HDO := Lib.hid (rop_any (hr1.grown hb1) g (HFG.out.later hbw1 (Nat.le_refl _)) HSZ.out)
        have HBW1 := Lib.hid hbw1
        clear hr1 hbw hbw1 hb1 c0 c1 c2 c3
        go_wp2_with fail
        refine HDO.out.mono ?_
        rintro e w2 ⟨rfl, hI2, hg2⟩
        have HR2 : Hid (IsR w2 w.heap.size (runS (newS C) (l.take (i + 1))) ∧ Below w.heap.size w w2) := by
          refine ⟨by rw [HSN.out]; exact hI2, ?_⟩
          have h9 := HBW1.out
          exact ⟨hg2.os.trans h9.os, hg2.tape.trans h9.tape, hg2.output.trans h9.output, Nat.le_trans h9.size hg2.size, fun k hk => (hg2.block k (by have := h9.size; omega) (by simp; omega)).trans (h9.block k hk)⟩
        clear hI2 hg2
        go_wp2_with fail
        go_roundw
        case rel => exact ⟨i + 1, by go_num, by omega, HR2⟩
        case measure => simp [intOf]; omega
      · obtain rfl : i = len := by omega
        have b1 : ¬ i < i := Nat.lt_irrefl i
        have HE : Hid (l.take i = l) := by show _ = _; rw [← HL.out, List.take_length]
        rw [HE.out] at HI
        clear HH
        go_wp2_with fail
        go_ret
        exact ⟨w.heap.size, rfl, Nat.le_refl _, HI.out.1, HI.out.2⟩

/-- 'x[:hi]', hi of whatever kind. -/
theorem slice_toK {P : Program} {t e : TypeId} {fs : Nat} (ht : P.underlying t = some (.slice e)) (hs : (P.info? e).map (·.size) = some fs) (w : World) (A : Option Addr) (n c k : Nat) (q : IntKind) (h1 : k ≤ c) :
    (Instr.slice t (.slice A n c) none (some (.int q (k : Int))) none).run P w = .ok (.slice A k c) w := by
  obtain ⟨i, hi, hs⟩ := Option.map_eq_some_iff.1 hs
  have he : ∀ a : Addr, a.add 0 = a := fun a => by unfold Addr.add; simp
  simp [Instr.slice, Instr.sliceBounds, Instr.sliceBound, run_underlying ht, sizeOf, typeInfo, hi, he, go_sem]
  intro hlt
  omega
theorem IsOps.take {w : World} {a : Option Addr} {len cap : Nat} {l : List Opn} (h : IsOps w a len cap l) (k : Nat) (hk : k ≤ len) : IsOps w a k cap (l.take k) := by
  obtain ⟨h1, h2, h3, h4, h5⟩ := h
  refine ⟨by simp; omega, by omega, h3, fun s hs => h4 s (List.mem_of_mem_take hs), ?_⟩
  rcases h5 with h5 | ⟨b, o, e, hlt, hc⟩
  · exact .inl (by rw [h5]; simp)
  · refine .inr ⟨b, o, e, hlt, fun i hi j v hv => hc i (by simp at hi; omega) j v ?_⟩
    rw [List.getElem_take] at hv
    exact hv
end Go.Proofs.Ytjdjidlopmanbaa

namespace Go.Proofs.Ytjdjidlopmanbaa
open Go.RowKit
set_option linter.unusedVariables false

/-- What is left of work that crashes at a place. -/
def atS (C : Int) (l : List Opn) (p : Nat) (keep : Int) : List PF := (runS (newS C) ((callsO l).take p)).files.map (cutF keep)
theorem fit_calls {w : World} {a : Option Addr} {len cap : Nat} {l : List Opn} (h : IsOps w a len cap l) (hl : largeO l = false) : OpsFit w (callsO l) := by
  obtain ⟨h1, h2⟩ := small_of_largeO hl
  refine ⟨Nat.le_trans (List.length_filter_le _ _) h1, fun o ho => ?_⟩
  obtain ⟨hm, hc⟩ := List.mem_filter.1 ho
  have ho := h.2.2.2.1 o hm
  have hs := h2 o hm
  exact ⟨hc, by omega, by omega, by omega, ho.len, ho.cap, ho.max, ho.data⟩
theorem OpsFit.take {w : World} {l : List Opn} (h : OpsFit w l) (k : Nat) : OpsFit w (l.take k) := ⟨by have := h.1; rw [List.length_take]; omega, fun o ho => h.2 o (List.mem_of_mem_take ho)⟩
theorem OpsFit.later {w w' : World} {l : List Opn} (h : OpsFit w l) (hb : Below w.heap.size w w') : OpsFit w' l := ⟨h.1, fun o ho => (h.2 o ho).later hb hb.size⟩
theorem FSl.imp {w : World} {Q Q' : Nat → Prop} {v : Value} {l : List Fil} (h : FSl w Q v l) (hq : ∀ b, Q b → Q' b) : FSl w Q' v l := by
  obtain ⟨A, c, e, hF, h1, h2⟩ := h
  exact ⟨A, c, e, hF.imp hq, h1, h2⟩

set_option maxRecDepth 100000 in
set_option maxHeartbeats 3200000 in
theorem rat_any {w : World} {a : Option Addr} {len cap : Nat} {l : List Opn} (h : IsOps w a len cap l) (hl : largeO l = false) (C : Int) (hC : (Lit.int .i64 C).wf = true) (p : Nat) (hp : p < 18446744073709551616) (keep : Int) (hk : (Lit.int .i64 keep).wf = true) :
    Calls Try.prog 9 #[.int .i64 C, .slice a len cap, .int .u64 (p : Int), .int .i64 keep] w fun e w' => ∃ v m, e = .returned v ∧ FSl w' (fun _ => True) v m ∧ m.map Fil.pf = atS C l p keep ∧ Below w.heap.size w w' := by
  have hsm := (small_of_largeO hl).1
  have hlen : len ≤ 65536 := by rw [← h.1]; omega
  have HC := Lib.hid (rcalls_any h hlen)
  have HFT := Lib.hid (fit_calls h hl)
  have hm60 : (callsO l).length ≤ 60 := Nat.le_trans (List.length_filter_le _ _) hsm
  have HCW := Lib.hid hC
  have HKW := Lib.hid hk
  obtain ⟨m1, hm1⟩ : ∃ m1, (callsO l).length = m1 := ⟨_, rfl⟩
  rw [hm1] at HC hm60
  have HM1 := Lib.hid hm1
  clear h hl hC hk hsm hm1
  go_enter Try.func9, Try.ntmps9
  go_wp2_with fail
  refine HC.out.mono ?_
  rintro e w1 ⟨A1, c1, rfl, hO1, hb1⟩
  have HO1 := Lib.hid hO1
  have HB1 := Lib.hid hb1
  have hwu : IntKind.u64.wrap (m1 : Int) = (m1 : Int) := by rw [IntKind.wrap_u64]; omega
  have hmc : m1 ≤ c1 := hO1.2.1
  have hcm : c1 ≤ maxLen := hO1.2.2.1
  unfold maxLen at hcm
  by_cases hpm : p < m1
  · have g1 : decide ((p : Int) < (m1 : Int)) = true := by rw [decide_eq_true_iff]; omega
    have hsl := fun W => slice_toK (P := Try.prog) (t := 23) (e := 46) (fs := 4) Try.underlying23 (by kernel_rfl) W A1 m1 c1 p .u64 (by omega)
    have HBE := Lib.hid (rbehind_any (hO1.take p (by omega)) ((HFT.out.later hb1).take p) C HCW.out)
    clear hO1 hb1
    go_wp2_with fail
    refine HBE.out.mono ?_
    rintro e w2 ⟨x, rfl, hx, ⟨A2, c2, l2, hr2⟩, hb2⟩
    have d0 : w2.cell? ⟨x, 0, none⟩ = some (.slice A2 l2.length c2) := hr2.blk.cellAt 0 (show 0 < 7 by decide)
    have hxlt := hr2.blk.lt
    have HCU := Lib.hid (cut_any hr2.files (fun b hb => show b ≠ x by omega) hr2.room hr2.max (Nat.le_trans hr2.len (by decide)) hr2.sure keep HKW.out)
    have HPF := Lib.hid hr2.pf
    have HB2 := Lib.hid (HB1.out.trans (hb2.mono HB1.out.size))
    clear hr2 hb2 hx
    go_wp2_with fail
    refine HCU.out.mono ?_
    rintro e w3 ⟨v3, rfl, hF3, hb3⟩
    have HF3 := Lib.hid hF3
    have HB3 := Lib.hid (HB2.out.trans (hb3.mono HB2.out.size))
    clear hF3 hb3
    go_wp2_with fail
    go_ret
    exact ⟨v3, _, rfl, HF3.out.imp fun _ _ => trivial, by rw [cutR_pf, HPF.out]; rfl, HB3.out⟩
  · have g1 : decide ((p : Int) < (m1 : Int)) = false := by rw [decide_eq_false_iff_not]; omega
    have htk : (callsO l).take p = callsO l := List.take_of_length_le (by rw [HM1.out]; omega)
    have HTK := Lib.hid htk
    have HBE := Lib.hid (rbehind_any hO1 (HFT.out.later hb1) C HCW.out)
    clear hO1 hb1 htk
    go_wp2_with fail
    refine HBE.out.mono ?_
    rintro e w2 ⟨x, rfl, hx, ⟨A2, c2, l2, hr2⟩, hb2⟩
    have d0 : w2.cell? ⟨x, 0, none⟩ = some (.slice A2 l2.length c2) := hr2.blk.cellAt 0 (show 0 < 7 by decide)
    have hxlt := hr2.blk.lt
    have HCU := Lib.hid (cut_any hr2.files (fun b hb => show b ≠ x by omega) hr2.room hr2.max (Nat.le_trans hr2.len (by decide)) hr2.sure keep HKW.out)
    have HPF := Lib.hid hr2.pf
    have HB2 := Lib.hid (HB1.out.trans (hb2.mono HB1.out.size))
    clear hr2 hb2 hx
    go_wp2_with fail
    refine HCU.out.mono ?_
    rintro e w3 ⟨v3, rfl, hF3, hb3⟩
    have HF3 := Lib.hid hF3
    have HB3 := Lib.hid (HB2.out.trans (hb3.mono HB2.out.size))
    clear hF3 hb3
    go_wp2_with fail
    go_ret
    exact ⟨v3, _, rfl, HF3.out.imp fun _ _ => trivial, by rw [cutR_pf, HPF.out]; unfold atS; rw [HTK.out], HB3.out⟩
end Go.Proofs.Ytjdjidlopmanbaa
