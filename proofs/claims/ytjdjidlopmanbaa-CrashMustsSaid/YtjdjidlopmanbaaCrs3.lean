/-
  crash.Must: a panic that is thrown, and caught.
-/
import Derived.Test.YtjdjidlopmanbaaCrs1
import Derived.Test.YtjdjidlopmanbaaLCrashMusts
import Derived.Defers
import Derived.Recover
namespace Go.Proofs.Ytjdjidlopmanbaa
open Go.RowKit
set_option linter.unusedVariables false

set_option maxRecDepth 100000 in
set_option maxHeartbeats 3200000 in
theorem catch_thrown (g : Nat) (x e0 : Int) (T : TypeId) (older : List PanicEntry) (w : World) (hB : Bk w g T [.int .i64 x]) :
    CallsD Try.prog 24 #[.pointer (some ⟨g, 0, none⟩)] (.panicking ({ v := thrown e0, recovered := false } :: older)) w fun e u' w' =>
      e = .returned (.tuple #[]) ∧ u' = .panicking ({ v := thrown e0, recovered := true } :: older) ∧ Bk w' g T [.int .i64 e0] ∧ w.grownBy w' (some g) := by
  have hc : w.cell? ⟨g, 0, none⟩ = some (.int .i64 x) := hB.cellAt 0 (show 0 < 1 by decide)
  have hz : w.frozen? ⟨g, 0, none⟩ = false := hB.frozen 0
  have HR : Hid (Bk (w.setCell ⟨g, 0, none⟩ (.int .i64 e0)) g T [.int .i64 e0] ∧ w.grownBy (w.setCell ⟨g, 0, none⟩ (.int .i64 e0)) (some g)) :=
    ⟨hB.set_ 0 _, grown_set _ g 0 _⟩
  refine callsD_of_wpS Try.func24 rfl fun c₀ cs hu => ?_
  apply wpS_seq
  apply wpS_region
  simp [wpOpsS, go_sem, recoverD, hu, Try.ntmps24, Exit.thenS]
  refine wpS_of_wp ?_
  clear hu
  simp only [Array.replicate_succ, Array.replicate_zero, List.push_toArray, List.append_toArray, List.nil_append, List.cons_append, List.setIfInBounds_toArray, List.set_cons_succ, List.set_cons_zero]
  obtain ⟨R, hR⟩ : ∃ R : Exit → Act → World → Prop, R = (fun e a' w' => bodyPostS Try.prog Try.f24 c₀ cs (fun e u' w' => e = .returned (.tuple #[]) ∧ u' = .panicking ({ v := thrown e0, recovered := true } :: older) ∧ Bk w' g T [.int .i64 e0] ∧ w.grownBy w' (some g)) e a' ({ fn := c₀.fn, tmps := c₀.tmps, todo := c₀.todo, defers := c₀.defers, mode := .panicking ({ v := thrown e0, recovered := true } :: older), kind := c₀.kind, roundOf := c₀.roundOf } :: cs) w') := ⟨_, rfl⟩
  rw [← hR]
  have HRR := Lib.hid hR
  clear hR
  have hta : (Instr.typeAssert (thrown e0) 20 34 false).run Try.prog w = .ok (.int .i64 e0) w := by rfl
  go_wp2_with fail
  rw [HRR.out]
  have hr := HR.out
  simp [bodyPostS, results, Try.results24]
  exact hr
set_option maxRecDepth 100000 in
set_option maxHeartbeats 3200000 in
theorem catch_idle (g : Nat) (w : World) :
    CallsD Try.prog 24 #[.pointer (some ⟨g, 0, none⟩)] .returning w fun e u' w' => e = .returned (.tuple #[]) ∧ u' = .returning ∧ w' = w := by
  refine callsD_of_wpS Try.func24 rfl fun c₀ cs hu => ?_
  apply wpS_seq
  apply wpS_region
  simp [wpOpsS, go_sem, recoverD, hu, Try.ntmps24, Exit.thenS]
  refine wpS_of_wp ?_
  simp only [Array.replicate_succ, Array.replicate_zero, List.push_toArray, List.append_toArray, List.nil_append, List.cons_append, List.setIfInBounds_toArray, List.set_cons_succ, List.set_cons_zero]
  obtain ⟨R, hR⟩ : ∃ R : Exit → Act → World → Prop, R = (fun e a' w' => bodyPostS Try.prog Try.f24 c₀ cs (fun e u' w' => e = .returned (.tuple #[]) ∧ u' = .returning ∧ w' = w) e a' (c₀ :: cs) w') := ⟨_, rfl⟩
  rw [← hR]
  have HRR := Lib.hid hR
  have HU := Lib.hid hu
  clear hR hu
  go_wp2_with fail
  rw [HRR.out]
  have hu := HU.out
  cases c₀
  simp_all [bodyPostS, results, Try.results24]

/-- Work with what is nothing in it. -/
theorem must_calls : ∀ (l : List Opn) (st : DSt), mustS st l = mustS st (callsO l)
  | [], _ => rfl
  | o :: r, st => by
    unfold callsO
    rw [List.filter_cons]
    cases h : isCallO o with
    | true =>
      rw [if_pos rfl]
      show (if (opS st o).2 = 0 then mustS (opS st o).1 r else opS st o) = (if (opS st o).2 = 0 then mustS (opS st o).1 (callsO r) else opS st o)
      rw [must_calls r]
    | false =>
      rw [if_neg (by decide)]
      have : mustS st (o :: r) = mustS st r := by
        show (if (opS st o).2 = 0 then mustS (opS st o).1 r else opS st o) = _
        rw [opS_none h]
        rfl
      rw [this]
      exact must_calls r st
theorem op_small {w : World} {a : Option Addr} {len cap : Nat} {l : List Opn} (h : IsOps w a len cap l) (hl : largeO l = false) : ∀ o ∈ l, OpSmall w w.heap.size o := fun o ho => by
  have h1 := (small_of_largeO hl).2 o ho
  have h2 := h.2.2.2.1 o ho
  exact ⟨h2.kind, by omega, by omega, by omega, h2.len, h2.cap, h2.max, h2.data⟩

/-- A call is stored into a block of its own. -/
theorem op_store {ops : Array Oper} {rest : List Oper} {o : Oper} {a : Act} {w : World} {Q : Exit → Act → World → Prop} (hgd : o.guard = none) (x y : Operand) (ho : o.op = .store 46 x y)
    {g : Nat} {t' : TypeId} {b c d e : Value} (s : Opn) (hx : a.eval x = .pointer (some ⟨g, 0, none⟩)) (h : Bk w g t' [b, c, d, e]) (hy : a.eval y = .agg #[.int .i64 s.kind, .string s.name, .string s.to, .slice s.A s.n s.c])
    (hK : ∀ w', Bk w' g t' [.int .i64 s.kind, .string s.name, .string s.to, .slice s.A s.n s.c] → w.grownBy w' (some g) → w'.heap.size = w.heap.size → wpList Try.prog ops Q rest (a.put o.dst undef) w') : wpList Try.prog ops Q (o :: rest) a w :=
  wpList_store_row hgd 46 x y ho g #[.int .i64 s.kind, .string s.name, .string s.to, .slice s.A s.n s.c] hx hy t' #[b, c, d, e] h (by kernel_rfl) rfl (by rw [Array.all_eq_true_iff_forall_mem]; simp [Value.oneCell']) (hK _ (Bk.row (vs := [b, c, d, e]) h #[.int .i64 s.kind, .string s.name, .string s.to, .slice s.A s.n s.c]) (grown_row _ _ _) (by simp [World.setRow]))
theorem IsQ.other {w w' : World} {O : Nat → Prop} {d p : Nat} {st : DSt} (h : IsQ w O d st) (hg : w.grownBy w' (some p)) (hp : ¬ O p) : IsQ w' O d st := by
  obtain ⟨⟨mb, L, h⟩, hz⟩ := h
  exact ⟨⟨mb, L, h.stay (fun b hb => hg.block b (h.lt b hb) (fun e => hp (by cases e; exact hb))) hg.size⟩, hz⟩
theorem must_step {st0 st : DSt} {l : List Opn} {i : Nat} (h : mustS st0 l = mustS st (l.drop i)) (hi : i < l.length) (h0 : (opS st l[i]).2 = 0) : mustS st0 l = mustS (opS st l[i]).1 (l.drop (i + 1)) := by
  rw [h, List.drop_eq_getElem_cons hi]
  show (if (opS st l[i]).2 = 0 then _ else _) = _
  rw [if_pos h0]
theorem must_none {st0 st : DSt} {l : List Opn} {i : Nat} (h : mustS st0 l = mustS st (l.drop i)) (hi : i < l.length) (hc : isCallO l[i] = false) : mustS st0 l = mustS st (l.drop (i + 1)) := by
  rw [h, List.drop_eq_getElem_cons hi]
  show (if (opS st l[i]).2 = 0 then mustS (opS st l[i]).1 _ else opS st l[i]) = _
  rw [opS_none hc]
  rfl
theorem must_stop {st0 st : DSt} {l : List Opn} {i : Nat} (h : mustS st0 l = mustS st (l.drop i)) (hi : i < l.length) (h0 : (opS st l[i]).2 ≠ 0) : mustS st0 l = opS st l[i] := by
  rw [h, List.drop_eq_getElem_cons hi]
  show (if (opS st l[i]).2 = 0 then _ else _) = _
  rw [if_neg h0]

set_option maxRecDepth 100000 in
set_option maxHeartbeats 6400000 in
theorem must_law : MustLaw := by
  intro w0 w O d st0 a len cap l hO hl hb0 hfl hI hz
  have hlen : len ≤ 60 := by rw [← hO.1]; exact (small_of_largeO hl).1
  have HSM := Lib.hid (op_small hO hl)
  have HH := Lib.hid hO.2.2.2.2
  have HL := Lib.hid hO.1
  have hb0s := hb0.size
  have HB0 := Lib.hid hb0
  have HFL := Lib.hid hfl
  rw [← must_calls]
  have hmf : ∀ (fn : Fn) (first cap : Array Value) (w : World), (Instr.makeFunc fn first cap).run Try.prog w = .ok (.func fn first cap) w := fun _ _ _ _ => rfl
  obtain ⟨wp, hwp⟩ : ∃ wp, w.alloc (.cells #[.int .i64 0] 34) = wp := ⟨_, rfl⟩
  have hB : Bk wp w.heap.size 34 [.int .i64 0] := by rw [← hwp]; exact Bk.new w _ _
  have hbp : Below w.heap.size w wp := by rw [← hwp]; exact (Below.refl _ w).alloc (Nat.le_refl _) _
  have HBP := Lib.hid hbp
  have HBK := Lib.hid hB
  have HI : Hid (IsQ wp O d st0) := hI.below hbp
  have HLT : Hid (∀ b, O b → b < w.heap.size) := by
    obtain ⟨⟨mb, L, h⟩, _⟩ := hI
    exact h.lt
  clear hO hl hb0 hfl hI hB hbp
  obtain ⟨stE, vE, hmust⟩ : ∃ stE vE, mustS st0 l = (stE, vE) := ⟨_, _, rfl⟩
  rw [hmust]
  have HMU := Lib.hid hmust
  have HZ := Lib.hid hz
  have hpO : ¬ O w.heap.size := fun h => Nat.lt_irrefl _ (HLT.out _ h)
  have HPO := Lib.hid hpO
  have HW0 := Lib.hid hb0s
  clear hmust hz hpO hb0s
  show Calls Try.prog 12 #[dptr d, .slice a len cap] w (RetD IsQ (.int .i64 vE) stE d O w)
  go_enter_defers Try.func12, Try.ntmps12
  go_wp2_with fail
  go_loopw [6, 10] (fun _ iv wr => ∃ (i : Nat) (st : DSt) (O' : Nat → Prop), iv = .int .i64 (i : Int) ∧ i ≤ len ∧ Hid (IsQ wr O' d st ∧ Eff O O' wp wr ∧ mustS st0 l = mustS st (l.drop i) ∧ sizeF st.files ≤ 65536 + 200 * i)) (fun _ iv _ => len - (intOf iv).toNat)
  case atStart => exact ⟨0, st0, O, rfl, Nat.zero_le _, HI.out, Eff.refl O wp, rfl, HZ.out⟩
  case round =>
    obtain ⟨i, st, O', rfl, hil, HR⟩ := hrel
    by_cases hlt : i < len
    · have hll : i < l.length := by rw [HL.out]; exact hlt
      obtain ⟨b, o, rfl, hb, hcell⟩ : ∃ b o, a = some ⟨b, o, none⟩ ∧ b < w0.heap.size ∧ ∀ (i : Nat) (h : i < l.length) (j : Nat) v, l[i].cells[j]? = some v → w0.cell? ⟨b, o + (i * 4 + j), none⟩ = some v := by
        rcases HH.out with h | h
        · rw [h] at hll; simp at hll
        · exact h
      have hbw : Below w0.heap.size w0 wr := (HB0.out.trans (HBP.out.mono HB0.out.size)).trans (HR.out.2.1.below (by have := HB0.out.size; have := HBP.out.size; omega) HFL.out)
      have HBW := Lib.hid hbw
      have HSO := Lib.hid (HSM.out _ (List.getElem_mem hll))
      have HMI : Hid ((opS st l[i]).2 = 0 → mustS st0 l = mustS (opS st l[i]).1 (l.drop (i + 1))) := fun h0 => must_step HR.out.2.2.1 hll h0
      have HMS : Hid ((opS st l[i]).2 ≠ 0 → mustS st0 l = opS st l[i]) := fun h0 => must_stop HR.out.2.2.1 hll h0
      have HMN : Hid (isCallO l[i] = false → mustS st0 l = mustS st (l.drop (i + 1))) := fun h0 => must_none HR.out.2.2.1 hll h0
      obtain ⟨g, hg⟩ : ∃ g, l[i] = g := ⟨_, rfl⟩
      rw [hg] at HSO HMI HMS HMN
      have c0 : wr.cell? ⟨b, o + i * 4, none⟩ = some (.int .i64 g.kind) := by rw [hbw.cell hb, ← hg]; exact hcell i hll 0 _ rfl
      have c1 : wr.cell? ⟨b, o + i * 4 + 1, none⟩ = some (.string g.name) := by rw [hbw.cell hb, ← hg, Nat.add_assoc]; exact hcell i hll 1 _ rfl
      have c2 : wr.cell? ⟨b, o + i * 4 + 2, none⟩ = some (.string g.to) := by rw [hbw.cell hb, ← hg, Nat.add_assoc]; exact hcell i hll 2 _ rfl
      have c3 : wr.cell? ⟨b, o + i * 4 + 3, none⟩ = some (.slice g.A g.n g.c) := by rw [hbw.cell hb, ← hg, Nat.add_assoc]; exact hcell i hll 3 _ rfl
      obtain ⟨wa, hwa⟩ : ∃ wa, wr.alloc (.cells #[.int .i64 0, .string ⟨#[]⟩, .string ⟨#[]⟩, .slice none 0 0] 46) = wa := ⟨_, rfl⟩
      have HKA : Hid (Bk wa wr.heap.size 46 [.int .i64 0, .string ⟨#[]⟩, .string ⟨#[]⟩, .slice none 0 0]) := by show Bk _ _ _ _; rw [← hwa]; exact Bk.new wr _ _
      have HBA : Hid (Below wr.heap.size wr wa) := by show Below _ _ _; rw [← hwa]; exact (Below.refl _ wr).alloc (Nat.le_refl _) _
      have hw : IntKind.i64.wrap ((i : Int) + 1) = ((i + 1 : Nat) : Int) := by rw [IntKind.wrap_i64]; omega
      clear hcell hll hg hbw HH
      go_wp2_with (first | (refine op_store (by rfl) (.tmp 6) (.tmp 13) (by rfl) g (by rfl) HKA.out (by rfl) ?_; intro wc hKC hgC hsC; have HKC := Lib.hid hKC; have y0 := (show wc.cell? ⟨wr.heap.size, 0, none⟩ = some (.int .i64 g.kind) from hKC.cellAt 0 (show 0 < 4 by decide)); have y1 := (show wc.cell? ⟨wr.heap.size, 1, none⟩ = some (.string g.name) from hKC.cellAt 1 (show 1 < 4 by decide)); have y2 := (show wc.cell? ⟨wr.heap.size, 2, none⟩ = some (.string g.to) from hKC.cellAt 2 (show 2 < 4 by decide)); have y3 := (show wc.cell? ⟨wr.heap.size, 3, none⟩ = some (.slice g.A g.n g.c) from hKC.cellAt 3 (show 3 < 4 by decide)); have HBC : Hid (Below wr.heap.size wr wc) := below_own HBA.out hgC (Nat.le_refl _); clear hKC hgC hsC))
      refine (cis_any g wc).mono ?_
      rintro e w1 ⟨rfl, hb1⟩
      have HBC1 : Hid (Below wr.heap.size wr w1) := HBC.out.trans (hb1.mono HBC.out.size)
      have HK1 := Lib.hid (HKC.out.below hb1 HKC.out.lt)
      clear hb1 y0 y1 y2 y3 c0 c1 c2 c3
      cases hc : isCallO g with
      | false =>
        have HM1 := Lib.hid (HMN.out hc)
        have HR1 : Hid (IsQ w1 O' d st ∧ Eff O O' wp w1 ∧ mustS st0 l = mustS st (l.drop (i + 1)) ∧ sizeF st.files ≤ 65536 + 200 * (i + 1)) :=
          ⟨HR.out.1.below HBC1.out, HR.out.2.1.trans (Eff.of_below HBC1.out), HM1.out, by have := HR.out.2.2.2; omega⟩
        clear hc
        go_wp2_with fail
        go_roundw
        case rel => exact ⟨i + 1, st, O', by go_num, by omega, HR1⟩
        case measure => simp [intOf]; omega
      | true =>
      have y0 : w1.cell? ⟨wr.heap.size, 0, none⟩ = some (.int .i64 g.kind) := HK1.out.cellAt 0 (show 0 < 4 by decide)
      have y1 : w1.cell? ⟨wr.heap.size, 1, none⟩ = some (.string g.name) := HK1.out.cellAt 1 (show 1 < 4 by decide)
      have y2 : w1.cell? ⟨wr.heap.size, 2, none⟩ = some (.string g.to) := HK1.out.cellAt 2 (show 2 < 4 by decide)
      have y3 : w1.cell? ⟨wr.heap.size, 3, none⟩ = some (.slice g.A g.n g.c) := HK1.out.cellAt 3 (show 3 < 4 by decide)
      have HDO := Lib.hid (cdo_any (HR.out.1.below HBC1.out) g (HSO.out.later (HBW.out.trans (HBC1.out.mono HBW.out.size)) (by have := HBW.out.size; have := HBC1.out.size; omega)) hc (by have := HR.out.2.2.2; omega))
      clear hc
      go_wp2_with fail
      refine HDO.out.mono ?_
      rintro e w2 ⟨O1, rfl, hI1, hE1⟩
      have HI1 := Lib.hid hI1
      have HE1 : Hid (Eff O O1 wp w2) := HR.out.2.1.trans ((Eff.of_below HBC1.out).trans hE1)
      have hdl : g.data.length ≤ 200 := by rw [HSO.out.len]; exact HSO.out.n
      have HZ1 : Hid (sizeF (opS st g).1.files ≤ 65536 + 200 * (i + 1)) := by
        have h1 := size_op st g
        have h2 := HR.out.2.2.2
        show _ ≤ _
        omega
      clear hI1 hE1 y0 y1 y2 y3 hdl
      obtain ⟨e0, he0⟩ : ∃ e0, (opS st g).2 = e0 := ⟨_, rfl⟩
      rw [he0] at HMI HMS ⊢
      go_wp2_with fail
      refine (cmust_any e0 w2).mono ?_
      rintro e w2 ⟨rfl, rfl⟩
      by_cases h0 : e0 = 0
      · subst h0
        have HM1 := Lib.hid (HMI.out rfl)
        clear he0
        unfold mustEnd
        rw [if_pos rfl]
        go_wp2_with fail
        go_roundw
        case rel => exact ⟨i + 1, (opS st g).1, O1, by go_num, by omega, HI1.out, HE1.out, HM1.out, HZ1.out⟩
        case measure => simp [intOf]; omega
      · have hst := HMS.out h0
        rw [HMU.out] at hst
        have h5 : stE = (opS st g).1 := congrArg Prod.fst hst
        have h6 : vE = e0 := by have := congrArg Prod.snd hst; rw [he0] at this; exact this
        subst h5 h6
        unfold mustEnd
        rw [if_neg h0]
        clear hst he0 h0
        have hpO1 : ¬ O1 w.heap.size := fun h => by
          rcases HE1.out.new _ h with h9 | h9
          · exact HPO.out h9
          · have := HBK.out.lt
            omega
        have hBK1 : Bk w2 w.heap.size 34 [.int .i64 0] := (HE1.out.block _ HBK.out.lt HPO.out).trans HBK.out
        go_wp2_with fail
        refine leaves_cons (f := 24) (args := #[.pointer (some ⟨w.heap.size, 0, none⟩)]) (by simp) (by simp [go_sem]) ?_
        refine (catch_thrown w.heap.size 0 vE _ [] w2 hBK1).mono ?_
        rintro e u' w3 ⟨rfl, rfl, hB3, hg3⟩
        have hc3 : w3.cell? ⟨w.heap.size, 0, none⟩ = some (.int .i64 vE) := hB3.cellAt 0 (show 0 < 1 by decide)
        have hfin : RetD IsQ (.int .i64 vE) (opS st g).1 d O w (.returned (.int .i64 vE)) w3 := by
          refine ⟨O1, rfl, HI1.out.other hg3 hpO1, ?_⟩
          have hE2 := (Eff.of_below (O := O) HBP.out).trans HE1.out
          exact ⟨hg3.os.trans hE2.os, hg3.tape.trans hE2.tape, hg3.output.trans hE2.output, Nat.le_trans hE2.size hg3.size, fun k hk ho => (hg3.block k (by have := hE2.size; omega) (by simp; omega)).trans (hE2.block k hk ho), hE2.new⟩
        simp [Leaves, settle, results, Try.results12, go_sem, hc3]
        exact hfin
    · obtain rfl : i = len := by omega
      have b1 : ¬ i < i := Nat.lt_irrefl i
      have hE : mustS st0 l = (st, 0) := by
        rw [HR.out.2.2.1, List.drop_eq_nil_of_le (by rw [HL.out]; exact Nat.le_refl _)]
        rfl
      rw [HMU.out] at hE
      obtain ⟨rfl, rfl⟩ : stE = st ∧ vE = 0 := by simpa using hE
      have hpO1 : ¬ O' w.heap.size := fun h => by
        rcases HR.out.2.1.new _ h with h9 | h9
        · exact HPO.out h9
        · have := HBK.out.lt
          omega
      have hBK1 : Bk wr w.heap.size 34 [.int .i64 0] := (HR.out.2.1.block _ HBK.out.lt HPO.out).trans HBK.out
      have hc0 : wr.cell? ⟨w.heap.size, 0, none⟩ = some (.int .i64 0) := hBK1.cellAt 0 (show 0 < 1 by decide)
      have hf0 : wr.frozen? ⟨w.heap.size, 0, none⟩ = false := hBK1.frozen 0
      have hB3 := hBK1.set_ 0 (.int .i64 0)
      have hg3 := grown_set wr w.heap.size 0 (.int .i64 0)
      have HB3 := Lib.hid hB3
      have hfin : RetD IsQ (.int .i64 0) stE d O w (.returned (.int .i64 0)) (wr.setCell ⟨w.heap.size, 0, none⟩ (.int .i64 0)) := by
        refine ⟨O', rfl, HR.out.1.other hg3 hpO1, ?_⟩
        have hE2 := (Eff.of_below (O := O) HBP.out).trans HR.out.2.1
        exact ⟨hg3.os.trans hE2.os, hg3.tape.trans hE2.tape, hg3.output.trans hE2.output, Nat.le_trans hE2.size hg3.size, fun k hk ho => (hg3.block k (by have := hE2.size; omega) (by simp; omega)).trans (hE2.block k hk ho), hE2.new⟩
      have HFIN := Lib.hid hfin
      clear hE hB3 hg3 hfin hBK1 HH
      go_wp2_with fail
      refine leaves_cons (f := 24) (args := #[.pointer (some ⟨w.heap.size, 0, none⟩)]) (by simp) (by simp [go_sem]) ?_
      refine (catch_idle w.heap.size _).mono ?_
      rintro e u' w3 ⟨rfl, rfl, rfl⟩
      have hc3 : (wr.setCell ⟨w.heap.size, 0, none⟩ (.int .i64 0)).cell? ⟨w.heap.size, 0, none⟩ = some (.int .i64 0) := HB3.out.cellAt 0 (show 0 < 1 by decide)
      simp [Leaves, settle, results, Try.results12, go_sem, hc3]
      exact HFIN.out
end Go.Proofs.Ytjdjidlopmanbaa
