/-
  crash.Run, crash.At.
-/
import Derived.Test.YtjdjidlopmanbaaCrs2
namespace Go.Proofs.Ytjdjidlopmanbaa
open Go.RowKit
set_option linter.unusedVariables false

theorem run_step {st0 st : DSt} {l : List Opn} {i : Nat} (h : runStop st0 l = runStop st (l.drop i)) (hi : i < l.length) :
    (isCallO l[i] = false → runStop st0 l = runStop st (l.drop (i + 1))) ∧ (isCallO l[i] = true → (opS st l[i]).2 = 19 → runStop st0 l = ((opS st l[i]).1, true)) ∧
    (isCallO l[i] = true → (opS st l[i]).2 ≠ 19 → runStop st0 l = runStop (opS st l[i]).1 (l.drop (i + 1))) := by
  rw [List.drop_eq_getElem_cons hi] at h
  have e : runStop st (l[i] :: l.drop (i + 1)) = if isCallO l[i] then (if (opS st l[i]).2 = 19 then ((opS st l[i]).1, true) else runStop (opS st l[i]).1 (l.drop (i + 1))) else runStop st (l.drop (i + 1)) := rfl
  rw [e] at h
  refine ⟨fun hc => ?_, fun hc h9 => ?_, fun hc h9 => ?_⟩
  · rw [h, hc]; rfl
  · rw [h, hc, if_pos rfl, if_pos h9]
  · rw [h, hc, if_pos rfl, if_neg h9]
theorem errE : Elem Try.prog 53 34 (.int .i64 0) 8 := Elem.mk' Try.underlying53 (by kernel_rfl) rfl

/-- 'append(out, x)', and where its row lies. -/
theorem wp_app1W {P : Program} (w : World) {ops : Array Oper} {rest : List Oper} {o : Oper} {a : Act} {Q : Exit → Act → World → Prop} (hgd : o.guard = none) (s x : Operand) (t : TypeId)
    (ho : o.op = .call { callee := .builtin .append, args := #[s, x], argTypes := #[t, t] })
    (base : Nat) (e : TypeId) {z : Value} {bytes : Nat} (E : Elem P t e z bytes) (v : Value) (xs : List Value) (hs : a.eval s = v) (hown : Own w base e v xs)
    (u : Value) (e' : TypeId) (c : Nat) (hx : a.eval x = .slice (some ⟨w.heap.size, 0, none⟩) 1 c) (h1 : u.oneCell' = true)
    (h63 : xs.length + 1 ≤ maxLen) (hbytes : (xs.length + 1) * bytes ≤ 140737488355328) (hbase : base ≤ w.heap.size)
    (h : ∀ v' w', Own w' base e v' (xs ++ [u]) → w.grownBy w' v.ownBlock → (v'.ownBlock = v.ownBlock ∨ v'.ownBlock = some (w.heap.size + 1)) → wpList P ops Q rest (a.put o.dst v') w') : wpList P ops Q (o :: rest) a (w.alloc (.cells #[u] e')) := by
  refine wp_app (w.alloc (.cells #[u] e')) hgd s x t ho base e E v xs hs (hown.alloc _) (w.heap.size + 1) _ 1 c [u] hx rfl
    (.inr ⟨w.heap.size, 0, rfl, by omega, fun j hj => ?_⟩) (by simpa using h1) h63 hbytes (by simp; omega) fun v' w' a1 a2 a3 => h v' w' a1 ?_ (by simpa using a3)
  · obtain rfl : j = 0 := by simpa using hj
    simp
  · exact ⟨a2.os, a2.tape, a2.output, Nat.le_trans (by simp) a2.size, fun k hk hne => (a2.block k (by simp; omega) hne).trans (Below.heap_alloc w _ k hk)⟩

set_option maxRecDepth 100000 in
set_option maxHeartbeats 6400000 in
theorem crun_any {w0 w : World} {O : Nat → Prop} {d : Nat} {st0 : DSt} {a : Option Addr} {len cap : Nat} {l : List Opn} (hO : IsOps w0 a len cap l) (hl : largeO l = false) (hb0 : Below w0.heap.size w0 w) (hfl : ∀ b, O b → w0.heap.size ≤ b) (hI : IsQ w O d st0) (hz : sizeF st0.files ≤ 65536) :
    Calls Try.prog 20 #[dptr d, .slice a len cap] w fun e w' => ∃ v O', e = .returned (.tuple #[v, .bool (runStop st0 l).2]) ∧ IsQ w' O' d (runStop st0 l).1 ∧ Eff O O' w w' := by
  have hlen : len ≤ 60 := by rw [← hO.1]; exact (small_of_largeO hl).1
  have HSM := Lib.hid (op_small hO hl)
  have HH := Lib.hid hO.2.2.2.2
  have HL := Lib.hid hO.1
  have hb0s := hb0.size
  have HB0 := Lib.hid hb0
  have HFL := Lib.hid hfl
  have HI := Lib.hid hI
  have HZ := Lib.hid hz
  have HW0 := Lib.hid hb0s
  have HOL : Hid (∀ b, O b → b < w.heap.size) := by
    obtain ⟨⟨mb, L, h⟩, _⟩ := hI
    exact h.lt
  obtain ⟨stE, cE, hrun⟩ : ∃ stE cE, runStop st0 l = (stE, cE) := ⟨_, _, rfl⟩
  rw [hrun]
  have HRU := Lib.hid hrun
  clear hO hl hb0 hfl hI hz hrun hb0s
  show Calls Try.prog 20 #[dptr d, .slice a len cap] w fun e w' => ∃ v O', e = .returned (.tuple #[v, .bool cE]) ∧ IsQ w' O' d stE ∧ Eff O O' w w'
  go_enter Try.func20, Try.ntmps20
  go_wp2_with fail
  go_loopw [6, 8, 9, 12] (fun ov _ _ iv wr => ∃ (i : Nat) (st : DSt) (O' : Nat → Prop) (xs : List Value), iv = .int .i64 (i : Int) ∧ i ≤ len ∧ Hid (IsQ wr O' d st ∧ Eff O O' w wr ∧ runStop st0 l = runStop st (l.drop i) ∧ sizeF st.files ≤ 65536 + 200 * i) ∧ Hid (Own wr w.heap.size 34 ov xs ∧ xs.length ≤ i ∧ ∀ k, ov.ownBlock = some k → ¬ O' k)) (fun _ _ _ iv _ => len - (intOf iv).toNat)
  case atStart => exact ⟨0, st0, O, [], rfl, Nat.zero_le _, ⟨HI.out, Eff.refl O w, rfl, HZ.out⟩, ⟨Own.nil _ _ _, Nat.le_refl _, fun k hk => by cases hk⟩⟩
  case round =>
    obtain ⟨i, st, O', xs, rfl, hil, HR, HX⟩ := hrel
    by_cases hlt : i < len
    · have hll : i < l.length := by rw [HL.out]; exact hlt
      obtain ⟨b, o, rfl, hb, hcell⟩ : ∃ b o, a = some ⟨b, o, none⟩ ∧ b < w0.heap.size ∧ ∀ (i : Nat) (h : i < l.length) (j : Nat) v, l[i].cells[j]? = some v → w0.cell? ⟨b, o + (i * 4 + j), none⟩ = some v := by
        rcases HH.out with h | h
        · rw [h] at hll; simp at hll
        · exact h
      have hbw : Below w0.heap.size w0 wr := HB0.out.trans (HR.out.2.1.below HW0.out HFL.out)
      have HBW := Lib.hid hbw
      have HSO := Lib.hid (HSM.out _ (List.getElem_mem hll))
      have HST := Lib.hid (run_step HR.out.2.2.1 hll)
      obtain ⟨g, hg⟩ : ∃ g, l[i] = g := ⟨_, rfl⟩
      rw [hg] at HSO HST
      have c0 : wr.cell? ⟨b, o + i * 4, none⟩ = some (.int .i64 g.kind) := by rw [hbw.cell hb, ← hg]; exact hcell i hll 0 _ rfl
      have c1 : wr.cell? ⟨b, o + i * 4 + 1, none⟩ = some (.string g.name) := by rw [hbw.cell hb, ← hg, Nat.add_assoc]; exact hcell i hll 1 _ rfl
      have c2 : wr.cell? ⟨b, o + i * 4 + 2, none⟩ = some (.string g.to) := by rw [hbw.cell hb, ← hg, Nat.add_assoc]; exact hcell i hll 2 _ rfl
      have c3 : wr.cell? ⟨b, o + i * 4 + 3, none⟩ = some (.slice g.A g.n g.c) := by rw [hbw.cell hb, ← hg, Nat.add_assoc]; exact hcell i hll 3 _ rfl
      obtain ⟨wa, hwa⟩ : ∃ wa, wr.alloc (.cells #[.int .i64 0, .string ⟨#[]⟩, .string ⟨#[]⟩, .slice none 0 0] 46) = wa := ⟨_, rfl⟩
      have HKA : Hid (Bk wa wr.heap.size 46 [.int .i64 0, .string ⟨#[]⟩, .string ⟨#[]⟩, .slice none 0 0]) := by show Bk _ _ _ _; rw [← hwa]; exact Bk.new wr _ _
      have HBA : Hid (Below wr.heap.size wr wa) := by show Below _ _ _; rw [← hwa]; exact (Below.refl _ wr).alloc (Nat.le_refl _) _
      have hw : IntKind.i64.wrap ((i : Int) + 1) = ((i + 1 : Nat) : Int) := by rw [IntKind.wrap_i64]; omega
      clear hcell hll hg hbw HH
      go_wp2_with (first | (refine op_store (by rfl) (.tmp 8) (.tmp 15) (by rfl) g (by rfl) HKA.out (by rfl) ?_; intro wc hKC hgC hsC; have HKC := Lib.hid hKC; have y0 := (show wc.cell? ⟨wr.heap.size, 0, none⟩ = some (.int .i64 g.kind) from hKC.cellAt 0 (show 0 < 4 by decide)); have y1 := (show wc.cell? ⟨wr.heap.size, 1, none⟩ = some (.string g.name) from hKC.cellAt 1 (show 1 < 4 by decide)); have y2 := (show wc.cell? ⟨wr.heap.size, 2, none⟩ = some (.string g.to) from hKC.cellAt 2 (show 2 < 4 by decide)); have y3 := (show wc.cell? ⟨wr.heap.size, 3, none⟩ = some (.slice g.A g.n g.c) from hKC.cellAt 3 (show 3 < 4 by decide)); have HBC : Hid (Below wr.heap.size wr wc) := below_own HBA.out hgC (Nat.le_refl _); clear hKC hgC hsC))
      refine (cis_any g wc).mono ?_
      rintro e w1 ⟨rfl, hb1⟩
      have HBC1 : Hid (Below wr.heap.size wr w1) := HBC.out.trans (hb1.mono HBC.out.size)
      have HK1 := Lib.hid (HKC.out.below hb1 HKC.out.lt)
      clear hb1 y0 y1 y2 y3 c0 c1 c2 c3
      cases hc : isCallO g with
      | false =>
        have HN := Lib.hid (HST.out.1 hc)
        have HR1 : Hid (IsQ w1 O' d st ∧ Eff O O' w w1 ∧ runStop st0 l = runStop st (l.drop (i + 1)) ∧ sizeF st.files ≤ 65536 + 200 * (i + 1)) :=
          ⟨HR.out.1.below HBC1.out, HR.out.2.1.trans (Eff.of_below HBC1.out), HN.out, by have := HR.out.2.2.2; omega⟩
        have HX1 : Hid (Own w1 w.heap.size 34 u6 xs ∧ xs.length ≤ i + 1 ∧ ∀ k, u6.ownBlock = some k → ¬ O' k) := ⟨HX.out.1.below HBC1.out (Nat.le_refl _), by have := HX.out.2.1; omega, HX.out.2.2⟩
        clear hc
        go_wp2_with fail
        go_roundw
        case rel => exact ⟨i + 1, st, O', xs, by go_num, by omega, HR1, HX1⟩
        case measure => simp [intOf]; omega
      | true =>
        have y0 : w1.cell? ⟨wr.heap.size, 0, none⟩ = some (.int .i64 g.kind) := HK1.out.cellAt 0 (show 0 < 4 by decide)
        have y1 : w1.cell? ⟨wr.heap.size, 1, none⟩ = some (.string g.name) := HK1.out.cellAt 1 (show 1 < 4 by decide)
        have y2 : w1.cell? ⟨wr.heap.size, 2, none⟩ = some (.string g.to) := HK1.out.cellAt 2 (show 2 < 4 by decide)
        have y3 : w1.cell? ⟨wr.heap.size, 3, none⟩ = some (.slice g.A g.n g.c) := HK1.out.cellAt 3 (show 3 < 4 by decide)
        have HST2 := Lib.hid (HST.out.2.1 hc)
        have HST3 := Lib.hid (HST.out.2.2 hc)
        have HDO := Lib.hid (cdo_any (HR.out.1.below HBC1.out) g (HSO.out.later (HBW.out.trans (HBC1.out.mono HBW.out.size)) (by have := HBW.out.size; have := HBC1.out.size; omega)) hc (by have := HR.out.2.2.2; omega))
        clear hc
        go_wp2_with fail
        refine HDO.out.mono ?_
        rintro e w2 ⟨O2, rfl, hI2, hE2⟩
        have HI2 := Lib.hid hI2
        have HE2 : Hid (Eff O O2 w w2) := HR.out.2.1.trans ((Eff.of_below HBC1.out).trans hE2)
        have hown1 := HX.out.1.below HBC1.out (Nat.le_refl _)
        have hkO : ∀ k, u6.ownBlock = some k → ¬ O' k := HX.out.2.2
        have HOW2 : Hid (Own w2 w.heap.size 34 u6 xs) := Own.same hown1 fun k hk => hE2.block k (hown1.lt k hk).2 (hkO k hk)
        have HKO2 : Hid (∀ k, u6.ownBlock = some k → ¬ O2 k) := fun k hk h9 => by
          rcases hE2.new k h9 with h8 | h8
          · exact hkO k hk h8
          · have := (hown1.lt k hk).2
            omega
        have hdl : g.data.length ≤ 200 := by rw [HSO.out.len]; exact HSO.out.n
        have HZ2 : Hid (sizeF (opS st g).1.files ≤ 65536 + 200 * (i + 1)) := by
          have h1 := size_op st g
          have h2 := HR.out.2.2.2
          show _ ≤ _
          omega
        clear hI2 hE2 hown1 hkO hdl y0 y1 y2 y3
        obtain ⟨e0, he0⟩ : ∃ e0, (opS st g).2 = e0 := ⟨_, rfl⟩
        rw [he0] at HST2 HST3 ⊢
        by_cases h9 : e0 = 19
        · subst h9
          have hst := HST2.out rfl
          rw [HRU.out] at hst
          have h5 : stE = (opS st g).1 := congrArg Prod.fst hst
          have h6 : cE = true := congrArg Prod.snd hst
          subst h5 h6
          clear hst he0
          go_wp2_with fail
          go_ret2
          exact ⟨u6, O2, rfl, HI2.out, HE2.out⟩
        · have g9 : (e0 == 19) = false := by rw [beq_eq_false_iff_ne]; exact h9
          have HN := Lib.hid (HST3.out h9)
          have hxl : xs.length ≤ i := HX.out.2.1
          have h63 : xs.length + 1 ≤ maxLen := by unfold maxLen; omega
          have hby : (xs.length + 1) * 8 ≤ 140737488355328 := by omega
          have hbs : w.heap.size ≤ w2.heap.size := HE2.out.size
          have hown := HOW2.out
          have HLT2 : Hid (∀ k, O2 k → k < w2.heap.size) := by
            obtain ⟨⟨mb, L, h⟩, _⟩ := HI2.out
            exact h.lt
          clear he0 h9
          go_wp2_with (first | (refine wp_app1W w2 rfl (.tmp 25) (.tmp 27) 53 rfl w.heap.size 34 errE u6 xs rfl hown (.int .i64 e0) 34 1 rfl rfl h63 hby hbs ?_; intro v7 w7 hO7 hG7 hv7))
          have HR7 : Hid (IsQ w7 O2 d (opS st g).1 ∧ Eff O O2 w w7 ∧ runStop st0 l = runStop (opS st g).1 (l.drop (i + 1)) ∧ sizeF (opS st g).1.files ≤ 65536 + 200 * (i + 1)) := by
            have hst : ∀ k, O2 k → w7.heap[k]? = w2.heap[k]? := fun k hk => hG7.block k (HLT2.out k hk) (fun e => HKO2.out k e.symm hk)
            refine ⟨?_, ?_, HN.out, HZ2.out⟩
            · obtain ⟨⟨mb, L, h⟩, hz⟩ := HI2.out
              exact ⟨⟨mb, L, h.stay hst hG7.size⟩, hz⟩
            · have h9 := HE2.out
              refine ⟨hG7.os.trans h9.os, hG7.tape.trans h9.tape, hG7.output.trans h9.output, Nat.le_trans h9.size hG7.size, fun k hk ho => (hG7.block k (by have := h9.size; omega) (fun e => ?_)).trans (h9.block k hk ho), h9.new⟩
              have := (HOW2.out.lt k e.symm).1
              omega
          have HX7 : Hid (Own w7 w.heap.size 34 v7 (xs ++ [.int .i64 e0]) ∧ (xs ++ [Value.int .i64 e0]).length ≤ i + 1 ∧ ∀ k, v7.ownBlock = some k → ¬ O2 k) := by
            refine ⟨hO7, by simp; omega, fun k hk hO2k => ?_⟩
            rcases hv7 with h8 | h8
            · exact HKO2.out k (h8 ▸ hk) hO2k
            · have h7 := Option.some.inj (h8.symm.trans hk)
              have := HLT2.out k hO2k
              omega
          clear hO7 hG7 hown hv7
          try go_wp2_with fail
          go_roundw
          case rel => exact ⟨i + 1, (opS st g).1, O2, _, by go_num, by omega, HR7, HX7⟩
          case measure => simp [intOf]; omega
    · obtain rfl : i = len := by omega
      have b1 : ¬ i < i := Nat.lt_irrefl i
      have hst := HR.out.2.2.1
      rw [List.drop_eq_nil_of_le (by rw [HL.out]; exact Nat.le_refl _), HRU.out] at hst
      have h5 : stE = st := congrArg Prod.fst hst
      have h6 : cE = false := congrArg Prod.snd hst
      subst h5 h6
      clear hst HH
      go_wp2_with fail
      go_ret2
      exact ⟨u6, O', rfl, HR.out.1, HR.out.2.1⟩

theorem runS_twin0 (C : Int) (p : Nat) (keep : Int) : Twin { newS C with armed := true, left := p, keep := keep } (newS C) := ⟨rfl, rfl, rfl, rfl, rfl, rfl⟩
theorem cut_cut (keep : Int) (f : PF) : cutF keep (cutF keep f) = cutF keep f := by
  have h : (f.data.take (cutN keep f)).length - cutN keep f = 0 := by
    rw [List.length_take]
    omega
  have e : cutN keep (cutF keep f) = cutN keep f := by
    show cutN keep f + min keep.toNat ((f.data.take (cutN keep f)).length - cutN keep f) = cutN keep f
    rw [h]
    omega
  unfold cutF at e ⊢
  simp only at e ⊢
  rw [e, List.take_take, Nat.min_self]
/-- What At answers: a crash behind a crash takes nothing more. -/
theorem at_plain (C : Int) (p : Nat) (keep : Int) (l : List Opn) : (runStop { newS C with armed := true, left := p, keep := keep } l).1.files.map (cutF keep) = atS C l p keep := by
  have hT := runS_twin0 C p keep
  obtain ⟨h1, h2⟩ := stop_run l _ _ hT
  obtain ⟨a1, a2⟩ := armed_run (callsO l) _ _ (fun o ho => (List.mem_filter.1 ho).2) hT
  rw [h1]
  by_cases hp : p < (callsO l).length
  · obtain ⟨b1, b2⟩ := a2 hp
    rw [b1]
    show (((runS (newS C) ((callsO l).take p)).files.map (cutF keep)).map (cutF keep)) = atS C l p keep
    rw [List.map_map]
    unfold atS
    exact List.map_congr_left fun f _ => cut_cut keep f
  · obtain ⟨b1, b2⟩ := a1 (by show (callsO l).length ≤ p; omega)
    rw [b1]
    unfold atS
    rw [List.take_of_length_le (by omega)]

set_option maxRecDepth 100000 in
set_option maxHeartbeats 3200000 in
theorem at_law : AtLaw := by
  intro w a len cap l C p keep hO hl hC hp hk
  have HO := Lib.hid hO
  have HLG := Lib.hid hl
  have HKW := Lib.hid hk
  have HPL := Lib.hid (at_plain C p keep l)
  have HSZ := Lib.hid (stop_size l { newS C with armed := true, left := p, keep := keep } fun o ho => by
    have h1 := (small_of_largeO hl).2 o ho
    have h2 := (hO.2.2.2.1 o ho).len
    omega)
  have HL60 := Lib.hid (small_of_largeO hl).1
  have HN := Lib.hid (pdskNew_any w C hC)
  have HPW := Lib.hid hp
  clear hO hl hC hp hk
  go_enter Try.func8, Try.ntmps8
  go_wp2_with fail
  refine HN.out.mono ?_
  rintro e w2 ⟨d, O2, rfl, hI2, hE2⟩
  have HI2 := Lib.hid hI2
  have HBO2 : Hid (Below w.heap.size w w2 ∧ ∀ b, O2 b → w.heap.size ≤ b) := by
    refine ⟨hE2.below (Nat.le_refl _) (fun b hb => hb.elim), fun b hb => ?_⟩
    rcases hE2.new b hb with h9 | h9
    · exact h9.elim
    · exact h9
  clear hI2 hE2
  go_wp2_with fail
  obtain ⟨mb2, L2, hD2⟩ := HI2.out
  refine (pdskArm_any hD2 (p : Int) keep (Go.WalkArith.wf_u64 (by have := HPW.out; omega)) HKW.out).mono ?_
  rintro e w3 ⟨O3, rfl, hI3, hE3⟩
  have HI3 : Hid (IsQ w3 O3 d { newS C with armed := true, left := p, keep := keep }) := by
    refine ⟨?_, Nat.zero_le _⟩
    rw [Int.toNat_natCast] at hI3
    exact hI3
  have HBO3 : Hid (Below w.heap.size w w3 ∧ ∀ b, O3 b → w.heap.size ≤ b) :=
    ⟨HBO2.out.1.trans (hE3.below HBO2.out.1.size HBO2.out.2), hE3.floor HBO2.out.1.size HBO2.out.2⟩
  clear hI3 hE3 hD2
  go_wp2_with fail
  refine (crun_any HO.out HLG.out HBO3.out.1 HBO3.out.2 HI3.out (Nat.zero_le _)).mono ?_
  rintro e w4 ⟨v4, O4, rfl, hI4, hE4⟩
  have HI4 := Lib.hid hI4
  have HBO4 : Hid (Below w.heap.size w w4 ∧ ∀ b, O4 b → w.heap.size ≤ b) :=
    ⟨HBO3.out.1.trans (hE4.below HBO3.out.1.size HBO3.out.2), hE4.floor HBO3.out.1.size HBO3.out.2⟩
  clear hI4 hE4 HI3 HBO3 HI2 HBO2
  obtain ⟨⟨st, cr⟩, hr⟩ : ∃ r, runStop { newS C with armed := true, left := p, keep := keep } l = r := ⟨_, rfl⟩
  rw [hr] at HI4 HPL HSZ ⊢
  simp only at HI4 HPL HSZ ⊢
  clear hr
  have HCR := Lib.hid (show Calls Try.prog 21 #[dptr d, .int .i64 keep] w4 _ from by
    obtain ⟨⟨mb4, L4, h4⟩, hz4⟩ := HI4.out
    exact pdskCrash_any h4 keep HKW.out)
  go_wp2_with fail
  refine HCR.out.mono ?_
  rintro e w5 ⟨O5, rfl, ⟨mb5, L5, h5⟩, hE5⟩
  have HB5 : Hid (Below w.heap.size w w5) := HBO4.out.1.trans (hE5.below HBO4.out.1.size HBO4.out.2)
  have HFI := Lib.hid (pdskFiles_any h5 (Nat.le_trans (sizeF_cut keep _) HI4.out.2))
  clear h5 hE5
  go_wp2_with fail
  refine HFI.out.mono ?_
  rintro e w6 ⟨A6, c6, m6, rfl, hF6, h1, h2, h3, hb6⟩
  have HR : Hid (∃ v m, Ending.returned (.slice A6 m6.length c6) = .returned v ∧ FSl w6 (fun _ => True) v m ∧ m.map Fil.pf = atS C l p keep ∧ Below w.heap.size w w6) :=
    ⟨_, m6, rfl, ⟨A6, c6, rfl, hF6.imp fun _ _ => trivial, h1, h2⟩, h3.trans HPL.out, HB5.out.trans (hb6.mono HB5.out.size)⟩
  clear hF6 h1 h2 h3 hb6
  go_wp2_with fail
  go_ret
  exact HR.out
end Go.Proofs.Ytjdjidlopmanbaa
