/-
  The walk of DiskKeeps, over whatever disk.
-/
import Derived.Test.YtillnfjedjahnaaFind9
import Derived.Test.YtillnfjedjahnaaDiskZ
namespace Go.Proofs.Ytillnfjedjahnaa
open Go.RowKit
set_option linter.unusedVariables false

/-- What the law's own check of the program answers. -/
def Awake9 : Prop := ∀ w, Calls Try.prog 6 #[] w fun e w' => e = .returned (.bool true) ∧ Below w.heap.size w w'

theorem IsSteps.cell {w : World} {a : Option Addr} {len cap : Nat} {l : List Stp} (h : IsSteps w a len cap l) {i : Nat} (hi : i < l.length) :
    ∃ b o s, a = some ⟨b, o, none⟩ ∧ b < w.heap.size ∧ s = l[i] ∧ s ∈ l ∧ StpOk w s ∧ w.cell? ⟨b, o + i * 6, none⟩ = some (.int .i64 s.kind) ∧ w.cell? ⟨b, o + i * 6 + 1, none⟩ = some (.string s.name) ∧ w.cell? ⟨b, o + i * 6 + 2, none⟩ = some (.string s.to) ∧
      w.cell? ⟨b, o + i * 6 + 3, none⟩ = some (.slice s.A s.n s.c) ∧ w.cell? ⟨b, o + i * 6 + 4, none⟩ = some (.int .u64 s.num) ∧ w.cell? ⟨b, o + i * 6 + 5, none⟩ = some (.int .i64 s.m) := by
  obtain ⟨h1, h2, h3, h4, h5⟩ := h
  rcases h5 with h5 | ⟨b, o, e, hb, hc⟩
  · rw [h5] at hi; simp at hi
  · have hc' := hc i hi
    refine ⟨b, o, l[i], e, hb, rfl, List.getElem_mem hi, h4 _ (List.getElem_mem hi), ?_, ?_, ?_, ?_, ?_, ?_⟩
    · exact hc' 0 _ rfl
    · rw [Nat.add_assoc]; exact hc' 1 _ rfl
    · rw [Nat.add_assoc]; exact hc' 2 _ rfl
    · rw [Nat.add_assoc]; exact hc' 3 _ rfl
    · rw [Nat.add_assoc]; exact hc' 4 _ rfl
    · rw [Nat.add_assoc]; exact hc' 5 _ rfl
theorem IsFiles.cell {w : World} {Q : Nat → Prop} {a : Option Addr} {l : List Fil} (h : IsFiles w Q a l) {i : Nat} (hi : i < l.length) :
    ∃ b o f, a = some ⟨b, o, none⟩ ∧ b < w.heap.size ∧ l[i]? = some f ∧ f ∈ l ∧ FilOk w Q f ∧ w.cell? ⟨b, o + i * 3, none⟩ = some (.string f.name) ∧ w.cell? ⟨b, o + i * 3 + 1, none⟩ = some (.slice f.A f.n f.c) ∧ w.cell? ⟨b, o + i * 3 + 2, none⟩ = some (.int .i64 (f.sure : Int)) := by
  obtain ⟨h1, h2⟩ := h
  rcases h2 with h2 | ⟨b, o, e, hb, _, hc⟩
  · rw [h2] at hi; simp at hi
  · have hc' := hc i hi
    refine ⟨b, o, l[i], e, hb, List.getElem?_eq_getElem hi, List.getElem_mem hi, h1 _ (List.getElem_mem hi), ?_, ?_, ?_⟩
    · exact hc' 0 _ rfl
    · rw [Nat.add_assoc]; exact hc' 1 _ rfl
    · rw [Nat.add_assoc]; exact hc' 2 _ rfl
/-- What is left of a file behind a crash, beside what it was, and what it was when it was sure. -/
theorem cut_facts {st st1 : DSt} {keep : Int} {f g : Fil} (h1 : GoodS st1) (hf : f.pf = cutF keep g.pf) (hg : g.pf ∈ st1.files) : bl f.name = bl g.name ∧ f.sure = f.data.length ∧ f.data.length ≤ g.data.length ∧ f.data = g.data.take f.data.length := by
  have hs := h1.sure _ hg
  have e1 : bl f.name = bl g.name := congrArg PF.name hf
  have e2 : f.data = g.data.take (cutN keep g.pf) := congrArg PF.data hf
  have e3 : f.sure = cutN keep g.pf := congrArg PF.sure hf
  have e4 := cutN_le keep hs
  have e5 : f.data.length = cutN keep g.pf := by rw [e2, List.length_take]; exact Nat.min_eq_left e4
  exact ⟨e1, by rw [e3, e5], by rw [e5]; exact e4, by rw [e5]; exact e2⟩
theorem kept_facts {st st1 : DSt} {keep : Int} {f g x : Fil} (h : GoodS st) (h1 : GoodS st1) (hk : KeptF st.files st1.files) (hf : f.pf = cutF keep g.pf) (hg : g.pf ∈ st1.files) (hx : x.pf ∈ st.files) (hn : bl x.name = bl f.name) :
    x.sure ≤ f.data.length ∧ x.sure ≤ x.data.length ∧ f.data.take x.sure = x.data.take x.sure := by
  have hs := h1.sure _ hg
  have e1 : bl f.name = bl g.name := congrArg PF.name hf
  have e2 : f.data = g.data.take (cutN keep g.pf) := congrArg PF.data hf
  have e4 := cutN_le keep hs
  have e5 : f.data.length = cutN keep g.pf := by rw [e2, List.length_take]; exact Nat.min_eq_left e4
  obtain ⟨y, hy, n1, s1, t1⟩ := hk _ hx
  obtain rfl : y = g.pf := h1.apart.eq hy hg (n1.trans (hn.trans e1))
  have hle : x.sure ≤ cutN keep g.pf := Nat.le_trans s1 (Nat.le_add_right _ _)
  refine ⟨by rw [e5]; exact hle, h.sure _ hx, ?_⟩
  rw [e2, List.take_take, Nat.min_eq_left hle]
  exact t1
theorem Eff.draw (O : Nat → Prop) (w : World) (n : Nat) : Eff O O w (w.drewN n) := Eff.of_below (below_drewN (Below.refl _ w) n)

set_option maxRecDepth 100000 in
set_option maxHeartbeats 3200000 in
theorem diskKeeps_over {IsD : World → (Nat → Prop) → Nat → DSt → Prop} (D : DiskLaws IsD) (hA : Awake9) {w : World} {a0 a1 : Option Addr} {len0 cap0 len1 cap1 : Nat} {l more : List Stp} (keep : Int)
    (hl : IsSteps w a0 len0 cap0 l) (hm : IsSteps w a1 len1 cap1 more) (hk : (Lit.int .i64 keep).wf = true) :
    Calls Try.prog 3 #[.slice a0 len0 cap0, .slice a1 len1 cap1, .int .i64 keep] w fun e w' => e = .returned (.bool true) ∧ Below w.heap.size w w' := by
  have hL0 := large_any hl
  have hL1 := fun n => large_any (hm.below (w' := w.drewN n) (below_drewN (Below.refl _ w) n))
  cases hb0 : largeL l with
  | true =>
    rw [hb0] at hL0
    have HL0 := Lib.hid hL0
    have HA := Lib.hid hA
    clear hL0 hL1 hA hl hm hk D hb0
    go_enter Try.func3, Try.ntmps3
    go_wp2_with fail
    refine HL0.out.mono ?_
    rintro e w1 ⟨rfl, n, rfl⟩
    go_wp2_with fail
    refine (HA.out _).mono ?_
    rintro e w2 ⟨rfl, hb⟩
    go_wp2_with fail
    go_ret
    exact ⟨rfl, (below_drewN (Below.refl _ w) n).trans hb⟩
  | false =>
    rw [hb0] at hL0
    cases hb1 : largeL more with
    | true =>
      rw [hb1] at hL1
      have HL0 := Lib.hid hL0
      have HL1 := Lib.hid hL1
      have HA := Lib.hid hA
      clear hL0 hL1 hA hl hm hk D hb0 hb1
      go_enter Try.func3, Try.ntmps3
      go_wp2_with fail
      refine HL0.out.mono ?_
      rintro e w1 ⟨rfl, n, rfl⟩
      go_wp2_with fail
      refine (HL1.out _).mono ?_
      rintro e w2 ⟨rfl, n2, rfl⟩
      go_wp2_with fail
      refine (HA.out _).mono ?_
      rintro e w3 ⟨rfl, hb⟩
      go_wp2_with fail
      go_ret
      exact ⟨rfl, (below_drewN (Below.refl _ w) (n + n2)).trans hb⟩
    | false =>
      rw [hb1] at hL1
      obtain ⟨hll0, hsm0⟩ := small_of_large hb0
      obtain ⟨hll1, hsm1⟩ := small_of_large hb1
      have HL0 := Lib.hid hL0
      have HL1 := Lib.hid hL1
      have HA := Lib.hid hA
      have HN := Lib.hid (fun W => D.new W 5000 (by decide))
      have HS0 := Lib.hid hl
      have HS1 := Lib.hid hm
      have HZ0 := Lib.hid hsm0
      have HZ1 := Lib.hid hsm1
      have HD := Lib.hid D
      have HLn0 := Lib.hid hl.1
      have HLn1 := Lib.hid hm.1
      have hl90 : len0 ≤ 90 := by rw [← hl.1]; exact hll0
      have hm90 : len1 ≤ 90 := by rw [← hm.1]; exact hll1
      have hc0 := hl.2.1
      have hc1 := hm.2.1
      clear hL0 hL1 hA hl hm D hb0 hb1 hsm0 hsm1 hll0 hll1
      go_enter Try.func3, Try.ntmps3
      go_wp2_with fail
      refine HL0.out.mono ?_
      rintro e w1 ⟨rfl, n, rfl⟩
      go_wp2_with fail
      refine (HL1.out _).mono ?_
      rintro e w2 ⟨rfl, n2, rfl⟩
      go_wp2_with fail
      refine (HN.out _).mono ?_
      rintro e w3 ⟨d, O, rfl, hD, hE⟩
      have hbel : Below w.heap.size w w3 := (below_drewN (Below.refl _ w) (n + n2)).trans (hE.below (Nat.le_refl _) (fun b h => h.elim))
      have hfl : ∀ b, O b → w.heap.size ≤ b := fun b hb => by
        rcases hE.new b hb with h | h
        · exact h.elim
        · exact h
      clear hE
      go_wp2_with fail
      go_loopw [8] (fun v wr => ∃ (i : Nat) (O : Nat → Prop) (st : DSt), v = .int .i64 (i : Int) ∧ i ≤ len0 ∧ IsD wr O d st ∧ (∀ b, O b → w.heap.size ≤ b) ∧ Below w.heap.size w wr ∧ sizeF st.files ≤ 200 * i) (fun v _ => len0 - (intOf v).toNat)
      case atStart => exact ⟨0, O, newS 5000, rfl, Nat.zero_le _, hD, hfl, hbel, Nat.le_refl _⟩
      case round =>
        clear hD hfl hbel
        obtain ⟨i, O, st, rfl, hil, hD, hfl, hbel, hsz⟩ := hrel
        by_cases hlt : i < len0
        · obtain ⟨b, o, s, rfl, hbb, hsi, hmem, hok, c0, c1, c2, c3, c4, c5⟩ := (HS0.out.below hbel).cell (i := i) (by rw [HLn0.out]; exact hlt)
          have hz := HZ0.out s hmem
          have g1 : (i : Int) < (len0 : Int) := by omega
          have hcall := do_any HD.out hD hok (by omega) (by omega) (by omega)
          have hsz2 := size_step st s
          have hlen := hok.len
          have hw : IntKind.i64.wrap ((i : Int) + 1) = ((i + 1 : Nat) : Int) := by rw [IntKind.wrap_i64]; omega
          have HSZ : Hid (sizeF (doS st s).1.files ≤ 200 * (i + 1)) := by show _ ≤ _; omega
          obtain ⟨st', hst'⟩ : ∃ st', (doS st s).1 = st' := ⟨_, rfl⟩
          rw [hst'] at hcall HSZ
          have HC : Hid (Calls Try.prog 8 #[dptr d, .agg #[.int .i64 s.kind, .string s.name, .string s.to, .slice s.A s.n s.c, .int .u64 s.num, .int .i64 s.m]] wr (RetD IsD (.int .i64 (doS st s).2) st' d O wr)) := hcall
          have HBel := Lib.hid hbel
          have HFl := Lib.hid hfl
          clear hcall hsz hsz2 hlen hz hok hmem hsi hst' hD hbel hfl
          go_wp2_with fail
          refine HC.out.mono ?_
          rintro e w4 ⟨O', rfl, hD', hE'⟩
          have HR : Hid ((∀ b, O' b → w.heap.size ≤ b) ∧ Below w.heap.size w w4) := ⟨hE'.floor HBel.out.size HFl.out, HBel.out.trans (hE'.below HBel.out.size HFl.out)⟩
          have HD' := Lib.hid hD'
          clear hE' hD'
          go_wp2_with fail
          go_roundw
          case rel => exact ⟨i + 1, O', st', rfl, by omega, HD'.out, HR.out.1, HR.out.2, HSZ.out⟩
          case measure =>
            show len0 - (((i + 1 : Nat) : Int)).toNat < len0 - ((i : Int)).toNat
            omega
        · obtain rfl : i = len0 := by omega
          have g1 : decide ((i : Int) < (i : Int)) = false := by rw [decide_eq_false_iff_not]; omega
          have HF := Lib.hid (HD.out.files hD)
          have HG := Lib.hid (HD.out.good hD)
          have HDD := Lib.hid hD
          have HFl := Lib.hid hfl
          have HBel := Lib.hid hbel
          have HSZ := Lib.hid hsz
          clear hD hfl hbel hsz
          go_wp2_with fail
          refine HF.out.mono ?_
          rintro e w4 ⟨aw, cw, lw, rfl, hFw, hlc, hcm, hpf, hb4⟩
          obtain ⟨B1, hB1⟩ : ∃ B1, wr.heap.size = B1 := ⟨_, rfl⟩
          obtain ⟨T1, hT1⟩ : ∃ T1, w4.heap.size = T1 := ⟨_, rfl⟩
          have HDw : Hid (IsD w4 O d st) := HD.out.eff HDD.out hb4
          have HAw : Hid (∀ b, O b → w.heap.size ≤ b ∧ (b < B1 ∨ T1 ≤ b)) := fun b hb => ⟨HFl.out b hb, .inl (by rw [← hB1]; exact HD.out.lt HDD.out hb)⟩
          have HFw : Hid (IsFiles w4 (fun b => B1 ≤ b ∧ b < T1) aw lw) := by have := hFw.bound; rw [hB1, hT1] at this; exact this
          have HT1 : Hid (T1 ≤ w4.heap.size) := Nat.le_of_eq hT1.symm
          have HB4 : Hid (Below w.heap.size w w4) := HBel.out.trans (hb4.mono HBel.out.size)
          have HPw := Lib.hid hpf
          clear hFw hpf hb4 HDD HF HFl HBel hB1 hT1
          go_wp2_with fail
          go_loopw [10] (fun v wr => ∃ (j : Nat) (O : Nat → Prop) (st1 : DSt), v = .int .i64 (j : Int) ∧ j ≤ len1 ∧ Hid (IsD wr O d st1) ∧ Hid (∀ b, O b → w.heap.size ≤ b ∧ (b < B1 ∨ T1 ≤ b)) ∧ Hid (Below w.heap.size w wr) ∧ Hid (T1 ≤ wr.heap.size) ∧
            Hid (sizeF st1.files ≤ 200 * (i + j)) ∧ Hid (KeptF st.files st1.files) ∧ Hid (IsFiles wr (fun b => B1 ≤ b ∧ b < T1) aw lw)) (fun v _ => len1 - (intOf v).toNat)
          case atStart => exact ⟨0, O, st, rfl, Nat.zero_le _, HDw, HAw, HB4, HT1, HSZ, KeptF.refl _, HFw⟩
          case round =>
            clear HDw HAw HFw
            obtain ⟨j, O, st1, rfl, hjl, hD, hAw, hbel, htop, hsz, hkf, hFw⟩ := hrel
            by_cases hlt : j < len1
            · obtain ⟨b, o, s, rfl, hbb, hsi, hmem, hok, c0, c1, c2, c3, c4, c5⟩ := (HS1.out.below hbel.out).cell (i := j) (by rw [HLn1.out]; exact hlt)
              have hz := HZ1.out s hmem
              have g2 : (j : Int) < (len1 : Int) := by omega
              have hw : IntKind.i64.wrap ((j : Int) + 1) = ((j + 1 : Nat) : Int) := by rw [IntKind.wrap_i64]; omega
              by_cases k3 : s.kind = 3
              · have e3 : (s.kind != 3) = false := by rw [k3]; rfl
                have HSZ2 : Hid (sizeF st1.files ≤ 200 * (i + (j + 1))) := by have := hsz.out; show _ ≤ _; omega
                clear hsi hmem hok hz k3
                go_wp2_with fail
                go_roundw
                case rel => exact ⟨j + 1, O, st1, rfl, by omega, hD, hAw, hbel, htop, HSZ2, hkf, hFw⟩
                case measure =>
                  show len1 - (((j + 1 : Nat) : Int)).toNat < len1 - ((j : Int)).toNat
                  omega
              have e3 : (s.kind != 3) = true := by rw [bne_iff_ne]; exact k3
              by_cases k4 : s.kind = 4
              · have e4 : (s.kind != 4) = false := by rw [k4]; rfl
                have HSZ2 : Hid (sizeF st1.files ≤ 200 * (i + (j + 1))) := by have := hsz.out; show _ ≤ _; omega
                clear hsi hmem hok hz k3 k4
                go_wp2_with fail
                go_roundw
                case rel => exact ⟨j + 1, O, st1, rfl, by omega, hD, hAw, hbel, htop, HSZ2, hkf, hFw⟩
                case measure =>
                  show len1 - (((j + 1 : Nat) : Int)).toNat < len1 - ((j : Int)).toNat
                  omega
              have e4 : (s.kind != 4) = true := by rw [bne_iff_ne]; exact k4
              have hszz := hsz.out
              have hcall := do_any HD.out hD.out hok (by omega) (by omega) (by omega)
              have hsz2 := size_step st1 s
              have hlen := hok.len
              have HK2 : Hid (KeptF st.files (doS st1 s).1.files) := hkf.out.trans (kept_step (HD.out.good hD.out) s k3 k4)
              have HSZ2 : Hid (sizeF (doS st1 s).1.files ≤ 200 * (i + (j + 1))) := by show _ ≤ _; omega
              obtain ⟨st', hst'⟩ : ∃ st', (doS st1 s).1 = st' := ⟨_, rfl⟩
              rw [hst'] at hcall HSZ2 HK2
              have HC : Hid (Calls Try.prog 8 #[dptr d, .agg #[.int .i64 s.kind, .string s.name, .string s.to, .slice s.A s.n s.c, .int .u64 s.num, .int .i64 s.m]] wr (RetD IsD (.int .i64 (doS st1 s).2) st' d O wr)) := hcall
              clear hcall hsz2 hlen hz hok hmem hsi hst' hszz k3 k4
              go_wp2_with fail
              refine HC.out.mono ?_
              rintro e w5 ⟨O', rfl, hD', hE'⟩
              have HR : Hid ((∀ b, O' b → w.heap.size ≤ b ∧ (b < B1 ∨ T1 ≤ b)) ∧ Below w.heap.size w w5 ∧ T1 ≤ w5.heap.size ∧ IsFiles w5 (fun b => B1 ≤ b ∧ b < T1) aw lw) := by
                refine ⟨fun b hb => ⟨hE'.floor hbel.out.size (fun b h => (hAw.out b h).1) b hb, ?_⟩, hbel.out.trans (hE'.below hbel.out.size (fun b h => (hAw.out b h).1)), Nat.le_trans htop.out hE'.size, ?_⟩
                · rcases hE'.new b hb with h | h
                  · exact (hAw.out b h).2
                  · exact .inr (Nat.le_trans htop.out h)
                · refine hFw.out.eff hE' fun b hq _ ho => ?_
                  rcases (hAw.out b ho).2 with h | h
                  · omega
                  · omega
              have HD' := Lib.hid hD'
              clear hE' hD'
              go_wp2_with fail
              go_roundw
              case rel => exact ⟨j + 1, O', st', rfl, by omega, HD', HR.out.1, HR.out.2.1, HR.out.2.2.1, HSZ2, HK2, HR.out.2.2.2⟩
              case measure =>
                show len1 - (((j + 1 : Nat) : Int)).toNat < len1 - ((j : Int)).toNat
                omega
            · obtain rfl : j = len1 := by omega
              have g2 : decide ((j : Int) < (j : Int)) = false := by rw [decide_eq_false_iff_not]; omega
              have HF2 := Lib.hid (HD.out.files hD.out)
              go_wp2_with fail
              refine HF2.out.mono ?_
              rintro e w5 ⟨aa, ca, la, rfl, hFa, hlca, hcma, hpfa, hb5⟩
              have HDa : Hid (IsD w5 O d st1) := HD.out.eff hD.out hb5
              have HFw5 : Hid (IsFiles w5 (fun b => B1 ≤ b ∧ b < T1) aw lw) := hFw.out.below hb5
              have HFa5 : Hid (IsFiles w5 (fun b => wr.heap.size ≤ b) aa la) := hFa
              have HO5 : Hid (∀ b, O b → b < wr.heap.size) := fun b hb => HD.out.lt hD.out hb
              have HB5 : Hid (Below w.heap.size w w5) := hbel.out.trans (hb5.mono hbel.out.size)
              have HPa := Lib.hid hpfa
              have HG1 := Lib.hid (HD.out.good hD.out)
              have HC6 := Lib.hid (HD.out.crash keep HDa.out hk)
              clear hFa hpfa hb5 HF2
              go_wp2_with fail
              refine HC6.out.mono ?_
              rintro e w6 ⟨O', rfl, hD6, hE6⟩
              have HFw6 : Hid (IsFiles w6 (fun b => B1 ≤ b ∧ b < T1) aw lw) := HFw5.out.eff hE6 fun b hq _ ho => by
                rcases (hAw.out b ho).2 with h | h
                · omega
                · omega
              have HFa6 : Hid (IsFiles w6 (fun b => wr.heap.size ≤ b) aa la) := HFa5.out.eff hE6 fun b hq _ ho => by
                have := HO5.out b ho
                omega
              have HB6 : Hid (Below w.heap.size w w6) := HB5.out.trans (hE6.below HB5.out.size (fun b h => (hAw.out b h).1))
              have HF3 := Lib.hid (HD.out.files hD6)
              clear hD6 hE6 HFw5 HFa5 HO5 HB5 HC6 HDa
              go_wp2_with fail
              refine HF3.out.mono ?_
              rintro e w7 ⟨an, cn, ln, rfl, hFn, hlcn, hcmn, hpfn, hb7⟩
              have HFw7 : Hid (IsFiles w7 (fun b => B1 ≤ b ∧ b < T1) aw lw) := HFw6.out.below hb7
              have HFa7 : Hid (IsFiles w7 (fun b => wr.heap.size ≤ b) aa la) := HFa6.out.below hb7
              have HFn7 : Hid (IsFiles w7 (fun b => w6.heap.size ≤ b) an ln) := hFn
              have HB7 : Hid (Below w.heap.size w w7) := HB6.out.trans (hb7.mono HB6.out.size)
              have hpn : ln.map Fil.pf = st1.files.map (cutF keep) := hpfn
              have HPN : Hid (ln.map Fil.pf = (la.map Fil.pf).map (cutF keep)) := by show _ = _; rw [HPa.out]; exact hpn
              have hlen : la.length = ln.length := by
                have := congrArg List.length HPN.out
                simpa using this.symm
              have hlen2 : lw.length ≤ ln.length := by
                have h1 : st.files.length ≤ st1.files.length := apart_len HG.out.apart (fun f hf => by
                  obtain ⟨g, hg, e, _⟩ := hkf.out f hf
                  exact ⟨g, hg, e⟩)
                rw [← HPw.out, ← HPa.out, List.length_map, List.length_map] at h1
                omega
              clear hFn hpfn hpn hb7 HF3 HFw6 HFa6 HB6
              obtain ⟨nn, hnn⟩ : ∃ nn, ln.length = nn := ⟨_, rfl⟩
              obtain ⟨mw, hmw⟩ : ∃ mw, lw.length = mw := ⟨_, rfl⟩
              rw [hnn] at hlen hlen2 hlcn ⊢
              rw [hlen] at hlca ⊢
              rw [hmw] at hlen2 hlc ⊢
              have HNN := Lib.hid hnn
              have HNA := Lib.hid hlen
              have HMW := Lib.hid hmw
              have g3 : ((nn : Int) != (nn : Int)) = false := by simp
              have g4 : decide ((nn : Int) < (mw : Int)) = false := by rw [decide_eq_false_iff_not]; omega
              have g5 : ¬ nn < mw := by omega
              clear hnn hlen hmw
              go_wp2_with fail
              go_loopw [13, 14, 15] (fun v _ _ wr => ∃ k : Nat, v = .int .i64 (k : Int) ∧ k ≤ nn ∧ Hid (Below w7.heap.size w7 wr)) (fun v _ _ _ => nn - (intOf v).toNat)
              case atStart => exact ⟨0, rfl, Nat.zero_le _, Below.refl _ _⟩
              case round =>
                clear hD hAw hbel htop hsz hFw HS0 HS1 HL0 HL1 HLn0 HLn1 HZ0 HZ1 HN HD HB4 HT1 HSZ
                obtain ⟨k, rfl, hkn, hbk⟩ := hrel
                by_cases hlt3 : k < nn
                · obtain ⟨b, o, f, rfl, hbb, hfi, hfm, hfok, f0, f1, f2⟩ := (HFn7.out.below hbk.out).cell (i := k) (by rw [HNN.out]; exact hlt3)
                  obtain ⟨b', o', g, rfl, hbb', hgi, hgm, hgok, g0, g1', g2'⟩ := (HFa7.out.below hbk.out).cell (i := k) (by rw [HNA.out]; exact hlt3)
                  have hfg : f.pf = cutF keep g.pf := by
                    have e1 : (ln.map Fil.pf)[k]? = some f.pf := by rw [List.getElem?_map, hfi]; rfl
                    rw [HPN.out, List.getElem?_map, List.getElem?_map, hgi] at e1
                    exact (Option.some.inj e1).symm
                  have hgs : g.pf ∈ st1.files := by rw [← HPa.out]; exact List.mem_map_of_mem hgm
                  obtain ⟨e1, e2, e3, e4⟩ := cut_facts (st := st) HG1.out hfg hgs
                  have hkf2 := fun (x : Fil) (hx : x ∈ lw) (hn : bl x.name = bl f.name) => kept_facts HG.out HG1.out hkf.out hfg hgs (by rw [← HPw.out]; exact List.mem_map_of_mem hx) hn
                  obtain ⟨F, Af, nf, cf, df, sf⟩ := f
                  obtain ⟨Fg, Ag, ng, cg, dg, sg⟩ := g
                  simp only at f0 f1 f2 g0 g1' g2' e1 e2 e3 e4 hkf2
                  obtain rfl : F = Fg := bl_inj e1
                  have hlf : df.length = nf := hfok.len
                  have hlg : dg.length = ng := hgok.len
                  obtain rfl : sf = nf := e2.trans hlf
                  have hcf : sf ≤ cf := hfok.cap
                  have hcg : ng ≤ cg := hgok.cap
                  have hcfm : cf ≤ maxLen := hfok.max
                  have hcgm : cg ≤ maxLen := hgok.max
                  have hbsf := hfok.bs
                  have hbsg := hgok.bs
                  have hle : sf ≤ ng := by omega
                  rw [hlf] at e4
                  have hall : ∀ o, Below wr.heap.size wr (wr.alloc o) := fun o => (Below.refl _ wr).alloc (Nat.le_refl _) o
                  have hSM : ∀ o m, Calls Try.prog 11 #[.slice Af sf cf, .slice Ag sf cg] ((wr.alloc o).drewN m) fun e w' => e = .returned (.bool true) ∧ ∃ n, w' = (wr.alloc o).drewN n := fun o m => by
                    have h1 : Bs ((wr.alloc o).drewN m) wr.heap.size Af df := (hbsf.below (hall o) (Nat.le_refl _)).drewN m
                    have h2 : Bs ((wr.alloc o).drewN m) wr.heap.size Ag (dg.take sf) := ((hbsg.below (hall o) (Nat.le_refl _)).drewN m).take sf
                    refine (same_any Af Ag sf sf cf cg df (dg.take sf) wr.heap.size _ hlf (by rw [List.length_take]; omega) h1 h2 (by omega) (by rw [List.length_take]; omega)).mono ?_
                    rintro e w' ⟨rfl, n, rfl⟩
                    exact ⟨by rw [decide_eq_true e4], m + n, by simp⟩
                  have hFI : ∀ o m, Calls Try.prog 12 #[.slice aw mw cw, .string F] ((wr.alloc o).drewN m) fun e w' => ∃ x, e = .returned (.int .i64 x) ∧ FindR lw (bl F) x ∧ ∃ n, w' = (wr.alloc o).drewN n := fun o m => by
                    have := find_any ((HFw7.out.below hbk.out).below (below_drewN (hall o) m)) (by rw [HMW.out]; exact hlc) hcm F
                    rw [HMW.out] at this
                    refine this.mono ?_
                    rintro e w' ⟨x, rfl, hx, n, rfl⟩
                    exact ⟨x, rfl, hx, m + n, by simp⟩
                  have t1 : ((sf : Int) != (sf : Int)) = false := by simp
                  have t2 : (F.toList == F.toList) = true := by simp
                  have t3 : decide ((ng : Int) < (sf : Int)) = false := by rw [decide_eq_false_iff_not]; omega
                  have t4 : ∀ w, (Instr.slice 29 (.slice Ag ng cg) none (some (.int .i64 (sf : Int))) none).run Try.prog w = .ok (.slice Ag sf cg) w := fun w => slice_to u8E w Ag ng cg sf (by omega)
                  have t5 : (k : Int) < (nn : Int) := by omega
                  have HSM := Lib.hid hSM
                  have HFI := Lib.hid hFI
                  have HKF := Lib.hid hkf2
                  have F0 := fun o => (World.cell?_alloc_lt wr o ⟨b, _, none⟩ hbb).trans f0
                  have F1 := fun o => (World.cell?_alloc_lt wr o ⟨b, _, none⟩ hbb).trans f1
                  have F2 := fun o => (World.cell?_alloc_lt wr o ⟨b, _, none⟩ hbb).trans f2
                  have G0 := fun o => (World.cell?_alloc_lt wr o ⟨b', _, none⟩ hbb').trans g0
                  have G1 := fun o => (World.cell?_alloc_lt wr o ⟨b', _, none⟩ hbb').trans g1'
                  have G2 := fun o => (World.cell?_alloc_lt wr o ⟨b', _, none⟩ hbb').trans g2'
                  have HLF := Lib.hid hlf
                  have HBF := Lib.hid hbsf
                  have HALL := Lib.hid hall
                  have hw : IntKind.i64.wrap ((k : Int) + 1) = ((k + 1 : Nat) : Int) := by rw [IntKind.wrap_i64]; unfold maxLen at hcmn; omega
                  have HB8 : Hid (∀ o m, Below w7.heap.size w7 ((wr.alloc o).drewN m)) := fun o m => hbk.out.trans (below_drewN ((Below.refl w7.heap.size wr).alloc hbk.out.size o) m)
                  have HFW := Lib.hid (HFw7.out.below hbk.out)
                  clear hSM hFI hkf2 e1 e2 e3 e4 hlf hlg hbsf hbsg hfok hgok hfm hgm hfi hgi hfg hgs hall
                  go_wp2_with fail
                  go_quiet ((go_at_call 11; with_reducible exact HSM.out _ _))
                  clear t1 t2 t3 t4 HSM F0 F1 F2 G0 G1 G2 f0 f1 f2 g0 g1' g2'
                  go_wp2_with fail
                  refine (HFI.out _ _).mono ?_
                  rintro e w8 ⟨x, rfl, hx, m, rfl⟩
                  obtain ⟨W8, hW8⟩ : ∃ W8, (wr.alloc (.cells #[.string F, .slice Af sf cf, .int .i64 (sf : Int)] 37)).drewN m = W8 := ⟨_, rfl⟩
                  have hb8 : Below wr.heap.size wr W8 := by rw [← hW8]; exact below_drewN (HALL.out _) m
                  have HB9 : Hid (∀ n, Below w7.heap.size w7 (W8.drewN n)) := fun n => below_drewN (by rw [← hW8]; exact HB8.out _ _) n
                  have l1 : W8.cell? ⟨wr.heap.size, 1, none⟩ = some (.slice Af sf cf) := by rw [← hW8]; exact cell_of_row _ _ _ _ _ (0, 0) (heap_alloc_new wr _)
                  rw [hW8]
                  clear hW8
                  rcases hx with ⟨q, hq, rfl, hqn⟩ | ⟨rfl, _⟩
                  · obtain ⟨b2, o2, y, rfl, hbb2, hyi, hym, hyok, y0, y1, y2⟩ := HFW.out.cell hq
                    have hye : lw[q] = y := by
                      rw [List.getElem?_eq_getElem hq] at hyi
                      exact Option.some.inj hyi
                    rw [hye] at hqn
                    obtain ⟨k1, k2, k3⟩ := HKF.out y hym hqn
                    obtain ⟨Fy, Ay, ny, cy, dy, sy⟩ := y
                    simp only at y0 y1 y2 k1 k2 k3
                    have hly : dy.length = ny := hyok.len
                    have hcy : ny ≤ cy := hyok.cap
                    have hcym : cy ≤ maxLen := hyok.max
                    have hbsy := hyok.bs
                    have hlf := HLF.out
                    have hsy : sy ≤ sf := by omega
                    have hsy2 : sy ≤ ny := by omega
                    have hS2 : ∀ m, Calls Try.prog 11 #[.slice Af sy cf, .slice Ay sy cy] (W8.drewN m) fun e w' => e = .returned (.bool true) ∧ ∃ n, w' = W8.drewN n := fun m => by
                      have h1 : Bs (W8.drewN m) wr.heap.size Af (df.take sy) := ((HBF.out.below hb8 (Nat.le_refl _)).drewN m).take sy
                      have h2 : Bs (W8.drewN m) wr.heap.size Ay (dy.take sy) := ((hbsy.below hb8 (Nat.le_refl _)).drewN m).take sy
                      refine (same_any Af Ay sy sy cf cy (df.take sy) (dy.take sy) wr.heap.size _ (by rw [List.length_take]; omega) (by rw [List.length_take]; omega) h1 h2 (by rw [List.length_take]; omega) (by rw [List.length_take]; omega)).mono ?_
                      rintro e w' ⟨rfl, n, rfl⟩
                      exact ⟨by rw [decide_eq_true k3], m + n, by simp⟩
                    have t3 : decide ((sf : Int) < (sy : Int)) = false := by rw [decide_eq_false_iff_not]; omega
                    have t4 : ∀ w, (Instr.slice 29 (.slice Af sf cf) none (some (.int .i64 (sy : Int))) none).run Try.prog w = .ok (.slice Af sy cf) w := fun w => slice_to u8E w Af sf cf sy (by omega)
                    have t6 : ∀ w, (Instr.slice 29 (.slice Ay ny cy) none (some (.int .i64 (sy : Int))) none).run Try.prog w = .ok (.slice Ay sy cy) w := fun w => slice_to u8E w Ay ny cy sy (by omega)
                    have t7 : (q : Int) < (mw : Int) := by have := HMW.out; omega
                    have t8 : decide ((0 : Int) ≤ (q : Int)) = true := by rw [decide_eq_true_iff]; omega
                    have Y1 := (hb8.cell (p := ⟨b2, _, none⟩) hbb2).trans y1
                    have Y2 := (hb8.cell (p := ⟨b2, _, none⟩) hbb2).trans y2
                    have HS2 := Lib.hid hS2
                    have t9 : ¬ sf < sy := by omega
                    clear hS2 k1 k2 k3 hly hbsy hyok hym hyi hye hqn hq hlf hcym HFI HKF y0 y1 y2 hb8
                    go_wp2_with fail
                    go_quiet ((go_at_call 11; with_reducible exact HS2.out _))
                    go_wp2_with fail
                    go_roundw
                    case rel => exact ⟨k + 1, rfl, by omega, HB9.out _⟩
                    case measure =>
                      show nn - (((k + 1 : Nat) : Int)).toNat < nn - ((k : Int)).toNat
                      omega
                  · have t8 : decide ((0 : Int) ≤ (-1 : Int)) = false := by decide
                    clear HFI HKF hb8
                    go_wp2_with fail
                    go_quiet (fail)
                    go_wp2_with fail
                    go_roundw
                    case rel => exact ⟨k + 1, rfl, by omega, HB9.out _⟩
                    case measure =>
                      show nn - (((k + 1 : Nat) : Int)).toNat < nn - ((k : Int)).toNat
                      omega
                · obtain rfl : k = nn := by omega
                  have g6 : decide ((k : Int) < (k : Int)) = false := by rw [decide_eq_false_iff_not]; omega
                  have HB8 : Hid (Below w.heap.size w wr) := HB7.out.trans (hbk.out.mono HB7.out.size)
                  go_wp2_with fail
                  refine (HA.out _).mono ?_
                  rintro e w8 ⟨rfl, hb8⟩
                  go_wp2_with fail
                  go_ret
                  exact ⟨rfl, HB8.out.trans (hb8.mono HB8.out.size)⟩
end Go.Proofs.Ytillnfjedjahnaa
