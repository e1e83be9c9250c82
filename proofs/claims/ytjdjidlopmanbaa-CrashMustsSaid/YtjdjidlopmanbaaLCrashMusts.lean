/-
  The walk of CrashMusts, over what crash.Must is to do.
-/
import Derived.Test.YtjdjidlopmanbaaLCrashLeaves
import Derived.Test.YtjdjidlopmanbaaPDskA
import Derived.WalkArith
namespace Go.Proofs.Ytjdjidlopmanbaa
open Go.RowKit
set_option linter.unusedVariables false

/-- What crash.Must is to do: work that lies below the disk. -/
def MustLaw : Prop := ∀ (w0 w : World) (O : Nat → Prop) (d : Nat) (st : DSt) (a : Option Addr) (len cap : Nat) (l : List Opn), IsOps w0 a len cap l → largeO l = false → Below w0.heap.size w0 w → (∀ b, O b → w0.heap.size ≤ b) → IsQ w O d st → sizeF st.files ≤ 65536 →
  Calls Try.prog 12 #[dptr d, .slice a len cap] w (RetD IsQ (.int .i64 (mustS st (callsO l)).2) (mustS st (callsO l)).1 d O w)
def armS (C : Int) (p : Nat) : DSt := { newS C with armed := true, left := p, keep := 0 }
theorem size_must (k : Nat) : ∀ (cs : List Opn) (st : DSt), (∀ o ∈ cs, o.data.length ≤ k) → sizeF (mustS st cs).1.files ≤ sizeF st.files + k * cs.length
  | [], st, _ => Nat.le_add_right _ _
  | o :: r, st, h => by
    have h2 := size_op st o
    have h3 := h o (List.mem_cons_self ..)
    unfold mustS
    split
    · have h1 := size_must k r (opS st o).1 fun x hx => h x (List.mem_cons_of_mem _ hx)
      rw [List.length_cons, Nat.mul_add]
      omega
    · rw [List.length_cons, Nat.mul_add]
      omega
theorem RDsk.armed {w : World} {x : Nat} {C : Int} {p : Nat} (hc : (Lit.int .i64 C).wf = true) (hp : p < 18446744073709551616) (hB : Bk w x 39 (rcells none 0 0 (armS C p))) : RDsk w x (armS C p) none 0 [] where
  blk := hB
  files := ⟨(fun f hf => by cases hf), .inl rfl⟩
  room := Nat.le_refl _
  max := Nat.zero_le _
  pf := rfl
  ris := List.Pairwise.nil
  good := ⟨List.Pairwise.nil, fun f hf => by cases hf⟩
  count := Nat.zero_le _
  cap := by
    show (Lit.int .i64 (if C < 0 then 0 else C)).wf = true
    split
    · decide
    · exact hc
  cap0 := by
    show 0 ≤ (if C < 0 then 0 else C)
    split <;> omega
  calls := show 0 < 18446744073709551616 by decide
  left := hp
  keep := show (Lit.int .i64 0).wf = true by decide
  size := Nat.zero_le _
/-- How far the reference has come. -/
def Came (st0 : DSt) (cs : List Opn) (i : Nat) (st : DSt) (want : Int) : Prop :=
  mustS st0 cs = (if want = 0 then mustS st (cs.drop i) else (st, want)) ∧ sizeF st.files ≤ 200 * i
theorem Came.step {st0 st : DSt} {cs : List Opn} {i : Nat} (h : Came st0 cs i st 0) (hi : i < cs.length) (hd : cs[i].data.length ≤ 200) : Came st0 cs (i + 1) (opS st cs[i]).1 (opS st cs[i]).2 := by
  obtain ⟨h1, h2⟩ := h
  rw [if_pos rfl, List.drop_eq_getElem_cons hi] at h1
  refine ⟨?_, ?_⟩
  · rw [h1]
    show (if (opS st cs[i]).2 = 0 then _ else _) = _
    rfl
  · have := size_op st cs[i]
    omega
theorem Came.done {st0 st : DSt} {cs : List Opn} {i : Nat} {want : Int} (h : Came st0 cs i st want) (hi : want = 0 → cs.length ≤ i) : mustS st0 cs = (st, want) := by
  obtain ⟨h1, _⟩ := h
  rw [h1]
  split
  · next h0 =>
    rw [List.drop_eq_nil_of_le (hi h0), h0]
    rfl
  · rfl

set_option maxRecDepth 100000 in
set_option maxHeartbeats 6400000 in
theorem crashMusts_over (hM : MustLaw) (hW : Awake10) {w : World} {a : Option Addr} {len cap : Nat} {l : List Opn} (C : Int) (p : Nat) (h : IsOps w a len cap l) (hC : (Lit.int .i64 C).wf = true) (hp : p < 18446744073709551616) :
    Calls Try.prog 4 #[.int .i64 C, .slice a len cap, .int .u64 (p : Int)] w fun e w' => e = .returned (.bool true) ∧ Below w.heap.size w w' := by
  have HLA := Lib.hid (largeO_any h)
  unfold Awake10 at hW
  unfold MustLaw at hM
  have HW := Lib.hid hW
  have HM := Lib.hid hM
  cases hl : largeO l with
  | true =>
    rw [hl] at HLA
    clear h hC hM hl hW
    go_enter Try.func4, Try.ntmps4
    go_wp2_with fail
    refine HLA.out.mono ?_
    rintro e w1 ⟨rfl, n, rfl⟩
    go_wp2_with fail
    refine (HW.out _).mono ?_
    rintro e w2 ⟨rfl, hb⟩
    go_wp2_with fail
    go_ret
    exact ⟨rfl, (below_drewN (Below.refl _ w) n).trans hb⟩
  | false =>
    rw [hl] at HLA
    have HO := Lib.hid h
    have HLF := Lib.hid hl
    have HCW := Lib.hid hC
    have HPW := Lib.hid hp
    have hsm := (small_of_largeO hl).1
    have hlen : len ≤ 60 := by rw [← h.1]; exact hsm
    clear h hC hM hl hW hsm
    go_enter Try.func4, Try.ntmps4
    go_wp2_with fail
    refine HLA.out.mono ?_
    rintro e w1 ⟨rfl, n, hw1⟩
    have hb1 : Below w.heap.size w w1 := by rw [hw1]; exact below_drewN (Below.refl _ w) n
    have HB1 := Lib.hid hb1
    clear hw1 hb1
    go_wp2_with fail
    refine (pdskNew_any w1 C HCW.out).mono ?_
    rintro e w2 ⟨d, O2, rfl, hI2, hE2⟩
    have HI2 := Lib.hid hI2
    have HBO2 : Hid (Below w.heap.size w w2 ∧ ∀ b, O2 b → w.heap.size ≤ b) := by
      refine ⟨HB1.out.trans (hE2.below HB1.out.size (fun b hb => hb.elim)), fun b hb => ?_⟩
      rcases hE2.new b hb with h9 | h9
      · exact h9.elim
      · have := HB1.out.size
        omega
    clear hI2 hE2
    go_wp2_with fail
    obtain ⟨mb2, L2, hD2⟩ := HI2.out
    refine (pdskArm_any hD2 (p : Int) 0 (Go.WalkArith.wf_u64 (by have := HPW.out; omega)) (by decide)).mono ?_
    rintro e w3 ⟨O3, rfl, hI3, hE3⟩
    have HI3 : Hid (IsQ w3 O3 d (armS C p)) := by
      refine ⟨?_, Nat.zero_le _⟩
      have e9 : armS C p = { newS C with armed := true, left := ((p : Int)).toNat, keep := 0 } := by unfold armS; rw [Int.toNat_natCast]
      rw [e9]
      exact hI3
    have HBO3 : Hid (Below w.heap.size w w3 ∧ ∀ b, O3 b → w.heap.size ≤ b) :=
      ⟨HBO2.out.1.trans (hE3.below HBO2.out.1.size HBO2.out.2), hE3.floor HBO2.out.1.size HBO2.out.2⟩
    clear hI3 hE3 hD2
    go_wp2_with fail
    refine (HM.out w w3 O3 d (armS C p) a len cap l HO.out HLF.out HBO3.out.1 HBO3.out.2 HI3.out (Nat.zero_le _)).mono ?_
    rintro e w4 ⟨O4, rfl, hI4, hE4⟩
    have HI4 := Lib.hid hI4
    have HBO4 : Hid (Below w.heap.size w w4 ∧ ∀ b, O4 b → w.heap.size ≤ b) :=
      ⟨HBO3.out.1.trans (hE4.below HBO3.out.1.size HBO3.out.2), hE4.floor HBO3.out.1.size HBO3.out.2⟩
    have hO4 := HO.out.below HBO4.out.1
    have HFT4 := Lib.hid (fit_calls hO4 HLF.out)
    have HRC := Lib.hid (rcalls_any hO4 (by omega))
    obtain ⟨cs, hcs⟩ : ∃ cs, callsO l = cs := ⟨_, rfl⟩
    rw [hcs] at HI4 HFT4 HRC ⊢
    have HCS := Lib.hid hcs
    obtain ⟨stE, want0, hmust⟩ : ∃ stE want0, mustS (armS C p) cs = (stE, want0) := ⟨_, _, rfl⟩
    rw [hmust] at HI4 ⊢
    simp only at HI4 ⊢
    have HMU := Lib.hid hmust
    clear hI4 hE4 hO4 hcs hmust HM HI3 HBO3 HI2 HBO2
    go_wp2_with fail
    refine HRC.out.mono ?_
    rintro e w5 ⟨A5, c5, rfl, hO5, hb5⟩
    have HO5 := Lib.hid hO5
    have HFT5 := Lib.hid (HFT4.out.later hb5)
    obtain ⟨m5, hm5⟩ : ∃ m5, cs.length = m5 := ⟨_, rfl⟩
    rw [hm5]
    have HM5 := Lib.hid hm5
    have hm60 : m5 ≤ 60 := by rw [← hm5]; exact HFT4.out.1
    have HI5 : Hid (IsQ w5 O4 d stE) := by
      obtain ⟨⟨mb4, L4, h4⟩, hz4⟩ := HI4.out
      exact ⟨⟨mb4, L4, h4.below hb5⟩, hz4⟩
    have HBO5 : Hid (Below w.heap.size w w5) := HBO4.out.1.trans (hb5.mono HBO4.out.1.size)
    -- the reference's disk
    obtain ⟨K, hK⟩ : ∃ K, (newS C).cap = K := ⟨_, rfl⟩
    have hKd : K = if C < 0 then 0 else C := hK.symm
    have hx1 : (if C < 0 then (0 : Int) else C) = K := hKd.symm
    have hx2 : (if C < 0 then Value.int .i64 0 else Value.int .i64 C) = Value.int .i64 K := by rw [hKd]; split <;> rfl
    have hx3 : max C 0 = K := by rw [hKd]; split <;> omega
    obtain ⟨w6, hw6⟩ : ∃ w6, w5.alloc (.cells #[.slice none 0 0, .int .i64 K, .int .u64 0, .bool true, .int .u64 (p : Int), .int .i64 0, .bool false] 39) = w6 := ⟨_, rfl⟩
    have hB6 : Bk w6 w5.heap.size 39 (rcells none 0 0 (armS C p)) := by
      rw [← hw6, ← hK]
      exact Bk.new w5 _ _
    have hb6 : Below w5.heap.size w5 w6 := by rw [← hw6]; exact (Below.refl _ w5).alloc (Nat.le_refl _) _
    have HR6 : Hid (IsR w6 w5.heap.size (armS C p)) := ⟨none, 0, [], RDsk.armed HCW.out HPW.out hB6⟩
    have HB6 := Lib.hid hb6
    clear hO5 hb5 hm5 hK hKd hB6 hb6 HI4 HFT4 HRC
    go_wp2_with fail
    clear hx1 hx2 hx3
    go_loopw [11, 12] (fun wv iv wr => ∃ (i : Nat) (want : Int) (st : DSt), iv = .int .i64 (i : Int) ∧ wv = .int .i64 want ∧ i ≤ m5 ∧ Hid (IsR wr w5.heap.size st ∧ Came (armS C p) cs i st want ∧ Below w5.heap.size w5 wr)) (fun _ iv _ => m5 - (intOf iv).toNat)
    case atStart => exact ⟨0, 0, armS C p, rfl, rfl, Nat.zero_le _, HR6.out, ⟨rfl, Nat.zero_le _⟩, HB6.out⟩
    case round =>
      obtain ⟨i, want, st, rfl, rfl, him, HI⟩ := hrel
      by_cases hgo : i < m5 ∧ want = 0
      · obtain ⟨hlt, rfl⟩ := hgo
        have hll : i < cs.length := by rw [HM5.out]; exact hlt
        obtain ⟨hr, hcame, hbr⟩ := HI.out
        obtain ⟨b, o, rfl, hb, hcell⟩ : ∃ b o, A5 = some ⟨b, o, none⟩ ∧ b < w5.heap.size ∧ ∀ (i : Nat) (h : i < cs.length) (j : Nat) v, cs[i].cells[j]? = some v → w5.cell? ⟨b, o + (i * 4 + j), none⟩ = some v := by
          rcases HO5.out.2.2.2.2 with h | h
          · rw [h] at hll; simp at hll
          · exact h
        have HFG : Hid (OpFit w5 w5.heap.size cs[i]) := HFT5.out.2 _ (List.getElem_mem hll)
        have hdl : cs[i].data.length ≤ 200 := by rw [HFG.out.len]; exact HFG.out.n
        have HST := Lib.hid (hcame.step hll hdl)
        have hsz : sizeF st.files ≤ 65536 := by have := hcame.2; omega
        obtain ⟨g, hg⟩ : ∃ g, cs[i] = g := ⟨_, rfl⟩
        rw [hg] at HFG HST
        have c0 : wr.cell? ⟨b, o + i * 4, none⟩ = some (.int .i64 g.kind) := by rw [hbr.cell hb, ← hg]; exact hcell i hll 0 _ rfl
        have c1 : wr.cell? ⟨b, o + i * 4 + 1, none⟩ = some (.string g.name) := by rw [hbr.cell hb, ← hg, Nat.add_assoc]; exact hcell i hll 1 _ rfl
        have c2 : wr.cell? ⟨b, o + i * 4 + 2, none⟩ = some (.string g.to) := by rw [hbr.cell hb, ← hg, Nat.add_assoc]; exact hcell i hll 2 _ rfl
        have c3 : wr.cell? ⟨b, o + i * 4 + 3, none⟩ = some (.slice g.A g.n g.c) := by rw [hbr.cell hb, ← hg, Nat.add_assoc]; exact hcell i hll 3 _ rfl
        have b1 : (i : Int) < (m5 : Int) := by omega
        have hw : IntKind.i64.wrap ((i : Int) + 1) = ((i + 1 : Nat) : Int) := by rw [IntKind.wrap_i64]; omega
        have HSZ := Lib.hid hsz
        clear hcell hll hg hr hcame hbr hdl hsz
        go_wp2_with fail
        refine (rstep_any g wr).mono ?_
        rintro e w7 ⟨rfl, hb7⟩
        obtain ⟨⟨A7, d7, l7, hr7⟩, hcame, hbr⟩ := HI.out
        have hbr7 := hbr.trans (hb7.mono hbr.size)
        have HDO := Lib.hid (rop_any (hr7.grown hb7) g (HFG.out.later hbr7 (Nat.le_refl _)) HSZ.out)
        have HBR7 := Lib.hid hbr7
        clear hr7 hbr hbr7 hb7 hcame c0 c1 c2 c3
        go_wp2_with fail
        refine HDO.out.mono ?_
        rintro e w8 ⟨rfl, hI8, hg8⟩
        have HR8 : Hid (IsR w8 w5.heap.size (opS st g).1 ∧ Came (armS C p) cs (i + 1) (opS st g).1 (opS st g).2 ∧ Below w5.heap.size w5 w8) := by
          refine ⟨hI8, HST.out, ?_⟩
          have h9 := HBR7.out
          exact ⟨hg8.os.trans h9.os, hg8.tape.trans h9.tape, hg8.output.trans h9.output, Nat.le_trans h9.size hg8.size, fun k hk => (hg8.block k (by have := h9.size; omega) (by simp; omega)).trans (h9.block k hk)⟩
        clear hI8 hg8
        go_wp2_with fail
        go_roundw
        case rel => exact ⟨i + 1, _, (opS st g).1, by go_num, rfl, by omega, HR8⟩
        case measure => simp [intOf]; omega
      · obtain ⟨hr, hcame, hbr⟩ := HI.out
        have hdone := hcame.done (fun h0 => by rw [HM5.out]; have : ¬ i < m5 := fun h1 => hgo ⟨h1, h0⟩; omega)
        rw [HMU.out] at hdone
        obtain ⟨rfl, rfl⟩ : stE = st ∧ want0 = want := by simpa using hdone
        have hE : (¬ i < m5) ∨ i < m5 ∧ ((want0 == 0) = false) := by
          by_cases h1 : i < m5
          · exact .inr ⟨h1, by rw [beq_eq_false_iff_ne]; exact fun h0 => hgo ⟨h1, h0⟩⟩
          · exact .inl h1
        obtain ⟨A9, c9, l9, h9⟩ := hr
        have HI9 : Hid (IsQ wr O4 d stE) := by
          obtain ⟨⟨mb4, L4, h4⟩, hz4⟩ := HI5.out
          exact ⟨⟨mb4, L4, h4.below hbr⟩, hz4⟩
        have HZ9 : Hid (sizeF stE.files ≤ 65536) := by show _ ≤ _; have := hcame.2; omega
        have H9 := Lib.hid h9
        have HBR := Lib.hid hbr
        have k0 : ∀ V : World, Below wr.heap.size wr V → V.cell? ⟨w5.heap.size, 0, none⟩ = some (.slice A9 l9.length c9) := fun V hV => (h9.grown hV).blk.cellAt 0 (show 0 < 7 by decide)
        have k6 : ∀ V : World, Below wr.heap.size wr V → V.cell? ⟨w5.heap.size, 6, none⟩ = some (.bool stE.down) := fun V hV => (h9.grown hV).blk.cellAt 6 (show 6 < 7 by decide)
        have HFI := Lib.hid (fun (V : World) (hV : Below wr.heap.size wr V) => show Calls Try.prog 16 #[dptr d] V fun e w' => ∃ v m, e = .returned v ∧ FSl w' (fun _ => True) v m ∧ m.map Fil.pf = stE.files ∧ Below V.heap.size V w' from by
          obtain ⟨⟨mb4, L4, h4⟩, hz4⟩ := HI9.out
          refine (pdskFiles_any (h4.below hV) hz4).mono ?_
          rintro e w' ⟨A, c, m, rfl, hF, h1, h2, h3, h5⟩
          exact ⟨_, m, rfl, ⟨A, c, rfl, hF.imp fun _ _ => trivial, h1, h2⟩, h3, h5⟩)
        have HDN := Lib.hid (fun (V : World) (hV : Below wr.heap.size wr V) => show Calls Try.prog 17 #[dptr d] V fun e w' => e = .returned (.bool stE.down) ∧ V = w' from by
          obtain ⟨⟨mb4, L4, h4⟩, hz4⟩ := HI9.out
          exact pdskDown_any (h4.below hV))
        have HL9 : Hid (∀ V : World, Below wr.heap.size wr V → FSl V (fun _ => True) (.slice A9 l9.length c9) l9) := fun V hV => ⟨A9, c9, rfl, ((h9.grown hV).files).imp fun _ _ => trivial, h9.room, h9.max⟩
        have HPF9 : Hid (l9.map Fil.pf = stE.files) := h9.pf
        have hww : (want0 == want0) = true := by simp
        obtain ⟨dn, hdn⟩ : ∃ dn, stE.down = dn := ⟨_, rfl⟩
        rw [hdn] at k6 HDN
        clear h9 hbr hcame hdone hdn hgo HR6 HB6 HI HI5
        rcases hE with hE | ⟨hE, hE2⟩ <;> cases dn
        all_goals
          go_wp2_with fail
          go_region_held3 (fun V => Below wr.heap.size wr V) (first | assumption | exact below_drewN (Below.refl _ _) 1) (first
            | (go_at_call 16; (with_reducible refine (HFI.out _ ?_).mono ?_); exact below_drewN (Below.refl _ _) 1; rintro e w10 ⟨v10, m10, rfl, hF10, hp10, hb10⟩; have hb10 : Below wr.heap.size wr w10 := (below_drewN (Below.refl _ _) 1).trans hb10)
            | (go_at_call 7; (with_reducible refine (rsameF_any hF10 (HL9.out _ hb10) ?_ ?_).mono ?_); exact hp10.trans HPF9.out.symm; exact (by rw [hp10]; exact HZ9.out); rintro e w11 ⟨rfl, hb11⟩; have hb11 : Below wr.heap.size wr w11 := hb10.trans (hb11.mono hb10.size))
            | (go_at_call 17; (with_reducible refine (HDN.out _ hb11).mono ?_); rintro e w12 ⟨rfl, rfl⟩)
            | (go_at_call 6; (with_reducible refine (HW.out _).mono ?_); rintro e w13 ⟨rfl, hb13⟩; have hb13 : Below wr.heap.size wr w13 := hb11.trans (hb13.mono hb11.size)))
          all_goals
            go_wp2_with fail
            go_ret
            exact ⟨rfl, HBO5.out.trans ((HBR.out.trans (hb13.mono HBR.out.size)).mono HBO5.out.size)⟩
end Go.Proofs.Ytjdjidlopmanbaa
