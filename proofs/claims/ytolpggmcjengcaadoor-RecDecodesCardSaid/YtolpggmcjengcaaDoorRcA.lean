/-
  rec.eachField, whatever function it tells; rec.isKind, rec.inRange, rec.priced.
-/
import Derived.Test.YtolpggmcjengcaaDoorLRec11
import Derived.Shelf.Abstract
namespace Go.Proofs.YtolpggmcjengcaaDoor
open Go.RowKit
set_option linter.unusedVariables false

theorem six {w : World} {g : Nat} {T : TypeId} {a b c d e f : Value} (h : Bk w g T [a, b, c, d, e, f]) :
    w.cell? ⟨g, 0, none⟩ = some a ∧ w.cell? ⟨g, 1, none⟩ = some b ∧ w.cell? ⟨g, 2, none⟩ = some c ∧ w.cell? ⟨g, 3, none⟩ = some d ∧ w.cell? ⟨g, 4, none⟩ = some e ∧ w.cell? ⟨g, 5, none⟩ = some f :=
  ⟨h.cellAt 0 (show 0 < 6 by decide), h.cellAt 1 (show 1 < 6 by decide), h.cellAt 2 (show 2 < 6 by decide), h.cellAt 3 (show 3 < 6 by decide), h.cellAt 4 (show 4 < 6 by decide), h.cellAt 5 (show 5 < 6 by decide)⟩

set_option maxRecDepth 100000 in
set_option maxHeartbeats 1600000 in
theorem each_any (hH : HasLaw) (fg : Nat) (ef : ∀ args w, (callFunc fg args).run Tryd.prog w = .ok (.enter fg args) w) (b : Nat) (cap : Option Addr) (kind : Int) (w : World) (hk : (Lit.int .i64 kind).wf = true)
    (hc : w.cell? ⟨b, 1, none⟩ = some (.int .i64 kind)) (I1 I2 I3 I4 : World → Prop) (h0 : ∀ V, Below w.heap.size w V → I1 V)
    (h1 : ∀ V, I1 V → Calls Tryd.prog fg #[.pointer (some ⟨b, 3, none⟩), .bool (hasLe kind), .pointer cap] V fun e V' => e = .returned (.tuple #[]) ∧ I2 V')
    (h2 : ∀ V, I2 V → Calls Tryd.prog fg #[.pointer (some ⟨b, 4, none⟩), .bool (hasNu kind), .pointer cap] V fun e V' => e = .returned (.tuple #[]) ∧ I3 V')
    (h3 : ∀ V, I3 V → Calls Tryd.prog fg #[.pointer (some ⟨b, 5, none⟩), .bool (hasBi kind), .pointer cap] V fun e V' => e = .returned (.tuple #[]) ∧ I4 V') :
    Calls Tryd.prog 24 #[.pointer (some ⟨b, 0, none⟩), .func (.func fg) #[] #[.pointer cap]] w fun e w' => e = .returned (.tuple #[]) ∧ I4 w' := by
  have HHS := Lib.hid (hH kind w hk)
  have H0 := Lib.hid h0
  have H1 := Lib.hid h1
  have H2 := Lib.hid h2
  have H3 := Lib.hid h3
  clear h0 h1 h2 h3 hH hk
  go_enter Tryd.func24, Tryd.ntmps24
  go_wp2_with fail
  refine HHS.out.mono ?_
  rintro e w1 ⟨rfl, hb1⟩
  have J1 := Lib.hid (H0.out w1 hb1)
  clear hb1 hc
  go_wp2_with (first | (go_at_fn fg; first | (refine (H3.out _ J3.out).mono ?_; rintro e' w4 ⟨rfl, j4⟩; have J4 := Lib.hid j4; clear j4) | (refine (H2.out _ J2.out).mono ?_; rintro e' w3 ⟨rfl, j3⟩; have J3 := Lib.hid j3; clear j3) | (refine (H1.out _ J1.out).mono ?_; rintro e' w2 ⟨rfl, j2⟩; have J2 := Lib.hid j2; clear j2)))
  (first | go_end0 | (refine bodyPost_ret (results_none rfl _ _ _) rfl ?_))
  exact ⟨rfl, J4.out⟩

set_option maxRecDepth 100000 in
theorem isKind_any (k : Int) (w : World) : Calls Tryd.prog 15 #[.int .i64 k] w fun e w' => e = .returned (.bool (kindR k)) ∧ w = w' := by
  obtain ⟨b1, hb1⟩ : ∃ b, decide (1 ≤ k) = b := ⟨_, rfl⟩
  obtain ⟨b2, hb2⟩ : ∃ b, decide (k ≤ 5) = b := ⟨_, rfl⟩
  have HF : Hid (kindR k = (b1 && b2)) := by show _ = _; unfold kindR; rw [hb1, hb2]
  cases b1 <;> cases b2 <;>
  · go_enter Tryd.func15, Tryd.ntmps15
    go_wp2_with fail
    go_ret
    exact ⟨by rw [HF.out]; rfl, rfl⟩
theorem price_good {b : Nat} (hb : b < 18446744073709551616) (h : cls b = 4 ∨ cls b = 5) : errOf b = 0 ∧ chkOf b = b := by
  have hI : partsI b = true := by unfold partsI; rw [decide_eq_true_iff]; omega
  unfold errOf chkOf
  rw [hI, if_pos rfl, if_pos rfl]
  unfold canN
  rw [if_neg (by omega), if_neg (by omega)]
  exact ⟨rfl, rfl⟩
theorem price_bad {b : Nat} (hb : b < 18446744073709551616) (h : ¬ (cls b = 4 ∨ cls b = 5)) : errOf b ≠ 0 ∨ (errOf b = 0 ∧ chkOf b ≠ b) := by
  cases hI : partsI b with
  | false => left; unfold errOf; rw [hI]; decide
  | true =>
    right
    have h3 : cls b = 3 := by
      unfold partsI at hI
      rw [decide_eq_true_iff] at hI
      omega
    have hw := cls_where hb
    refine ⟨by unfold errOf; rw [hI]; rfl, ?_⟩
    unfold chkOf canN
    rw [hI, if_pos rfl, if_neg (by omega), if_pos h3]
    omega

theorem gt0 (n : Nat) : (0 < n) = ((!decide (n = 0)) = true) := by
  by_cases h : n = 0
  · subst h; simp
  · simp [h]; omega
theorem not_of_false {p : Prop} (h : p = False) : ¬ p := by rw [h]; exact id
theorem ne3 (k : Int) : (k != 3) = !decide (k = 3) := by
  by_cases h : k = 3
  · subst h; rfl
  · rw [decide_eq_false h, bne_iff_ne.2 h]; rfl

set_option maxRecDepth 100000 in
set_option maxHeartbeats 3200000 in
theorem inRange_any (hH : HasLaw) (r : RecV) (w : World) (hr : r.Ok) : Calls Tryd.prog 17 #[r.val] w fun e w' => e = .returned (.bool (!rangeR r)) ∧ Below w.heap.size w w' := by
  obtain ⟨seq, kind, name, lease, n, bits⟩ := r
  obtain ⟨o1, o2, o3, o4, o5, o6⟩ := hr
  simp only at o2
  show Calls Tryd.prog 17 #[.agg #[.int .u64 (seq : Int), .int .i64 kind, .string name, .int .u64 (lease : Int), .int .u64 (n : Int), .int .u64 (bits : Int)]] w fun e w' => e = .returned (.bool (!rangeR ⟨seq, kind, name, lease, n, bits⟩)) ∧ Below w.heap.size w w'
  obtain ⟨wb, hwb⟩ : ∃ wb, w.alloc (.cells #[.int .u64 (seq : Int), .int .i64 kind, .string name, .int .u64 (lease : Int), .int .u64 (n : Int), .int .u64 (bits : Int)] 24) = wb := ⟨_, rfl⟩
  have HK : Hid (Bk wb w.heap.size 24 [.int .u64 (seq : Int), .int .i64 kind, .string name, .int .u64 (lease : Int), .int .u64 (n : Int), .int .u64 (bits : Int)]) := by show Bk _ _ _ _; rw [← hwb]; exact Bk.new w _ _
  have HBB : Hid (Below w.heap.size w wb) := by show Below _ _ _; rw [← hwb]; exact (Below.refl _ w).alloc (Nat.le_refl _) _
  obtain ⟨s, hs⟩ : ∃ s, decide (seq = 0) = s := ⟨_, rfl⟩
  obtain ⟨l, hl⟩ : ∃ s, decide (lease = 0) = s := ⟨_, rfl⟩
  obtain ⟨z, hz⟩ : ∃ s, decide (n = 0) = s := ⟨_, rfl⟩
  obtain ⟨k3, hk3⟩ : ∃ s, decide (kind = 3) = s := ⟨_, rfl⟩
  have HHS := Lib.hid (fun V => hH kind V o2)
  have HF : Hid (rangeR ⟨seq, kind, name, lease, n, bits⟩ = (s || (hasLe kind && l) || (k3 && z))) := by show _ = _; unfold rangeR; simp only; rw [hs, hl, hz, hk3]
  obtain ⟨hL, hhL⟩ : ∃ s, hasLe kind = s := ⟨_, rfl⟩
  rw [hhL] at HHS HF
  have gs := gt0 seq
  have gl := gt0 lease
  have gz := gt0 n
  have gk := ne3 kind
  rw [hs] at gs
  rw [hl] at gl
  rw [hz] at gz
  rw [hk3] at gk
  clear hH hs hl hz hk3 hhL o1 o2 o3 o4 o5 o6
  obtain ⟨y0, y1, y2, y3, y4, y5⟩ := six HK.out
  have hcase : s = true ∨ (s = false ∧ ((hL = true ∧ l = true) ∨ (hL = false ∨ (hL = true ∧ l = false)) ∧ (k3 = false ∨ (k3 = true ∧ (z = true ∨ z = false))))) := by
    cases s <;> cases hL <;> cases l <;> cases k3 <;> cases z <;> simp
  rcases hcase with rfl | ⟨rfl, ⟨rfl, rfl⟩ | ⟨rfl | ⟨rfl, rfl⟩, rfl | ⟨rfl, rfl | rfl⟩⟩⟩ <;>
  · simp only [Bool.not_true, Bool.not_false, eq_self, Bool.false_eq_true] at gs gl gz gk
    (try replace gs := not_of_false gs)
    (try replace gl := not_of_false gl)
    (try replace gz := not_of_false gz)
    (try replace gs := of_eq_true gs)
    (try replace gl := of_eq_true gl)
    (try replace gz := of_eq_true gz)
    go_enter Tryd.func17, Tryd.ntmps17
    go_wp2_with fail
    refine (HHS.out _).mono ?_
    rintro e w1 ⟨rfl, hb1⟩
    have HB1 : Hid (Below w.heap.size w w1) := HBB.out.trans (hb1.mono HBB.out.size)
    clear y0 y1 y2 y3 y4 y5
    obtain ⟨y0, y1, y2, y3, y4, y5⟩ := six (HK.out.below hb1 HK.out.lt)
    clear hb1
    go_wp2_with fail
    go_ret
    exact ⟨by rw [HF.out]; (first | rfl | (simp; done)), HB1.out⟩

set_option maxRecDepth 100000 in
set_option maxHeartbeats 3200000 in
theorem priced_any (hH : HasLaw) (r : RecV) (w : World) (hr : r.Ok) (hT : Dbj w) : Calls Tryd.prog 18 #[r.val] w fun e w' => e = .returned (.bool (!priceR r)) ∧ Below w.heap.size w w' := by
  obtain ⟨seq, kind, name, lease, n, bits⟩ := r
  obtain ⟨o1, o2, o3, o4, o5, o6⟩ := hr
  simp only at o2 o6
  show Calls Tryd.prog 18 #[.agg #[.int .u64 (seq : Int), .int .i64 kind, .string name, .int .u64 (lease : Int), .int .u64 (n : Int), .int .u64 (bits : Int)]] w fun e w' => e = .returned (.bool (!priceR ⟨seq, kind, name, lease, n, bits⟩)) ∧ Below w.heap.size w w'
  obtain ⟨wb, hwb⟩ : ∃ wb, w.alloc (.cells #[.int .u64 (seq : Int), .int .i64 kind, .string name, .int .u64 (lease : Int), .int .u64 (n : Int), .int .u64 (bits : Int)] 24) = wb := ⟨_, rfl⟩
  have HK : Hid (Bk wb w.heap.size 24 [.int .u64 (seq : Int), .int .i64 kind, .string name, .int .u64 (lease : Int), .int .u64 (n : Int), .int .u64 (bits : Int)]) := by show Bk _ _ _ _; rw [← hwb]; exact Bk.new w _ _
  have HBB : Hid (Below w.heap.size w wb) := by show Below _ _ _; rw [← hwb]; exact (Below.refl _ w).alloc (Nat.le_refl _) _
  have HHS := Lib.hid (fun V => hH kind V o2)
  have HPC := Lib.hid (fun (V : World) (hV : Below wb.heap.size wb V) => check_any bits V o6 ((hT.under HBB.out).under hV))
  have HF : Hid (priceR ⟨seq, kind, name, lease, n, bits⟩ = (hasBi kind && !(decide (cls bits = 4) || decide (cls bits = 5)))) := rfl
  obtain ⟨hB, hhB⟩ : ∃ s, hasBi kind = s := ⟨_, rfl⟩
  rw [hhB] at HHS HF
  obtain ⟨y0, y1, y2, y3, y4, y5⟩ := six HK.out
  by_cases hgood : cls bits = 4 ∨ cls bits = 5
  · have hG := price_good o6 hgood
    rw [hG.1, hG.2] at HPC
    have HG : Hid ((decide (cls bits = 4) || decide (cls bits = 5)) = true) := by show _ = _; simpa using hgood
    clear hH hhB o1 o2 o3 o4 o5 o6 hG hgood hT
    cases hB with
    | false =>
      go_enter Tryd.func18, Tryd.ntmps18
      go_wp2_with fail
      refine (HHS.out _).mono ?_
      rintro e w1 ⟨rfl, hb1⟩
      have HB1 : Hid (Below w.heap.size w w1) := HBB.out.trans (hb1.mono HBB.out.size)
      clear y0 y1 y2 y3 y4 y5 hb1
      go_wp2_with fail
      go_ret
      exact ⟨by rw [HF.out]; rfl, HB1.out⟩
    | true =>
      go_enter Tryd.func18, Tryd.ntmps18
      go_wp2_with fail
      refine (HHS.out _).mono ?_
      rintro e w1 ⟨rfl, hb1⟩
      have HB1 : Hid (Below w.heap.size w w1) := HBB.out.trans (hb1.mono HBB.out.size)
      have HP1 := Lib.hid (HPC.out w1 hb1)
      clear y0 y1 y2 y3 y4 y5
      obtain ⟨y0, y1, y2, y3, y4, y5⟩ := six (HK.out.below hb1 HK.out.lt)
      clear hb1
      go_wp2_with fail
      refine HP1.out.mono ?_
      rintro e w2 ⟨rfl, rfl⟩
      go_wp2_with fail
      go_ret
      exact ⟨by rw [HF.out, HG.out]; rfl, HB1.out⟩
  · have hG := price_bad o6 hgood
    have HG : Hid ((decide (cls bits = 4) || decide (cls bits = 5)) = false) := by show _ = _; simpa using hgood
    obtain ⟨er, her⟩ : ∃ er, errOf bits = er := ⟨_, rfl⟩
    obtain ⟨ck, hck⟩ : ∃ ck, chkOf bits = ck := ⟨_, rfl⟩
    rw [her, hck] at HPC hG
    have hcase : (er == 0) = false ∨ (er = 0 ∧ ((ck : Int) == (bits : Int)) = false) := by
      rcases hG with h | ⟨h, h2⟩
      · exact .inl (beq_eq_false_iff_ne.2 h)
      · exact .inr ⟨h, by rw [beq_eq_false_iff_ne]; omega⟩
    clear hH hhB o1 o2 o3 o4 o5 o6 hG hgood hT her hck
    cases hB with
    | false =>
      go_enter Tryd.func18, Tryd.ntmps18
      go_wp2_with fail
      refine (HHS.out _).mono ?_
      rintro e w1 ⟨rfl, hb1⟩
      have HB1 : Hid (Below w.heap.size w w1) := HBB.out.trans (hb1.mono HBB.out.size)
      clear y0 y1 y2 y3 y4 y5 hb1
      go_wp2_with fail
      go_ret
      exact ⟨by rw [HF.out]; rfl, HB1.out⟩
    | true =>
      rcases hcase with g0 | ⟨rfl, g1⟩ <;>
      · go_enter Tryd.func18, Tryd.ntmps18
        go_wp2_with fail
        refine (HHS.out _).mono ?_
        rintro e w1 ⟨rfl, hb1⟩
        have HB1 : Hid (Below w.heap.size w w1) := HBB.out.trans (hb1.mono HBB.out.size)
        have HP1 := Lib.hid (HPC.out w1 hb1)
        clear y0 y1 y2 y3 y4 y5
        obtain ⟨y0, y1, y2, y3, y4, y5⟩ := six (HK.out.below hb1 HK.out.lt)
        clear hb1
        go_wp2_with fail
        refine HP1.out.mono ?_
        rintro e w2 ⟨rfl, rfl⟩
        go_wp2_with fail
        go_ret
        exact ⟨by rw [HF.out, HG.out]; rfl, HB1.out⟩
end Go.Proofs.YtolpggmcjengcaaDoor
