/-
  rec.onlyItsFields, rec.Check.
-/
import Derived.Test.YtolpggmcjengcaaDoorRcA
namespace Go.Proofs.YtolpggmcjengcaaDoor
open Go.RowKit
set_option linter.unusedVariables false

set_option maxRecDepth 100000 in
set_option maxHeartbeats 1600000 in
/-- The closure that looks at one field. -/
theorem onlyIts_any (b b1 o v : Nat) (is s : Bool) (W : World) (hc : W.cell? ⟨b, o, none⟩ = some (.int .u64 (v : Int))) (h1 : Bk W b1 4 [.bool s]) :
    Calls Tryd.prog 34 #[.pointer (some ⟨b, o, none⟩), .bool is, .pointer (some ⟨b1, 0, none⟩)] W fun e W' => e = .returned (.tuple #[]) ∧ Bk W' b1 4 [.bool (s && (is || decide (v = 0)))] ∧ W.grownBy W' (some b1) := by
  have c1 : W.cell? ⟨b1, 0, none⟩ = some (.bool s) := h1.cellAt 0 (show 0 < 1 by decide)
  have z1 : W.frozen? ⟨b1, 0, none⟩ = false := h1.frozen 0
  have H1 := Lib.hid h1
  have HS : Hid (Bk (W.setCell ⟨b1, 0, none⟩ (.bool false)) b1 4 [.bool false] ∧ W.grownBy (W.setCell ⟨b1, 0, none⟩ (.bool false)) (some b1)) := ⟨h1.set_ 0 _, grown_set _ _ _ _⟩
  clear h1
  cases is with
  | true =>
    have HF : Hid ((s && (true || decide (v = 0))) = s) := by show _ = _; simp
    go_enter Tryd.func34, Tryd.ntmps34
    go_wp2_with fail
    (first | go_end0 | (refine bodyPost_ret (results_none rfl _ _ _) rfl ?_))
    exact ⟨rfl, by rw [HF.out]; exact H1.out, World.grownBy.refl _ _⟩
  | false =>
    by_cases hv : v = 0
    · subst hv
      have HF : Hid ((s && (false || decide (0 = 0))) = s) := by show _ = _; simp
      go_enter Tryd.func34, Tryd.ntmps34
      go_wp2_with fail
      (first | go_end0 | (refine bodyPost_ret (results_none rfl _ _ _) rfl ?_))
      exact ⟨rfl, by (first | (rw [HF.out]; exact H1.out) | (simpa using H1.out)), World.grownBy.refl _ _⟩
    · have HF : Hid ((s && (false || decide (v = 0))) = false) := by show _ = _; simp [hv]
      have g0 := ne0 hv
      clear hv
      go_enter Tryd.func34, Tryd.ntmps34
      go_wp2_with fail
      (first | go_end0 | (refine bodyPost_ret (results_none rfl _ _ _) rfl ?_))
      exact ⟨rfl, by rw [HF.out]; exact HS.out.1, HS.out.2⟩

/-- Where a record and what was found of it lie. -/
def OnlyAt (w : World) (b b1 : Nat) (r : RecV) (s : Bool) (V : World) : Prop := Bk V b 24 r.cells ∧ Bk V b1 4 [.bool s] ∧ Below w.heap.size w V
theorem OnlyAt.below {w V V' : World} {b b1 : Nat} {r : RecV} {s : Bool} (h : OnlyAt w b b1 r s V) (hb : Below V.heap.size V V') : OnlyAt w b b1 r s V' :=
  ⟨h.1.below hb h.1.lt, h.2.1.below hb h.2.1.lt, h.2.2.trans (hb.mono h.2.2.size)⟩
theorem OnlyAt.step {w V V' : World} {b b1 : Nat} {r : RecV} {s t : Bool} (h : OnlyAt w b b1 r s V) (hne : b ≠ b1) (hw : w.heap.size ≤ b1) (h1 : Bk V' b1 4 [.bool t]) (hg : V.grownBy V' (some b1)) : OnlyAt w b b1 r t V' :=
  ⟨h.1.grown hg (fun e => by cases e; exact hne rfl), h1, h.2.2.grown hg h.2.2.size fun k hk => by cases hk; exact hw⟩

set_option maxRecDepth 100000 in
set_option maxHeartbeats 1600000 in
theorem onlyItsFields_any (hH : HasLaw) (r : RecV) (w : World) (hr : r.Ok) : Calls Tryd.prog 19 #[r.val] w fun e w' => e = .returned (.bool (!formR r)) ∧ Below w.heap.size w w' := by
  obtain ⟨wb, hwb⟩ : ∃ wb, w.alloc (.cells r.cells.toArray 24) = wb := ⟨_, rfl⟩
  have hK : Bk wb w.heap.size 24 r.cells := by rw [← hwb]; exact Bk.new w _ _
  have hbb : Below w.heap.size w wb := by rw [← hwb]; exact (Below.refl _ w).alloc (Nat.le_refl _) _
  obtain ⟨g, hg⟩ : ∃ g, wb.heap.size = g := ⟨_, rfl⟩
  obtain ⟨wa, hwa⟩ : ∃ wa, wb.alloc (.cells #[.bool false] 4) = wa := ⟨_, rfl⟩
  have hKA : Bk wa g 4 [.bool false] := by rw [← hwa, ← hg]; exact Bk.new wb _ _
  have ca : wa.cell? ⟨g, 0, none⟩ = some (.bool false) := hKA.cellAt 0 (show 0 < 1 by decide)
  have za : wa.frozen? ⟨g, 0, none⟩ = false := hKA.frozen 0
  have hba : Below wb.heap.size wb wa := by rw [← hwa]; exact (Below.refl _ wb).alloc (Nat.le_refl _) _
  have hne : w.heap.size ≠ g := by have := hK.lt; omega
  have hge : w.heap.size ≤ g := by rw [← hg]; exact hbb.size
  have hA : OnlyAt w w.heap.size g r false wa := ⟨hK.below hba hK.lt, hKA, hbb.trans (hba.mono hbb.size)⟩
  obtain ⟨w1, hw1⟩ : ∃ w1, wa.setCell ⟨g, 0, none⟩ (.bool true) = w1 := ⟨_, rfl⟩
  have h1 : OnlyAt w w.heap.size g r true w1 := hA.step hne hge (by rw [← hw1]; exact hKA.set_ 0 _) (by rw [← hw1]; exact grown_set _ _ _ _)
  have HE : Hid (Calls Tryd.prog 24 #[.pointer (some ⟨w.heap.size, 0, none⟩), .func (.func 34) #[] #[.pointer (some ⟨g, 0, none⟩)]] w1 fun e V => e = .returned (.tuple #[]) ∧ OnlyAt w w.heap.size g r (!formR r) V) := by
    have hend : (!formR r) = (((true && (hasLe r.kind || decide (r.lease = 0))) && (hasNu r.kind || decide (r.n = 0))) && (hasBi r.kind || decide (r.bits = 0))) := by
      unfold formR
      cases hasLe r.kind <;> cases hasNu r.kind <;> cases hasBi r.kind <;> cases decide (r.lease = 0) <;> cases decide (r.n = 0) <;> cases decide (r.bits = 0) <;> rfl
    rw [hend]
    refine each_any hH 34 (enters_of Tryd.func34 (by kernel_rfl) rfl) w.heap.size (some ⟨g, 0, none⟩) r.kind w1 hr.kind (h1.1.cellAt 1 (show 1 < 6 by decide))
      (fun V => OnlyAt w w.heap.size g r true V) (fun V => OnlyAt w w.heap.size g r (true && (hasLe r.kind || decide (r.lease = 0))) V)
      (fun V => OnlyAt w w.heap.size g r ((true && (hasLe r.kind || decide (r.lease = 0))) && (hasNu r.kind || decide (r.n = 0))) V) _ (fun V hV => h1.below hV) ?_ ?_ ?_
    · intro V hV
      exact (onlyIts_any w.heap.size g 3 r.lease (hasLe r.kind) _ V (hV.1.cellAt 3 (show 3 < 6 by decide)) hV.2.1).mono fun e V' ⟨he, hb, hg⟩ => ⟨he, hV.step hne hge hb hg⟩
    · intro V hV
      exact (onlyIts_any w.heap.size g 4 r.n (hasNu r.kind) _ V (hV.1.cellAt 4 (show 4 < 6 by decide)) hV.2.1).mono fun e V' ⟨he, hb, hg⟩ => ⟨he, hV.step hne hge hb hg⟩
    · intro V hV
      exact (onlyIts_any w.heap.size g 5 r.bits (hasBi r.kind) _ V (hV.1.cellAt 5 (show 5 < 6 by decide)) hV.2.1).mono fun e V' ⟨he, hb, hg⟩ => ⟨he, hV.step hne hge hb hg⟩
  obtain ⟨F, hF⟩ : ∃ F, (!formR r) = F := ⟨_, rfl⟩
  rw [hF] at HE ⊢
  have hwb' : w.alloc (.cells #[.int .u64 (r.seq : Int), .int .i64 r.kind, .string r.name, .int .u64 (r.lease : Int), .int .u64 (r.n : Int), .int .u64 (r.bits : Int)] 24) = wb := hwb
  show Calls Tryd.prog 19 #[.agg #[.int .u64 (r.seq : Int), .int .i64 r.kind, .string r.name, .int .u64 (r.lease : Int), .int .u64 (r.n : Int), .int .u64 (r.bits : Int)]] w fun e w' => e = .returned (.bool F) ∧ Below w.heap.size w w'
  clear hF hwb hK hbb hKA hba hne hge hA h1 hr hH
  go_enter Tryd.func19, Tryd.ntmps19
  have hmf : ∀ (fn : Fn) (first cap : Array Value) (w : World), (Instr.makeFunc fn first cap).run Tryd.prog w = .ok (.func fn first cap) w := fun _ _ _ _ => rfl
  go_wp2_with fail
  refine HE.out.mono ?_
  rintro e w2 ⟨rfl, h2⟩
  have c2 : w2.cell? ⟨g, 0, none⟩ = some (.bool F) := h2.2.1.cellAt 0 (show 0 < 1 by decide)
  have H2 : Hid (Below w.heap.size w w2) := h2.2.2
  clear h2
  go_wp2_with fail
  go_ret
  exact ⟨rfl, H2.out⟩

set_option maxRecDepth 100000 in
set_option maxHeartbeats 3200000 in
theorem check_law_over (hH : HasLaw) : CheckLaw := by
  intro r w hr hT
  obtain ⟨wb, hwb⟩ : ∃ wb, w.alloc (.cells r.cells.toArray 24) = wb := ⟨_, rfl⟩
  have hK : Bk wb w.heap.size 24 r.cells := by rw [← hwb]; exact Bk.new w _ _
  have hbb : Below w.heap.size w wb := by rw [← hwb]; exact (Below.refl _ w).alloc (Nat.le_refl _) _
  have HBB := Lib.hid hbb
  have hcc : checkR r = (if kindR r.kind = false then 5 else if tenantL (bl r.name) = false then 7 else if rangeR r then 6 else if priceR r then 13 else if formR r then 2 else 0) := rfl
  have HIK := Lib.hid (fun V => isKind_any r.kind V)
  have HTN := Lib.hid (fun V => tenant_any r.name V hr.name)
  have HIR : Hid (∀ V : World, Calls Tryd.prog 17 #[.agg #[.int .u64 (r.seq : Int), .int .i64 r.kind, .string r.name, .int .u64 (r.lease : Int), .int .u64 (r.n : Int), .int .u64 (r.bits : Int)]] V fun e V' => e = .returned (.bool (!rangeR r)) ∧ Below V.heap.size V V') := fun V => inRange_any hH r V hr
  have HPR : Hid (∀ V : World, Below w.heap.size w V → Calls Tryd.prog 18 #[.agg #[.int .u64 (r.seq : Int), .int .i64 r.kind, .string r.name, .int .u64 (r.lease : Int), .int .u64 (r.n : Int), .int .u64 (r.bits : Int)]] V fun e V' => e = .returned (.bool (!priceR r)) ∧ Below V.heap.size V V') := fun V hV => priced_any hH r V hr (hT.under hV)
  have HFO : Hid (∀ V : World, Calls Tryd.prog 19 #[.agg #[.int .u64 (r.seq : Int), .int .i64 r.kind, .string r.name, .int .u64 (r.lease : Int), .int .u64 (r.n : Int), .int .u64 (r.bits : Int)]] V fun e V' => e = .returned (.bool (!formR r)) ∧ Below V.heap.size V V') := fun V => onlyItsFields_any hH r V hr
  clear hH hr hT
  have HK : Hid (Bk wb w.heap.size 24 [.int .u64 (r.seq : Int), .int .i64 r.kind, .string r.name, .int .u64 (r.lease : Int), .int .u64 (r.n : Int), .int .u64 (r.bits : Int)]) := hK
  have hwb' : w.alloc (.cells #[.int .u64 (r.seq : Int), .int .i64 r.kind, .string r.name, .int .u64 (r.lease : Int), .int .u64 (r.n : Int), .int .u64 (r.bits : Int)] 24) = wb := hwb
  show Calls Tryd.prog 8 #[.agg #[.int .u64 (r.seq : Int), .int .i64 r.kind, .string r.name, .int .u64 (r.lease : Int), .int .u64 (r.n : Int), .int .u64 (r.bits : Int)]] w fun e w' => e = .returned (.int .i64 (checkR r)) ∧ Below w.heap.size w w'
  obtain ⟨ck, hck⟩ : ∃ ck, checkR r = ck := ⟨_, rfl⟩
  obtain ⟨k1, hk1⟩ : ∃ b, kindR r.kind = b := ⟨_, rfl⟩
  obtain ⟨k2, hk2⟩ : ∃ b, tenantL (bl r.name) = b := ⟨_, rfl⟩
  obtain ⟨k3, hk3⟩ : ∃ b, rangeR r = b := ⟨_, rfl⟩
  obtain ⟨k4, hk4⟩ : ∃ b, priceR r = b := ⟨_, rfl⟩
  obtain ⟨k5, hk5⟩ : ∃ b, formR r = b := ⟨_, rfl⟩
  rw [hck, hk1, hk2, hk3, hk4, hk5] at hcc
  rw [hk1] at HIK
  rw [hk2] at HTN
  rw [hk3] at HIR
  rw [hk4] at HPR
  rw [hk5] at HFO
  rw [hck]
  have hcase : k1 = false ∨ (k1 = true ∧ (k2 = false ∨ (k2 = true ∧ (k3 = true ∨ (k3 = false ∧ (k4 = true ∨ (k4 = false ∧ (k5 = true ∨ k5 = false)))))))) := by
    cases k1 <;> cases k2 <;> cases k3 <;> cases k4 <;> cases k5 <;> simp
  clear hck hk1 hk2 hk3 hk4 hk5 hK hwb hbb
  obtain ⟨y0, y1, y2, y3, y4, y5⟩ := six HK.out
  have HCC := Lib.hid hcc
  clear hcc
  rcases hcase with rfl | ⟨rfl, rfl | ⟨rfl, rfl | ⟨rfl, rfl | ⟨rfl, rfl | rfl⟩⟩⟩⟩ <;>
  · go_enter Tryd.func8, Tryd.ntmps8
    go_wp2_with fail
    refine (HIK.out _).mono ?_
    rintro e w1 ⟨rfl, rfl⟩
    have HB := HBB
    try go_wp2_with fail
    try (refine (HTN.out _).mono ?_
         rintro e w2 ⟨rfl, hb2⟩
         replace HB : Hid (Below w.heap.size w w2) := HB.out.trans (hb2.mono HBB.out.size)
         clear y0 y1 y2 y3 y4 y5
         obtain ⟨y0, y1, y2, y3, y4, y5⟩ := six (HK.out.below hb2 HK.out.lt)
         replace HK := Lib.hid (HK.out.below hb2 HK.out.lt)
         have HS2 := Lib.hid hb2.size
         clear hb2
         go_wp2_with fail)
    try (refine (HIR.out _).mono ?_
         rintro e w3 ⟨rfl, hb3⟩
         replace HB : Hid (Below w.heap.size w w3) := HB.out.trans (hb3.mono HB.out.size)
         clear y0 y1 y2 y3 y4 y5
         obtain ⟨y0, y1, y2, y3, y4, y5⟩ := six (HK.out.below hb3 HK.out.lt)
         replace HK := Lib.hid (HK.out.below hb3 HK.out.lt)
         clear hb3
         go_wp2_with fail)
    try (refine (HPR.out _ HB.out).mono ?_
         rintro e w4 ⟨rfl, hb4⟩
         replace HB : Hid (Below w.heap.size w w4) := HB.out.trans (hb4.mono HB.out.size)
         clear y0 y1 y2 y3 y4 y5
         obtain ⟨y0, y1, y2, y3, y4, y5⟩ := six (HK.out.below hb4 HK.out.lt)
         replace HK := Lib.hid (HK.out.below hb4 HK.out.lt)
         clear hb4
         go_wp2_with fail)
    try (refine (HFO.out _).mono ?_
         rintro e w5 ⟨rfl, hb5⟩
         replace HB : Hid (Below w.heap.size w w5) := HB.out.trans (hb5.mono HB.out.size)
         clear y0 y1 y2 y3 y4 y5 hb5
         go_wp2_with fail)
    go_ret
    exact ⟨by rw [HCC.out]; rfl, HB.out⟩
end Go.Proofs.YtolpggmcjengcaaDoor
