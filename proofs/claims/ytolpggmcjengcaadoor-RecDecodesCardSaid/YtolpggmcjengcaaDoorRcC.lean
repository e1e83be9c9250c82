/-
  rec.Encode, over rec.Has and rec.Check.
-/
import Derived.Test.YtolpggmcjengcaaDoorRcB
import Derived.Test.YtolpggmcjengcaaDoorPut
import Derived.Test.YtolpggmcjengcaaDoorLRecEncodes
import Derived.Deep.RegionLaw
namespace Go.Proofs.YtolpggmcjengcaaDoor
open Go.RowKit
set_option linter.unusedVariables false

theorem putB_1 (n : Nat) : putB 1 n = leB 1 n := by unfold putB; rfl
theorem putB_8 (n : Nat) : putB 8 n = leB 8 n := by unfold putB; rfl
def optB (b : Bool) (v : Nat) : List UInt8 := if b then leB 8 v else []
theorem optB_le (b : Bool) (v : Nat) : (optB b v).length ≤ 8 := by cases b <;> simp [optB]
/-- Block g holds a slice of the call's own, that reads as l. -/
def OutAt (W : World) (b0 g : Nat) (l : List UInt8) : Prop :=
  ∃ A n c, Bk W g 32 [.slice A n c] ∧ Hid (l.length = n) ∧ n ≤ c ∧ c ≤ maxLen ∧ Own W b0 5 (.slice A n c) (l.map bv) ∧ (Value.slice A n c).ownBlock ≠ some g
theorem OutAt.under {W W' : World} {b0 g : Nat} {l : List UInt8} (h : OutAt W b0 g l) (hb : Below W.heap.size W W') : OutAt W' b0 g l := by
  obtain ⟨A, n, c, h1, h2, h3, h4, h5, h6⟩ := h
  exact ⟨A, n, c, h1.below hb h1.lt, h2, h3, h4, h5.below hb (Nat.le_refl _), h6⟩


set_option maxRecDepth 100000 in
set_option maxHeartbeats 1600000 in
/-- The closure that puts one field. -/
theorem encPut_any (b o : Nat) (is : Bool) (v : Nat) (g b0 : Nat) (W : World) (l : List UInt8) (hc : W.cell? ⟨b, o, none⟩ = some (.int .u64 (v : Int))) (hv : v < 18446744073709551616) (hl : l.length ≤ 131072) (hb0 : b0 ≤ W.heap.size) (h : OutAt W b0 g l) :
    Calls Tryd.prog 25 #[.pointer (some ⟨b, o, none⟩), .bool is, .pointer (some ⟨g, 0, none⟩)] W fun e W' => e = .returned (.tuple #[]) ∧ OutAt W' b0 g (l ++ optB is v) ∧ W.grownBy W' (some g) := by
  obtain ⟨A, n, c, h1, h2, h3, h4, h5, h6⟩ := h
  cases is with
  | false =>
    have HR : Hid (OutAt W b0 g l) := ⟨A, n, c, h1, h2, h3, h4, h5, h6⟩
    clear h1 h2 h3 h4 h5 h6 hb0
    go_enter Tryd.func25, Tryd.ntmps25
    go_wp2_with fail
    (first | go_end0 | (refine bodyPost_ret (results_none rfl _ _ _) rfl ?_))
    exact ⟨rfl, by simpa [optB] using HR.out, World.grownBy.refl _ _⟩
  | true =>
    have HC0 : Hid (∀ V : World, Below W.heap.size W V → V.cell? ⟨g, 0, none⟩ = some (.slice A n c)) := fun V hV => (h1.below hV h1.lt).cellAt 0 (show 0 < 1 by decide)
    have c0 : W.cell? ⟨g, 0, none⟩ = some (.slice A n c) := h1.cellAt 0 (show 0 < 1 by decide)
    have hbs : Bs W W.heap.size A l := by
      obtain ⟨A', n', c', e, h7, h8, h9, h10⟩ := h5.bform
      cases e
      exact h10
    have HP : Hid (∀ V : World, Below W.heap.size W V → Calls Tryd.prog 23 #[.slice A n c, .int .i64 8, .int .u64 (v : Int)] V (RetO 5 (l ++ leB 8 v) V)) := fun V hV => by
      have := put_any A n c l 8 v V h2.out ((hbs.below hV (Nat.le_refl _)).more hV.size) (by have := h2.out; omega) (by omega)
      rwa [putB_8] at this
    have HK := Lib.hid h1
    have HB0 := Lib.hid hb0
    clear h1 h2 h3 h4 h5 h6 hbs hb0
    go_enter Tryd.func25, Tryd.ntmps25
    go_wp2_with fail
    go_region_with (first
      | (go_at_call 23; (with_reducible refine (HP.out _ ?_).mono ?_); exact below_drewN (Below.refl _ _) 1; rintro e w1 ⟨A1, n1, c1, rfl, hn1, hown1, h11, h12, hbs1, hb1⟩; have hbW : Below W.heap.size W w1 := (below_drewN (Below.refl _ _) 1).trans hb1; have hK1 := HK.out.below hbW HK.out.lt; have c1' : w1.cell? ⟨g, 0, none⟩ = some (.slice A n c) := hK1.cellAt 0 (show 0 < 1 by decide); have z1 : w1.frozen? ⟨g, 0, none⟩ = false := hK1.frozen 0; have hne : (Value.slice A1 n1 c1).ownBlock ≠ some g := (fun e => by have h9 : W.heap.size ≤ g := (hown1.lt g e).1; have := HK.out.lt; omega); have HR : Hid (OutAt (w1.setCell ⟨g, 0, none⟩ (.slice A1 n1 c1)) b0 g (l ++ leB 8 v) ∧ W.grownBy (w1.setCell ⟨g, 0, none⟩ (.slice A1 n1 c1)) (some g)) := ⟨⟨A1, n1, c1, hK1.set_ 0 _, hn1, h11, h12, ((hown1.mono (show b0 ≤ W.drew.heap.size from HB0.out))).kept (grown_set _ _ _ _) (.inr hne), hne⟩, grown_trans (grown_of_below hbW _) (grown_set _ _ _ _)⟩; clear hK1 hown1 hbs1 hb1 hbW hn1 h11 h12 hne c0))
    all_goals
      (try go_wp2_with fail)
      (first | go_end0 | (refine bodyPost_ret (results_none rfl _ _ _) rfl ?_))
      exact ⟨rfl, by simpa [optB] using HR.out.1, HR.out.2⟩

theorem own_not {W : World} {b0 g : Nat} {e T : TypeId} {v : Value} {xs vs : List Value} (h : Own W b0 e v xs) (hB : Bk W g T vs) (hne : e ≠ T) : v.ownBlock ≠ some g := fun hg => by
  rcases h.2 with ⟨rfl, _⟩ | ⟨k, cap, cur, rfl, _, hk, _⟩
  · cases hg
  · have e1 : k = g := by simpa [Value.ownBlock] using hg
    subst e1
    rw [hB] at hk
    injection hk with hk
    injection hk with _ h2 _
    exact hne h2.symm
theorem OutAt.put {W W1 : World} {b0 g : Nat} {l l' : List UInt8} {A1 : Option Addr} {n1 c1 : Nat} (h : OutAt W b0 g l) (hb0 : b0 ≤ W.heap.size) (hown1 : Own W1 W.heap.size 5 (.slice A1 n1 c1) (l'.map bv)) (hn1 : Hid (l'.length = n1)) (h11 : n1 ≤ c1) (h12 : c1 ≤ maxLen) (hb1 : Below W.heap.size W W1) :
    OutAt (W1.setCell ⟨g, 0, none⟩ (.slice A1 n1 c1)) b0 g l' := by
  obtain ⟨A, n, c, h1, -⟩ := h
  have hK1 := h1.below hb1 h1.lt
  have hne := own_not hown1 hK1 (by decide)
  exact ⟨A1, n1, c1, hK1.set_ 0 _, hn1, h11, h12, (hown1.mono hb0).kept (grown_set _ _ _ _) (.inr hne), hne⟩
theorem OutAt.bk {W : World} {b0 g : Nat} {l : List UInt8} (h : OutAt W b0 g l) : ∃ A n c, Bk W g 32 [.slice A n c] ∧ Hid (l.length = n) ∧ n ≤ c ∧ c ≤ maxLen ∧ Bs W W.heap.size A l ∧ Own W b0 5 (.slice A n c) (l.map bv) := by
  obtain ⟨A, n, c, h1, h2, h3, h4, h5, h6⟩ := h
  obtain ⟨A', n', c', e, h7, h8, h9, h10⟩ := h5.bform
  cases e
  exact ⟨A, n, c, h1, h2, h3, h4, h10, h5⟩
theorem under_set {wb W : World} {b0 g : Nat} (h : Below b0 wb W) (hg : b0 ≤ g) (hb : b0 ≤ W.heap.size) (v : Value) : Below b0 wb (W.setCell ⟨g, 0, none⟩ v) :=
  h.grown (grown_set _ _ _ _) hb fun k hk => by cases hk; exact hg

set_option maxRecDepth 100000 in
set_option maxHeartbeats 6400000 in
theorem encode_law_over (hH : HasLaw) (hC : CheckLaw) : EncodeLaw := by
  intro r w hr hns hT
  obtain ⟨wb, hwb⟩ : ∃ wb, w.alloc (.cells r.cells.toArray 24) = wb := ⟨_, rfl⟩
  have hbb : Below w.heap.size w wb := by rw [← hwb]; exact (Below.refl _ w).alloc (Nat.le_refl _) _
  have hK : Bk wb w.heap.size 24 r.cells := by rw [← hwb]; exact Bk.new w _ _
  have HCK := Lib.hid (hC r wb hr (hT.under hbb))
  have HNS := Lib.hid hns
  have HLE := Lib.hid (bytesR_le r)
  have HKD : Hid (checkR r = 0 → kindR r.kind = true) := fun h => (check_ok h).1
  have HWF := Lib.hid hr
  obtain ⟨cr, hcr⟩ : ∃ cr, checkR r = cr := ⟨_, rfl⟩
  rw [hcr] at HCK HKD ⊢
  have HBB := Lib.hid hbb
  clear hC hr hns hT hcr hbb
  have hg1 : ∀ V : World, Below wb.heap.size wb V → True := fun _ _ => trivial
  clear hg1
  by_cases h0 : cr = 0
  · subst h0
    rw [if_pos rfl]
    have hk := HKD.out rfl
    have hk5 := kindR_iff.1 hk
    obtain ⟨seq, kind, name, lease, n, bits⟩ := r
    obtain ⟨o1, o2, o3, o4, o5, o6⟩ := HWF.out
    have HNS2 : Hid (name.size ≤ 65536) := HNS.out
    simp only at hk5 HLE o1 o4 o5 o6
    obtain ⟨q, rfl⟩ : ∃ q : Nat, kind = (q : Int) := ⟨kind.toNat, by omega⟩
    have HF : Hid (bytesR ⟨seq, q, name, lease, n, bits⟩ = leB 1 q ++ leB 8 seq ++ leB 1 name.size ++ bl name ++ optB (hasLe q) lease ++ optB (hasNu q) n ++ optB (hasBi q) bits) := by
      show _ = _
      unfold bytesR
      rw [Int.toNat_natCast]
      simp only [List.append_assoc]
      rfl
    have HK : Hid (Bk wb w.heap.size 24 [.int .u64 (seq : Int), .int .i64 (q : Int), .string name, .int .u64 (lease : Int), .int .u64 (n : Int), .int .u64 (bits : Int)]) := hK
    have HCK2 : Hid (Calls Tryd.prog 8 #[.agg #[.int .u64 (seq : Int), .int .i64 (q : Int), .string name, .int .u64 (lease : Int), .int .u64 (n : Int), .int .u64 (bits : Int)]] wb fun e w' => e = .returned (.int .i64 0) ∧ Below wb.heap.size wb w') := HCK.out
    have HB0 : Hid (Below wb.heap.size wb wb) := Below.refl _ _
    have hwb' : w.alloc (.cells #[.int .u64 (seq : Int), .int .i64 (q : Int), .string name, .int .u64 (lease : Int), .int .u64 (n : Int), .int .u64 (bits : Int)] 24) = wb := hwb
    have hcv : IntKind.u64.wrap (q : Int) = (q : Int) := by rw [IntKind.wrap_u64]; omega
    have hcn : IntKind.u64.wrap (name.size : Int) = (name.size : Int) := by rw [IntKind.wrap_u64]; have := HNS2.out; omega
    have HO := Lib.hid (And.intro o1 (And.intro o4 (And.intro o5 o6)))
    have hq : q ≤ 5 := by omega
    have HQ := Lib.hid hq
    obtain ⟨bL, hbL⟩ : ∃ x, hasLe (q : Int) = x := ⟨_, rfl⟩
    obtain ⟨bN, hbN⟩ : ∃ x, hasNu (q : Int) = x := ⟨_, rfl⟩
    obtain ⟨bI, hbI⟩ : ∃ x, hasBi (q : Int) = x := ⟨_, rfl⟩
    rw [hbL, hbN, hbI] at HF
    have HFL : Hid (hasLe (q : Int) = bL ∧ hasNu (q : Int) = bN ∧ hasBi (q : Int) = bI) := ⟨hbL, hbN, hbI⟩
    have HWQ := Lib.hid o2
    have HHAS := Lib.hid hH
    show Calls Tryd.prog 11 #[.agg #[.int .u64 (seq : Int), .int .i64 (q : Int), .string name, .int .u64 (lease : Int), .int .u64 (n : Int), .int .u64 (bits : Int)]] w (RetB (bytesR ⟨seq, q, name, lease, n, bits⟩) 0 w)
    clear hK hwb hk hk5 HKD HWF HCK hH o1 o2 o3 o4 o5 o6 hbL hbN hbI hq
    have y0 : wb.cell? ⟨w.heap.size, 0, none⟩ = some (.int .u64 (seq : Int)) := (HK.out.below HB0.out HK.out.lt).cellAt 0 (show 0 < 6 by decide)
    have y1 : wb.cell? ⟨w.heap.size, 1, none⟩ = some (.int .i64 (q : Int)) := (HK.out.below HB0.out HK.out.lt).cellAt 1 (show 1 < 6 by decide)
    have y2 : wb.cell? ⟨w.heap.size, 2, none⟩ = some (.string name) := (HK.out.below HB0.out HK.out.lt).cellAt 2 (show 2 < 6 by decide)
    have y3 : wb.cell? ⟨w.heap.size, 3, none⟩ = some (.int .u64 (lease : Int)) := (HK.out.below HB0.out HK.out.lt).cellAt 3 (show 3 < 6 by decide)
    have y4 : wb.cell? ⟨w.heap.size, 4, none⟩ = some (.int .u64 (n : Int)) := (HK.out.below HB0.out HK.out.lt).cellAt 4 (show 4 < 6 by decide)
    have y5 : wb.cell? ⟨w.heap.size, 5, none⟩ = some (.int .u64 (bits : Int)) := (HK.out.below HB0.out HK.out.lt).cellAt 5 (show 5 < 6 by decide)
    go_enter Tryd.func11, Tryd.ntmps11
    have hmf : ∀ (fn : Fn) (first cap : Array Value) (w : World), (Instr.makeFunc fn first cap).run Tryd.prog w = .ok (.func fn first cap) w := fun _ _ _ _ => rfl
    go_wp2_with fail
    refine HCK2.out.mono ?_
    rintro e w1 ⟨rfl, hb1⟩
    have HB1 := Lib.hid hb1
    clear hb1
    clear y0 y1 y2 y3 y4 y5
    have y0 : w1.cell? ⟨w.heap.size, 0, none⟩ = some (.int .u64 (seq : Int)) := (HK.out.below HB1.out HK.out.lt).cellAt 0 (show 0 < 6 by decide)
    have y1 : w1.cell? ⟨w.heap.size, 1, none⟩ = some (.int .i64 (q : Int)) := (HK.out.below HB1.out HK.out.lt).cellAt 1 (show 1 < 6 by decide)
    have y2 : w1.cell? ⟨w.heap.size, 2, none⟩ = some (.string name) := (HK.out.below HB1.out HK.out.lt).cellAt 2 (show 2 < 6 by decide)
    have y3 : w1.cell? ⟨w.heap.size, 3, none⟩ = some (.int .u64 (lease : Int)) := (HK.out.below HB1.out HK.out.lt).cellAt 3 (show 3 < 6 by decide)
    have y4 : w1.cell? ⟨w.heap.size, 4, none⟩ = some (.int .u64 (n : Int)) := (HK.out.below HB1.out HK.out.lt).cellAt 4 (show 4 < 6 by decide)
    have y5 : w1.cell? ⟨w.heap.size, 5, none⟩ = some (.int .u64 (bits : Int)) := (HK.out.below HB1.out HK.out.lt).cellAt 5 (show 5 < 6 by decide)
    go_wp2_with fail
    refine (put_any none 0 0 [] 1 q w1 rfl (Bs.nil _ _ _) (by omega) (by have := HQ.out; omega)).mono ?_
    rw [putB_1, List.nil_append]
    rintro e w3 ⟨A3, n3, c3, rfl, hn3, hown3, h31, h32, hbs3, hb3⟩
    have HB3 : Hid (Below wb.heap.size wb w3) := HB1.out.trans (hb3.mono HB1.out.size)
    obtain ⟨g, hg⟩ : ∃ g, w3.heap.size = g := ⟨_, rfl⟩
    have HG : Hid (wb.heap.size ≤ g) := by show _ ≤ _; rw [← hg]; exact HB3.out.size
    obtain ⟨wa, hwa⟩ : ∃ wa, w3.alloc (.cells #[.slice none 0 0] 32) = wa := ⟨_, rfl⟩
    have hKA : Bk wa g 32 [.slice none 0 0] := by rw [← hwa, ← hg]; exact Bk.new w3 _ _
    have ca : wa.cell? ⟨g, 0, none⟩ = some (.slice none 0 0) := hKA.cellAt 0 (show 0 < 1 by decide)
    have za : wa.frozen? ⟨g, 0, none⟩ = false := hKA.frozen 0
    have hba : Below w3.heap.size w3 wa := by rw [← hwa]; exact (Below.refl _ w3).alloc (Nat.le_refl _) _
    obtain ⟨w4, hw4⟩ : ∃ w4, wa.setCell ⟨g, 0, none⟩ (.slice A3 n3 c3) = w4 := ⟨_, rfl⟩
    have HBA : Hid (Below wb.heap.size wb wa) := HB3.out.trans (hba.mono HB3.out.size)
    have HB4 : Hid (Below wb.heap.size wb w4) := by show Below _ _ _; rw [← hw4]; exact under_set HBA.out HG.out HBA.out.size _
    have HT4 : Hid (OutAt w4 wb.heap.size g (leB 1 q)) := by
      show OutAt _ _ _ _
      have hne := own_not (hown3.below hba (Nat.le_refl _)) hKA (by decide)
      rw [← hw4]
      exact ⟨A3, n3, c3, hKA.set_ 0 _, hn3, h31, h32, ((hown3.below hba (Nat.le_refl _)).mono HB1.out.size).kept (grown_set _ _ _ _) (.inr hne), hne⟩
    have o0 : w4.cell? ⟨g, 0, none⟩ = some (.slice A3 n3 c3) := by rw [← hw4]; exact (hKA.set_ 0 _).cellAt 0 (show 0 < 1 by decide)
    clear hn3 hown3 h31 h32 hbs3 hb3 hKA hba
    clear y0 y1 y2 y3 y4 y5
    have y0 : w4.cell? ⟨w.heap.size, 0, none⟩ = some (.int .u64 (seq : Int)) := (HK.out.below HB4.out HK.out.lt).cellAt 0 (show 0 < 6 by decide)
    have y1 : w4.cell? ⟨w.heap.size, 1, none⟩ = some (.int .i64 (q : Int)) := (HK.out.below HB4.out HK.out.lt).cellAt 1 (show 1 < 6 by decide)
    have y2 : w4.cell? ⟨w.heap.size, 2, none⟩ = some (.string name) := (HK.out.below HB4.out HK.out.lt).cellAt 2 (show 2 < 6 by decide)
    have y3 : w4.cell? ⟨w.heap.size, 3, none⟩ = some (.int .u64 (lease : Int)) := (HK.out.below HB4.out HK.out.lt).cellAt 3 (show 3 < 6 by decide)
    have y4 : w4.cell? ⟨w.heap.size, 4, none⟩ = some (.int .u64 (n : Int)) := (HK.out.below HB4.out HK.out.lt).cellAt 4 (show 4 < 6 by decide)
    have y5 : w4.cell? ⟨w.heap.size, 5, none⟩ = some (.int .u64 (bits : Int)) := (HK.out.below HB4.out HK.out.lt).cellAt 5 (show 5 < 6 by decide)
    try go_wp2_with fail
    obtain ⟨A5, n5, c5, hK5, hn5, hx5, hy5, hbs5, -⟩ := HT4.out.bk
    obtain ⟨rfl, rfl, rfl⟩ : A5 = A3 ∧ n5 = n3 ∧ c5 = c3 := by
      have := hK5.cellAt 0 (show 0 < 1 by decide)
      have := this.symm.trans o0
      simpa using this
    refine (put_any A5 n5 c5 (leB 1 q) 8 seq w4 hn5.out hbs5 (by rw [← hn5.out]; rw [leB_length]; omega) (by have := HO.out.1; omega)).mono ?_
    rw [putB_8]
    rintro e x5 ⟨B5, m5, d5, rfl, hm5, hown5, h51, h52, -, hb5⟩
    have hK51 := hK5.below hb5 hK5.lt
    have HX5 : Hid (Below wb.heap.size wb x5) := HB4.out.trans (hb5.mono HB4.out.size)
    obtain ⟨w5, hw5⟩ : ∃ w5, x5.setCell ⟨g, 0, none⟩ (.slice B5 m5 d5) = w5 := ⟨_, rfl⟩
    have HB5 : Hid (Below wb.heap.size wb w5) := by show Below _ _ _; rw [← hw5]; exact under_set HX5.out HG.out HX5.out.size _
    have HT5 : Hid (OutAt w5 wb.heap.size g (leB 1 q ++ leB 8 seq)) := by show OutAt _ _ _ _; rw [← hw5]; exact HT4.out.put HB4.out.size hown5 hm5 h51 h52 hb5
    have ca5 : x5.cell? ⟨g, 0, none⟩ = some (.slice A5 n5 c5) := hK51.cellAt 0 (show 0 < 1 by decide)
    have za5 : x5.frozen? ⟨g, 0, none⟩ = false := hK51.frozen 0
    clear o0
    have o0 : w5.cell? ⟨g, 0, none⟩ = some (.slice B5 m5 d5) := by rw [← hw5]; exact (hK51.set_ 0 _).cellAt 0 (show 0 < 1 by decide)
    clear hK5 hn5 hx5 hy5 hbs5 hm5 hown5 h51 h52 hb5 hK51
    clear y0 y1 y2 y3 y4 y5
    have y0 : w5.cell? ⟨w.heap.size, 0, none⟩ = some (.int .u64 (seq : Int)) := (HK.out.below HB5.out HK.out.lt).cellAt 0 (show 0 < 6 by decide)
    have y1 : w5.cell? ⟨w.heap.size, 1, none⟩ = some (.int .i64 (q : Int)) := (HK.out.below HB5.out HK.out.lt).cellAt 1 (show 1 < 6 by decide)
    have y2 : w5.cell? ⟨w.heap.size, 2, none⟩ = some (.string name) := (HK.out.below HB5.out HK.out.lt).cellAt 2 (show 2 < 6 by decide)
    have y3 : w5.cell? ⟨w.heap.size, 3, none⟩ = some (.int .u64 (lease : Int)) := (HK.out.below HB5.out HK.out.lt).cellAt 3 (show 3 < 6 by decide)
    have y4 : w5.cell? ⟨w.heap.size, 4, none⟩ = some (.int .u64 (n : Int)) := (HK.out.below HB5.out HK.out.lt).cellAt 4 (show 4 < 6 by decide)
    have y5 : w5.cell? ⟨w.heap.size, 5, none⟩ = some (.int .u64 (bits : Int)) := (HK.out.below HB5.out HK.out.lt).cellAt 5 (show 5 < 6 by decide)
    try go_wp2_with fail
    obtain ⟨A6, n6, c6, hK6, hn6, hx6, hy6, hbs6, -⟩ := HT5.out.bk
    obtain ⟨rfl, rfl, rfl⟩ : A6 = B5 ∧ n6 = m5 ∧ c6 = d5 := by
      have := hK6.cellAt 0 (show 0 < 1 by decide)
      have := this.symm.trans o0
      simpa using this
    refine (put_any A6 n6 c6 (leB 1 q ++ leB 8 seq) 1 name.size w5 hn6.out hbs6 (by rw [← hn6.out]; rw [List.length_append, leB_length, leB_length]; omega) (by have := HNS2.out; omega)).mono ?_
    rw [putB_1]
    rintro e x6 ⟨B6, m6, d6, rfl, hm6, hown6, h61, h62, -, hb6⟩
    have hK61 := hK6.below hb6 hK6.lt
    have HX6 : Hid (Below wb.heap.size wb x6) := HB5.out.trans (hb6.mono HB5.out.size)
    obtain ⟨w6, hw6⟩ : ∃ w6, x6.setCell ⟨g, 0, none⟩ (.slice B6 m6 d6) = w6 := ⟨_, rfl⟩
    have HB6 : Hid (Below wb.heap.size wb w6) := by show Below _ _ _; rw [← hw6]; exact under_set HX6.out HG.out HX6.out.size _
    have HT6 : Hid (OutAt w6 wb.heap.size g (leB 1 q ++ leB 8 seq ++ leB 1 name.size)) := by show OutAt _ _ _ _; rw [← hw6]; exact HT5.out.put HB5.out.size hown6 hm6 h61 h62 hb6
    have ca6 : x6.cell? ⟨g, 0, none⟩ = some (.slice A6 n6 c6) := hK61.cellAt 0 (show 0 < 1 by decide)
    have za6 : x6.frozen? ⟨g, 0, none⟩ = false := hK61.frozen 0
    clear o0
    have o0 : w6.cell? ⟨g, 0, none⟩ = some (.slice B6 m6 d6) := by rw [← hw6]; exact (hK61.set_ 0 _).cellAt 0 (show 0 < 1 by decide)
    clear hK6 hn6 hx6 hy6 hbs6 hm6 hown6 h61 h62 hb6 hK61
    clear y0 y1 y2 y3 y4 y5
    have y0 : w6.cell? ⟨w.heap.size, 0, none⟩ = some (.int .u64 (seq : Int)) := (HK.out.below HB6.out HK.out.lt).cellAt 0 (show 0 < 6 by decide)
    have y1 : w6.cell? ⟨w.heap.size, 1, none⟩ = some (.int .i64 (q : Int)) := (HK.out.below HB6.out HK.out.lt).cellAt 1 (show 1 < 6 by decide)
    have y2 : w6.cell? ⟨w.heap.size, 2, none⟩ = some (.string name) := (HK.out.below HB6.out HK.out.lt).cellAt 2 (show 2 < 6 by decide)
    have y3 : w6.cell? ⟨w.heap.size, 3, none⟩ = some (.int .u64 (lease : Int)) := (HK.out.below HB6.out HK.out.lt).cellAt 3 (show 3 < 6 by decide)
    have y4 : w6.cell? ⟨w.heap.size, 4, none⟩ = some (.int .u64 (n : Int)) := (HK.out.below HB6.out HK.out.lt).cellAt 4 (show 4 < 6 by decide)
    have y5 : w6.cell? ⟨w.heap.size, 5, none⟩ = some (.int .u64 (bits : Int)) := (HK.out.below HB6.out HK.out.lt).cellAt 5 (show 5 < 6 by decide)
    obtain ⟨A7, n7, c7, hK7, hn7, hx7, hy7, hbs7, hown7⟩ := HT6.out.bk
    obtain ⟨rfl, rfl, rfl⟩ : A7 = B6 ∧ n7 = m6 ∧ c7 = d6 := by
      have := hK7.cellAt 0 (show 0 < 1 by decide)
      have := this.symm.trans o0
      simpa using this
    have hl7 : (leB 1 q ++ leB 8 seq ++ leB 1 name.size).length + name.size ≤ 140737488355328 := by
      have := HNS2.out
      rw [List.length_append, List.length_append, leB_length, leB_length, leB_length]
      omega
    have hz7 := HB6.out.size
    have hne7 := own_not hown7 hK7 (by decide)
    have HK7 := Lib.hid hK7
    go_wp2_with (first | (at_builtin; refine wp_appS w6 rfl (.tmp 25) (.tmp 27) 32 9 rfl wb.heap.size 5 u8E (by kernel_rfl) (.slice A7 n7 c7) (leB 1 q ++ leB 8 seq ++ leB 1 name.size) rfl hown7 name rfl hl7 hz7 ?_; intro v7 x7 ho7 hg7; have hK71 := HK7.out.grown hg7 (fun e => hne7 e.symm); have HX7 : Hid (Below wb.heap.size wb x7) := HB6.out.trans (below_app hown7 hg7 hz7); obtain ⟨w7, hw7⟩ : ∃ w7, x7.setCell ⟨g, 0, none⟩ v7 = w7 := ⟨_, rfl⟩; have HB7 : Hid (Below wb.heap.size wb w7) := (hw7 ▸ under_set HX7.out HG.out HX7.out.size _); have ca7 : x7.cell? ⟨g, 0, none⟩ = some (.slice A7 n7 c7) := hK71.cellAt 0 (show 0 < 1 by decide); have za7 : x7.frozen? ⟨g, 0, none⟩ = false := hK71.frozen 0; have hne8 := own_not ho7 hK71 (by decide); obtain ⟨A8, n8, c8, rfl, hn8, h81, h82, hbs8⟩ := ho7.bform; have HT7 : Hid (OutAt w7 wb.heap.size g (leB 1 q ++ leB 8 seq ++ leB 1 name.size ++ bl name)) := (hw7 ▸ ⟨A8, n8, c8, hK71.set_ 0 _, hn8, h81, h82, ho7.kept (grown_set _ _ _ _) (.inr hne8), hne8⟩); clear o0 hK7 hK71 hn7 hx7 hy7 hbs7 hl7 hne7 hn8 h81 h82 hbs8 hne8 ho7 hg7; clear y0 y1 y2 y3 y4 y5; have y0 : w7.cell? ⟨w.heap.size, 0, none⟩ = some (.int .u64 (seq : Int)) := (HK.out.below HB7.out HK.out.lt).cellAt 0 (show 0 < 6 by decide); have y1 : w7.cell? ⟨w.heap.size, 1, none⟩ = some (.int .i64 (q : Int)) := (HK.out.below HB7.out HK.out.lt).cellAt 1 (show 1 < 6 by decide); have y2 : w7.cell? ⟨w.heap.size, 2, none⟩ = some (.string name) := (HK.out.below HB7.out HK.out.lt).cellAt 2 (show 2 < 6 by decide); have y3 : w7.cell? ⟨w.heap.size, 3, none⟩ = some (.int .u64 (lease : Int)) := (HK.out.below HB7.out HK.out.lt).cellAt 3 (show 3 < 6 by decide); have y4 : w7.cell? ⟨w.heap.size, 4, none⟩ = some (.int .u64 (n : Int)) := (HK.out.below HB7.out HK.out.lt).cellAt 4 (show 4 < 6 by decide); have y5 : w7.cell? ⟨w.heap.size, 5, none⟩ = some (.int .u64 (bits : Int)) := (HK.out.below HB7.out HK.out.lt).cellAt 5 (show 5 < 6 by decide)))
    have HL7 : Hid ((leB 1 q ++ leB 8 seq ++ leB 1 name.size ++ bl name).length ≤ 1000 + name.size) := by show _ ≤ _; rw [List.length_append, List.length_append, List.length_append, leB_length, leB_length, leB_length, bl_length]; omega
    obtain ⟨z, hz⟩ : ∃ z, leB 1 q ++ leB 8 seq ++ leB 1 name.size ++ bl name = z := ⟨_, rfl⟩
    rw [hz] at HL7 HT7 HF
    have HE : Hid (Calls Tryd.prog 24 #[.pointer (some ⟨w.heap.size, 0, none⟩), .func (.func 25) #[] #[.pointer (some ⟨g, 0, none⟩)]] w7 fun e V => e = .returned (.tuple #[]) ∧ OutAt V wb.heap.size g (z ++ optB bL lease ++ optB bN n ++ optB bI bits) ∧ Below wb.heap.size wb V) := by
      have hlz := HL7.out
      have hns2 := HNS2.out
      have l1 := optB_le bL lease
      have l2 := optB_le bN n
      have hst : ∀ V : World, Below wb.heap.size wb V → Bk V w.heap.size 24 [.int .u64 (seq : Int), .int .i64 (q : Int), .string name, .int .u64 (lease : Int), .int .u64 (n : Int), .int .u64 (bits : Int)] := fun V hV => HK.out.below hV HK.out.lt
      have hwq := HWQ.out
      refine each_any HHAS.out 25 (enters_of Tryd.func25 (by kernel_rfl) rfl) w.heap.size (some ⟨g, 0, none⟩) (q : Int) w7 hwq ((hst w7 HB7.out).cellAt 1 (show 1 < 6 by decide))
        (fun V => OutAt V wb.heap.size g z ∧ Below wb.heap.size wb V) (fun V => OutAt V wb.heap.size g (z ++ optB bL lease) ∧ Below wb.heap.size wb V)
        (fun V => OutAt V wb.heap.size g (z ++ optB bL lease ++ optB bN n) ∧ Below wb.heap.size wb V) _ (fun V hV => ⟨HT7.out.under hV, HB7.out.trans (hV.mono HB7.out.size)⟩) ?_ ?_ ?_
      · intro V hV
        rw [HFL.out.1]
        exact (encPut_any w.heap.size 3 bL lease g wb.heap.size V z ((hst V hV.2).cellAt 3 (show 3 < 6 by decide)) HO.out.2.1 (by omega) hV.2.size hV.1).mono fun e V' ⟨he, ht, hg⟩ => ⟨he, ht, hV.2.grown hg hV.2.size fun k hk => by cases hk; exact HG.out⟩
      · intro V hV
        rw [HFL.out.2.1]
        exact (encPut_any w.heap.size 4 bN n g wb.heap.size V _ ((hst V hV.2).cellAt 4 (show 4 < 6 by decide)) HO.out.2.2.1 (by rw [List.length_append]; omega) hV.2.size hV.1).mono fun e V' ⟨he, ht, hg⟩ => ⟨he, ht, hV.2.grown hg hV.2.size fun k hk => by cases hk; exact HG.out⟩
      · intro V hV
        rw [HFL.out.2.2]
        exact (encPut_any w.heap.size 5 bI bits g wb.heap.size V _ ((hst V hV.2).cellAt 5 (show 5 < 6 by decide)) HO.out.2.2.2 (by rw [List.length_append, List.length_append]; omega) hV.2.size hV.1).mono fun e V' ⟨he, ht, hg⟩ => ⟨he, ht, hV.2.grown hg hV.2.size fun k hk => by cases hk; exact HG.out⟩
    try go_wp2_with fail
    refine HE.out.mono ?_
    rintro e w11 ⟨rfl, ht11, hb11⟩
    have HT11 := Lib.hid ht11
    have HB11 := Lib.hid hb11
    clear ht11 hb11 y0 y1 y2 y3 y4 y5
    obtain ⟨A12, n12, c12, hK12, hn12, hx12, hy12, hbs12, -⟩ := HT11.out.bk
    have o0 : w11.cell? ⟨g, 0, none⟩ = some (.slice A12 n12 c12) := hK12.cellAt 0 (show 0 < 1 by decide)
    have HR : Hid (RetB (bytesR ⟨seq, q, name, lease, n, bits⟩) 0 w (.returned (.tuple #[.slice A12 n12 c12, .int .i64 0])) w11) := by
      show RetB _ _ _ _ _
      rw [HF.out]
      exact ⟨A12, n12, c12, rfl, hn12, hx12, hy12, hbs12, HBB.out.trans (HB11.out.mono HBB.out.size)⟩
    clear hK12 hn12 hx12 hy12 hbs12
    clear hz
    try go_wp2_with fail
    go_ret2
    exact HR.out
  · rw [if_neg h0]
    have g0 : (cr != 0) = true := by simpa using h0
    clear h0 HKD HWF HLE HNS hH
    obtain ⟨seq, kind, name, lease, n, bits⟩ := r
    have HK : Hid (Bk wb w.heap.size 24 [.int .u64 (seq : Int), .int .i64 kind, .string name, .int .u64 (lease : Int), .int .u64 (n : Int), .int .u64 (bits : Int)]) := hK
    have HCK2 : Hid (Calls Tryd.prog 8 #[.agg #[.int .u64 (seq : Int), .int .i64 kind, .string name, .int .u64 (lease : Int), .int .u64 (n : Int), .int .u64 (bits : Int)]] wb fun e w' => e = .returned (.int .i64 cr) ∧ Below wb.heap.size wb w') := HCK.out
    have hwb' : w.alloc (.cells #[.int .u64 (seq : Int), .int .i64 kind, .string name, .int .u64 (lease : Int), .int .u64 (n : Int), .int .u64 (bits : Int)] 24) = wb := hwb
    show Calls Tryd.prog 11 #[.agg #[.int .u64 (seq : Int), .int .i64 kind, .string name, .int .u64 (lease : Int), .int .u64 (n : Int), .int .u64 (bits : Int)]] w (RetB [] cr w)
    clear hK hwb HCK
    have y0 : wb.cell? ⟨w.heap.size, 0, none⟩ = some (.int .u64 (seq : Int)) := HK.out.cellAt 0 (show 0 < 6 by decide)
    have y1 : wb.cell? ⟨w.heap.size, 1, none⟩ = some (.int .i64 kind) := HK.out.cellAt 1 (show 1 < 6 by decide)
    have y2 : wb.cell? ⟨w.heap.size, 2, none⟩ = some (.string name) := HK.out.cellAt 2 (show 2 < 6 by decide)
    have y3 : wb.cell? ⟨w.heap.size, 3, none⟩ = some (.int .u64 (lease : Int)) := HK.out.cellAt 3 (show 3 < 6 by decide)
    have y4 : wb.cell? ⟨w.heap.size, 4, none⟩ = some (.int .u64 (n : Int)) := HK.out.cellAt 4 (show 4 < 6 by decide)
    have y5 : wb.cell? ⟨w.heap.size, 5, none⟩ = some (.int .u64 (bits : Int)) := HK.out.cellAt 5 (show 5 < 6 by decide)
    go_enter Tryd.func11, Tryd.ntmps11
    go_wp2_with fail
    refine HCK2.out.mono ?_
    rintro e w1 ⟨rfl, hb1⟩
    have HB1 := Lib.hid hb1
    clear hb1 y0 y1 y2 y3 y4 y5
    go_wp2_with fail
    go_ret2
    exact ⟨none, 0, 0, rfl, Lib.hid rfl, Nat.le_refl _, Nat.zero_le _, Bs.nil _ _ _, HBB.out.trans (HB1.out.mono HBB.out.size)⟩
end Go.Proofs.YtolpggmcjengcaaDoor
