/-
  The walk of CrashLeaves, over what crash.At is to do. Package taximeterlaw10: awake, over what crash.At and crash.Calls are to do.
-/
import Derived.Test.YtjdjidlopmanbaaOp10c
import Derived.Test.YtjdjidlopmanbaaRef9g
import Derived.Deep.RegionHeld3
import Derived.Lib.SlBytesConst
namespace Go.Proofs.Ytjdjidlopmanbaa
open Go.RowKit
set_option linter.unusedVariables false

/-- What crash.At is to do. -/
def AtLaw : Prop := ∀ (w : World) (a : Option Addr) (len cap : Nat) (l : List Opn) (C : Int) (p : Nat) (keep : Int), IsOps w a len cap l → largeO l = false → (Lit.int .i64 C).wf = true → p < 18446744073709551616 → (Lit.int .i64 keep).wf = true →
  Calls Try.prog 8 #[.int .i64 C, .slice a len cap, .int .u64 (p : Int), .int .i64 keep] w fun e w' => ∃ v m, e = .returned v ∧ FSl w' (fun _ => True) v m ∧ m.map Fil.pf = atS C l p keep ∧ Below w.heap.size w w'
def Awake10 : Prop := ∀ w : World, Calls Try.prog 6 #[] w fun e w' => e = .returned (.bool true) ∧ Below w.heap.size w w'
theorem size_at {w : World} {l : List Opn} (h : OpsFit w (callsO l)) (C : Int) (p : Nat) (keep : Int) : sizeF (atS C l p keep) ≤ 65536 := Nat.le_trans (sizeF_cut keep _) (h.size C p)
theorem files_small {w : World} {Q : Nat → Prop} {a : Option Addr} {m : List Fil} (h : IsFiles w Q a m) {k : Nat} (hz : sizeF (m.map Fil.pf) ≤ k) : ∀ f ∈ m, f.n ≤ k := fun f hf => by
  have h1 := sizeF_drop_mem (nm := bl f.name) (f := f.pf) rfl (l := m.map Fil.pf) (List.mem_map_of_mem hf)
  have h2 : f.pf.data.length = f.n := (h.1 f hf).len
  omega
theorem FSl.below {w w' : World} {Q : Nat → Prop} {v : Value} {l : List Fil} (h : FSl w Q v l) (hb : Below w.heap.size w w') : FSl w' Q v l := by
  obtain ⟨A, c, e, hF, h1, h2⟩ := h
  exact ⟨A, c, e, hF.below hb, h1, h2⟩
theorem rsameF_any {w : World} {v v' : Value} {l m : List Fil} (h : FSl w (fun _ => True) v l) (h' : FSl w (fun _ => True) v' m) (he : l.map Fil.pf = m.map Fil.pf) (hz : sizeF (l.map Fil.pf) ≤ 65536) :
    Calls Try.prog 7 #[v, v'] w fun e w' => e = .returned (.bool true) ∧ Below w.heap.size w w' := by
  obtain ⟨A, c, rfl, hF, h1, h2⟩ := h
  obtain ⟨A', c', rfl, hF', h1', h2'⟩ := h'
  refine (rsameT_any hF hF' h1 h1' h2 h2' he fun f hf => Nat.le_trans (files_small hF hz f hf) (by decide)).mono ?_
  rintro e w' ⟨rfl, n, rfl⟩
  exact ⟨rfl, below_drewN (Below.refl _ w) n⟩

set_option maxRecDepth 100000 in
set_option maxHeartbeats 3200000 in
theorem crashLeaves_over (hA : AtLaw) (hW : Awake10) {w : World} {a : Option Addr} {len cap : Nat} {l : List Opn} (n0 n1 : Int) (p : Nat) (h : IsOps w a len cap l) (h0 : (Lit.int .i64 n0).wf = true) (h1 : (Lit.int .i64 n1).wf = true) (hp : p < 18446744073709551616) :
    Calls Try.prog 3 #[.agg #[.int .i64 n0, .int .i64 n1], .slice a len cap, .int .u64 (p : Int)] w fun e w' => e = .returned (.bool true) ∧ Below w.heap.size w w' := by
  obtain ⟨wb, hwb⟩ : ∃ wb, w.alloc (.cells #[.int .i64 n0, .int .i64 n1] 22) = wb := ⟨_, rfl⟩
  have hB : Bk wb w.heap.size 22 [.int .i64 n0, .int .i64 n1] := by rw [← hwb]; exact Bk.new w _ _
  have hbb : Below w.heap.size w wb := by rw [← hwb]; exact (Below.refl _ w).alloc (Nat.le_refl _) _
  have hO := h.below hbb
  have HLA := Lib.hid (largeO_any hO)
  unfold Awake10 at hW
  have HW := Lib.hid hW
  have HBB := Lib.hid hbb
  cases hl : largeO l with
  | true =>
    rw [hl] at HLA
    clear h h0 h1 hA hl hO hB hbb hW
    go_enter Try.func3, Try.ntmps3
    go_wp2_with fail
    refine HLA.out.mono ?_
    rintro e w1 ⟨rfl, n, rfl⟩
    go_wp2_with fail
    refine (HW.out _).mono ?_
    rintro e w2 ⟨rfl, hb⟩
    go_wp2_with fail
    go_ret
    exact ⟨rfl, HBB.out.trans (((below_drewN (Below.refl _ wb) n).trans hb).mono HBB.out.size)⟩
  | false =>
    rw [hl] at HLA
    have hfit := fit_calls hO hl
    have HSA : Hid (sizeF (atS n0 l p n1) ≤ 65536) := size_at hfit n0 p n1
    have HA := Lib.hid (fun (V : World) (hV : Below wb.heap.size wb V) => hA V a len cap l n0 p n1 (hO.below hV) hl h0 hp h1)
    have HR := Lib.hid (fun (V : World) (hV : Below wb.heap.size wb V) => rat_any (hO.below hV) hl n0 h0 p hp n1 h1)
    have HBK := Lib.hid hB
    clear h h0 h1 hA hl hO hB hbb hW hfit
    go_enter Try.func3, Try.ntmps3
    go_wp2_with fail
    refine HLA.out.mono ?_
    rintro e w1 ⟨rfl, n, hw1⟩
    have hb1 : Below wb.heap.size wb w1 := by rw [hw1]; exact below_drewN (Below.refl _ wb) n
    have k0 : ∀ V : World, Below wb.heap.size wb V → V.cell? ⟨w.heap.size, 0, none⟩ = some (.int .i64 n0) := fun V hV => (HBK.out.below hV HBK.out.lt).cellAt 0 (show 0 < 2 by decide)
    have k1 : ∀ V : World, Below wb.heap.size wb V → V.cell? ⟨w.heap.size, 1, none⟩ = some (.int .i64 n1) := fun V hV => (HBK.out.below hV HBK.out.lt).cellAt 1 (show 1 < 2 by decide)
    clear hw1 hwb
    go_wp2_with fail
    go_region_held3 (fun V => Below wb.heap.size wb V) (first | assumption | exact below_drewN hb1 1) (first
      | (go_at_call 8; (with_reducible refine (HA.out _ ?_).mono ?_); exact below_drewN hb1 1; rintro e w2 ⟨v2, m2, rfl, hF2, hp2, hb2⟩; have hb2 : Below wb.heap.size wb w2 := (below_drewN hb1 1).trans (hb2.mono hb1.size))
      | (go_at_call 9; (with_reducible refine (HR.out _ ?_).mono ?_); exact hb2; rintro e w3 ⟨v3, m3, rfl, hF3, hp3, hb3⟩; have hF2 := hF2.below hb3; have hb3 : Below wb.heap.size wb w3 := hb2.trans (hb3.mono hb2.size))
      | (go_at_call 7; (with_reducible refine (rsameF_any hF2 hF3 ?_ ?_).mono ?_); exact hp2.trans hp3.symm; exact (by rw [hp2]; exact HSA.out); rintro e w4 ⟨rfl, hb4⟩; have hb4 : Below wb.heap.size wb w4 := hb3.trans (hb4.mono hb3.size))
      | (go_at_call 6; (with_reducible refine (HW.out _).mono ?_); rintro e w5 ⟨rfl, hb5⟩; have hb5 : Below wb.heap.size wb w5 := hb4.trans (hb5.mono hb4.size)))
    all_goals
      go_wp2_with fail
      go_ret
      exact ⟨rfl, HBB.out.trans (hb5.mono HBB.out.size)⟩
end Go.Proofs.Ytjdjidlopmanbaa

namespace Go.Proofs.Ytjdjidlopmanbaa
open Go.RowKit
set_option linter.unusedVariables false

/-- What crash.Calls is to do. -/
def CallsLaw : Prop := ∀ (w : World) (a : Option Addr) (len cap : Nat) (l : List Opn), IsOps w a len cap l → len ≤ 65536 →
  Calls Try.prog 18 #[.slice a len cap] w fun e w' => e = .returned (.int .i64 ((callsO l).length : Int)) ∧ Below w.heap.size w w'
def aw10 (g : Nat) : List Opn := [⟨1, ⟨#[97]⟩, ⟨#[]⟩, some ⟨g, 0, none⟩, 1, 1, [120]⟩, ⟨2, ⟨#[97]⟩, ⟨#[]⟩, none, 0, 0, []⟩]
theorem aw10_at (g : Nat) : atS 9 (aw10 g) 1 0 = [⟨[97], [], 0⟩] := by kernel_rfl
theorem aw10_calls (g : Nat) : (callsO (aw10 g)).length = 2 := by kernel_rfl
theorem aw10_small (g : Nat) : largeO (aw10 g) = false := by kernel_rfl

theorem one_file {m : List Fil} {p : PF} (h : m.map Fil.pf = [p]) : ∃ f, m = [f] ∧ f.pf = p := by
  match m, h with
  | [f], h => exact ⟨f, rfl, by simpa using h⟩
theorem aw10_ops (w : World) (fr fr' : Nat × Nat) : IsOps ((w.alloc (.cells #[.int .u8 120] 5 fr)).alloc (.cells #[.int .i64 1, .string ⟨#[97]⟩, .string ⟨#[]⟩, .slice (some ⟨w.heap.size, 0, none⟩) 1 1, .int .i64 2, .string ⟨#[97]⟩, .string ⟨#[]⟩, .slice none 0 0] 46 fr')) (some ⟨w.heap.size + 1, 0, none⟩) 2 2 (aw10 w.heap.size) := by
  obtain ⟨W, hW⟩ : ∃ W, w.alloc (.cells #[.int .u8 120] 5 fr) = W := ⟨_, rfl⟩
  have hs : W.heap.size = w.heap.size + 1 := by rw [← hW]; simp
  have hbs : Bs W W.heap.size (some ⟨w.heap.size, 0, none⟩) [120] := by
    have := Bs.new w #[.int .u8 120] 5 fr [120] rfl
    rw [hW, ← hs] at this
    exact this
  rw [hW, ← hs]
  obtain ⟨cs, hcs⟩ : ∃ cs : Array Value, cs = #[.int .i64 1, .string ⟨#[97]⟩, .string ⟨#[]⟩, .slice (some ⟨w.heap.size, 0, none⟩) 1 1, .int .i64 2, .string ⟨#[97]⟩, .string ⟨#[]⟩, .slice none 0 0] := ⟨_, rfl⟩
  have hcell : ∀ i, (W.alloc (.cells cs 46 fr')).cell? ⟨W.heap.size, i, none⟩ = cs[i]? := fun i => cell_of_row _ _ _ _ _ fr' (heap_alloc_new W _)
  rw [← hcs]
  have h5 : 5 ≤ maxLen := by unfold maxLen; decide
  refine ⟨rfl, Nat.le_refl _, by omega, fun s hm => ?_, .inr ⟨W.heap.size, 0, rfl, by simp, fun i hi j v hv => ?_⟩⟩
  · unfold aw10 at hm
    simp only [List.mem_cons, List.not_mem_nil, or_false] at hm
    rcases hm with rfl | rfl
    · exact ⟨show (Lit.int .i64 1).wf = true by decide, by show 1 ≤ maxLen; omega, by show 0 ≤ maxLen; omega, rfl, Nat.le_refl _, by show 1 ≤ maxLen; omega, (hbs.alloc (Nat.le_refl _) _).more (by simp)⟩
    · exact ⟨show (Lit.int .i64 2).wf = true by decide, by show 1 ≤ maxLen; omega, by show 0 ≤ maxLen; omega, rfl, Nat.le_refl _, by show 0 ≤ maxLen; omega, .inl rfl⟩
  · rw [Nat.zero_add, hcell, hcs]
    match i, hi, j, hv with
    | 0, _, 0, hv => exact hv
    | 0, _, 1, hv => exact hv
    | 0, _, 2, hv => exact hv
    | 0, _, 3, hv => exact hv
    | 1, _, 0, hv => exact hv
    | 1, _, 1, hv => exact hv
    | 1, _, 2, hv => exact hv
    | 1, _, 3, hv => exact hv
    | 0, _, j + 4, hv => exact absurd hv (by show ¬ (none : Option Value) = some v; simp)
    | 1, _, j + 4, hv => exact absurd hv (by show ¬ (none : Option Value) = some v; simp)

set_option maxRecDepth 100000 in
set_option maxHeartbeats 1600000 in
theorem awake10_over (hA : AtLaw) (hC : CallsLaw) : Awake10 := by
  intro w
  unfold AtLaw at hA
  unfold CallsLaw at hC
  have hcv := fun W => Lib.run_convert_bytes_const W 41 5 #[.int .u8 120] 1 1 Try.underlying41 Try.underlying5
  have HA := Lib.hid hA
  have HC := Lib.hid hC
  clear hA hC
  go_enter Try.func6, Try.ntmps6
  go_wp2_with fail
  have hops := aw10_ops w (1, 2) (0, 0)
  have hball : ∀ o o', Below w.heap.size w ((w.alloc o).alloc o') := fun o o' => ((Below.refl _ w).alloc (Nat.le_refl _) o).alloc (by simp) o'
  have HOP := Lib.hid hops
  have HBA := Lib.hid hball
  clear hops hball
  refine (HA.out _ (some ⟨w.heap.size + 1, 0, none⟩) 2 2 (aw10 w.heap.size) 9 1 0 HOP.out (aw10_small _) (by decide) (by decide) (by decide)).mono ?_
  rintro e w2 ⟨v, m, rfl, ⟨A, c, rfl, hF, hmc, hcm⟩, hpf, hb2⟩
  rw [aw10_at] at hpf
  obtain ⟨f, rfl, hfp⟩ : ∃ f, m = [f] ∧ f.pf = ⟨[97], [], 0⟩ := by
    exact one_file hpf
  have hO2 := HOP.out.below hb2
  have HCL := Lib.hid (HC.out w2 _ 2 2 _ hO2 (by decide))
  rw [aw10_calls] at HCL
  have hfo := hF.1 f (List.mem_singleton.2 rfl)
  have hn0 : f.n = 0 := by
    have h1 : f.data = [] := congrArg PF.data hfp
    have := hfo.len
    rw [h1] at this
    exact this.symm
  obtain ⟨b, o, rfl, hb, -, hcell⟩ : ∃ b o, A = some ⟨b, o, none⟩ ∧ b < w2.heap.size ∧ True ∧ ∀ (i : Nat) (h : i < [f].length) (j : Nat) v, [f][i].cells[j]? = some v → w2.cell? ⟨b, o + (i * 3 + j), none⟩ = some v := by
    rcases hF.2 with h | h
    · cases h
    · exact h
  have c1 : w2.cell? ⟨b, o + 1, none⟩ = some (.slice f.A 0 f.c) := by
    have h1 : w2.cell? ⟨b, o + (0 * 3 + 1), none⟩ = some (.slice f.A f.n f.c) := hcell 0 (by simp) 1 _ rfl
    rw [hn0] at h1
    exact h1
  have HB2 := Lib.hid ((HBA.out _ _).trans (hb2.mono (HBA.out _ _).size))
  clear hfo hn0 hcell hF hfp hO2 hb2 hpf
  go_wp2_with fail
  refine HCL.out.mono ?_
  rintro e w3 ⟨rfl, hb3⟩
  have HB3 := Lib.hid (HB2.out.trans (hb3.mono HB2.out.size))
  clear hb3
  go_wp2_with fail
  go_ret
  exact ⟨rfl, HB3.out⟩
end Go.Proofs.Ytjdjidlopmanbaa
