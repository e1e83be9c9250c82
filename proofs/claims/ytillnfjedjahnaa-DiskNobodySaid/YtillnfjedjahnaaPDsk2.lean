/-
  A disk's calls: Down, Up, Arm.
-/
import Derived.Test.YtillnfjedjahnaaPDsk1
namespace Go.Proofs.Ytillnfjedjahnaa
open Go.RowKit
set_option linter.unusedVariables false

theorem pdskDown_any {w : World} {O : Nat → Prop} {d : Nat} {st : DSt} {mb : Nat} {L : List Pil} (h : PDsk w O d st mb L) :
    Calls Try.prog 14 #[dptr d] w fun e w' => e = .returned (.bool st.down) ∧ w = w' := by
  have c3 : w.cell? ⟨d, 3, none⟩ = some (.bool st.down) := h.blk.cellAt 3 (show 3 < 7 by decide)
  clear h
  go_enter Try.func14, Try.ntmps14
  go_wp2_with fail
  go_ret
  exact ⟨rfl, rfl⟩
theorem eff_set {w w' : World} {O : Nat → Prop} {d : Nat} (hd : O d) (hg : w.grownBy w' (some d)) : Eff O O w w' :=
  ⟨hg.os, hg.tape, hg.output, hg.size, fun b hb ho => hg.block b hb (fun e => ho (by cases e; exact hd)), fun b h => .inl h⟩
theorem pdskUp_any {w : World} {O : Nat → Prop} {d : Nat} {st : DSt} {mb : Nat} {L : List Pil} (h : PDsk w O d st mb L) :
    Calls Try.prog 23 #[dptr d] w (RetD IsP (.tuple #[]) { st with down := false } d O w) := by
  have hB := h.blk
  have c3 : w.cell? ⟨d, 3, none⟩ = some (.bool st.down) := hB.cellAt 3 (show 3 < 7 by decide)
  have f3 : w.frozen? ⟨d, 3, none⟩ = false := hB.frozen 3
  have hres : RetD IsP (.tuple #[]) { st with down := false } d O w (.returned (.tuple #[])) (w.setCell ⟨d, 3, none⟩ (.bool false)) :=
    ⟨O, rfl, ⟨mb, L, h.row { st with down := false } rfl rfl h.calls h.left h.keep (hB.set_ 3 (.bool false)) (fun b hb => heap_setCell_other w ⟨d, 3, none⟩ b _ hb) (by simp)⟩, eff_set h.od (grown_set w d 3 _)⟩
  have HR := Lib.hid hres
  clear h hB hres
  go_enter Try.func23, Try.ntmps23
  go_wp2_with fail
  (first | go_end0 | (refine bodyPost_ret (results_none rfl _ _ _) rfl ?_))
  exact HR.out
theorem pdskArm_any {w : World} {O : Nat → Prop} {d : Nat} {st : DSt} {mb : Nat} {L : List Pil} (h : PDsk w O d st mb L) (n keep : Int) (hn : (Lit.int .u64 n).wf = true) (hk : (Lit.int .i64 keep).wf = true) :
    Calls Try.prog 22 #[dptr d, .int .u64 n, .int .i64 keep] w (RetD IsP (.tuple #[]) { st with armed := true, left := n.toNat, keep := keep } d O w) := by
  have hB := h.blk
  have hn0 := Go.bounds_u64 hn
  have c4 : w.cell? ⟨d, 4, none⟩ = some (.bool st.armed) := hB.cellAt 4 (show 4 < 7 by decide)
  have f4 : w.frozen? ⟨d, 4, none⟩ = false := hB.frozen 4
  have hB1 := hB.set_ 4 (.bool true)
  have hB2 := hB1.set_ 5 (.int .u64 n)
  have c5 : (w.setCell ⟨d, 4, none⟩ (.bool true)).cell? ⟨d, 5, none⟩ = some (.int .u64 (st.left : Int)) := hB1.cellAt 5 (show 5 < 7 by decide)
  have f5 : (w.setCell ⟨d, 4, none⟩ (.bool true)).frozen? ⟨d, 5, none⟩ = false := hB1.frozen 5
  have c6 : ((w.setCell ⟨d, 4, none⟩ (.bool true)).setCell ⟨d, 5, none⟩ (.int .u64 n)).cell? ⟨d, 6, none⟩ = some (.int .i64 st.keep) := hB2.cellAt 6 (show 6 < 7 by decide)
  have f6 : ((w.setCell ⟨d, 4, none⟩ (.bool true)).setCell ⟨d, 5, none⟩ (.int .u64 n)).frozen? ⟨d, 6, none⟩ = false := hB2.frozen 6
  have hres : RetD IsP (.tuple #[]) { st with armed := true, left := n.toNat, keep := keep } d O w (.returned (.tuple #[])) (((w.setCell ⟨d, 4, none⟩ (.bool true)).setCell ⟨d, 5, none⟩ (.int .u64 n)).setCell ⟨d, 6, none⟩ (.int .i64 keep)) := by
    refine ⟨O, rfl, ⟨mb, L, h.row { st with armed := true, left := n.toNat, keep := keep } rfl rfl h.calls (show n.toNat < _ by omega) hk ?_ (fun b hb => ?_) (by simp)⟩,
      eff_set h.od (((grown_set w d 4 _).andThen (grown_set _ d 5 _) (fun j e => .inr e)).andThen (grown_set _ d 6 _) (fun j e => .inr e))⟩
    · have := hB2.set_ 6 (.int .i64 keep)
      have e : ((n.toNat : Nat) : Int) = n := by omega
      unfold pcells
      simp only
      rw [e]
      exact this
    · rw [heap_setCell_other _ ⟨d, 6, none⟩ b _ hb, heap_setCell_other _ ⟨d, 5, none⟩ b _ hb, heap_setCell_other _ ⟨d, 4, none⟩ b _ hb]
  have HR := Lib.hid hres
  clear h hB hB1 hB2 hres hn hk hn0
  go_enter Try.func22, Try.ntmps22
  go_wp2_with fail
  (first | go_end0 | (refine bodyPost_ret (results_none rfl _ _ _) rfl ?_))
  exact HR.out
end Go.Proofs.Ytillnfjedjahnaa
