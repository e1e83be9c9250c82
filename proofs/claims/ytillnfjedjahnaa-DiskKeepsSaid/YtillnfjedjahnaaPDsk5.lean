/-
  A disk's calls begin; a file is found.
-/
import Derived.Test.YtillnfjedjahnaaPDsk4
namespace Go.Proofs.Ytillnfjedjahnaa
open Go.RowKit
set_option linter.unusedVariables false

def Began (v : Bool) (st : DSt) (d : Nat) (O : Nat → Prop) (w : World) (e : Ending) (w' : World) : Prop :=
  e = .returned (.bool v) ∧ ∃ O', IsP w' O' d st ∧ Eff O O' w w' ∧ (v = true → w.grownBy w' (some d))
theorem beginS_files {st : DSt} (h : (beginS st).2 = true) : (beginS st).1.files = st.files := by
  unfold beginS at h ⊢
  split
  · rfl
  · split
    · next h1 h2 => rw [if_neg h1, if_pos h2] at h; cases h
    · rfl

set_option maxHeartbeats 1600000 in
theorem pdskBegin_any {w : World} {O : Nat → Prop} {d : Nat} {st : DSt} {mb : Nat} {L : List Pil} (h : PDsk w O d st mb L) :
    Calls Try.prog 27 #[dptr d] w (Began (beginS st).2 (beginS st).1 d O w) := by
  have HD := Lib.hid (pdskDown_any h)
  have HC := Lib.hid (pdskCrash_any h st.keep h.keep)
  have hB := h.blk
  have hcl := h.calls
  have hll := h.left
  have HH := Lib.hid h
  clear h
  obtain ⟨files, cap, calls, armed, left, keep, down⟩ := st
  have c4 : w.cell? ⟨d, 4, none⟩ = some (.bool armed) := hB.cellAt 4 (show 4 < 7 by decide)
  have c5 : w.cell? ⟨d, 5, none⟩ = some (.int .u64 (left : Int)) := hB.cellAt 5 (show 5 < 7 by decide)
  have c6 : w.cell? ⟨d, 6, none⟩ = some (.int .i64 keep) := hB.cellAt 6 (show 6 < 7 by decide)
  have c2 : w.cell? ⟨d, 2, none⟩ = some (.int .u64 (calls : Int)) := hB.cellAt 2 (show 2 < 7 by decide)
  have f2 : w.frozen? ⟨d, 2, none⟩ = false := hB.frozen 2
  have f5 : w.frozen? ⟨d, 5, none⟩ = false := hB.frozen 5
  simp only at hcl hll
  obtain ⟨c', hc'⟩ : ∃ c', (calls + 1) % 18446744073709551616 = c' := ⟨_, rfl⟩
  have hwc : IntKind.u64.wrap ((calls : Int) + 1) = (c' : Int) := by rw [IntKind.wrap_u64]; omega
  cases down
  case true =>
    clear HC c4 c5 c6 c2 f2 f5 hB hwc
    go_enter Try.func27, Try.ntmps27
    go_wp2_with fail
    refine HD.out.mono ?_
    rintro e w' ⟨rfl, rfl⟩
    go_wp2_with fail
    go_ret
    exact ⟨rfl, O, ⟨mb, L, HH.out⟩, Eff.refl O _, fun e => by cases e⟩
  case false =>
    cases armed
    case false =>
      have hres : Began (beginS ⟨files, cap, calls, false, left, keep, false⟩).2 (beginS ⟨files, cap, calls, false, left, keep, false⟩).1 d O w (.returned (.bool true)) (w.setCell ⟨d, 2, none⟩ (.int .u64 (c' : Int))) := by
        refine ⟨rfl, O, ⟨mb, L, HH.out.row ⟨files, cap, (calls + 1) % 18446744073709551616, false, left, keep, false⟩ rfl rfl (show (calls + 1) % 18446744073709551616 < _ from Nat.mod_lt _ (by decide)) hll HH.out.keep ?_ (fun b hb => heap_setCell_other w ⟨d, 2, none⟩ b _ hb) (by simp)⟩, eff_set HH.out.od (grown_set w d 2 _), fun _ => grown_set w d 2 _⟩
        have := hB.set_ 2 (.int .u64 (c' : Int))
        rw [← hc'] at this ⊢
        exact this
      have HR := Lib.hid hres
      clear hres HC c5 c6 hB hc' hcl hll
      go_enter Try.func27, Try.ntmps27
      go_wp2_with fail
      refine HD.out.mono ?_
      rintro e w' ⟨rfl, rfl⟩
      go_wp2_with fail
      go_ret
      exact HR.out
    case true =>
      by_cases hl0 : left = 0
      · subst hl0
        clear c2 f2 f5 hB hwc hc' hcl hll
        go_enter Try.func27, Try.ntmps27
        go_wp2_with fail
        refine HD.out.mono ?_
        rintro e w' ⟨rfl, rfl⟩
        go_wp2_with fail
        refine HC.out.mono ?_
        rintro e w2 ⟨O2, rfl, hI, hE⟩
        go_wp2_with fail
        go_ret
        exact ⟨rfl, O2, hI, hE, fun e => by cases e⟩
      · have hb0 : ((left : Int) == 0) = false := by rw [beq_eq_false_iff_ne]; omega
        have hwl : IntKind.u64.wrap ((left : Int) - 1) = ((left - 1 : Nat) : Int) := by rw [IntKind.wrap_u64]; omega
        have hB1 := hB.set_ 5 (.int .u64 ((left - 1 : Nat) : Int))
        have d2 : (w.setCell ⟨d, 5, none⟩ (.int .u64 ((left - 1 : Nat) : Int))).cell? ⟨d, 2, none⟩ = some (.int .u64 (calls : Int)) := hB1.cellAt 2 (show 2 < 7 by decide)
        have e2 : (w.setCell ⟨d, 5, none⟩ (.int .u64 ((left - 1 : Nat) : Int))).frozen? ⟨d, 2, none⟩ = false := hB1.frozen 2
        have hbs : beginS ⟨files, cap, calls, true, left, keep, false⟩ = (⟨files, cap, c', true, left - 1, keep, false⟩, true) := by
          unfold beginS
          simp [hl0, hc']
        have hres : Began (beginS ⟨files, cap, calls, true, left, keep, false⟩).2 (beginS ⟨files, cap, calls, true, left, keep, false⟩).1 d O w (.returned (.bool true)) ((w.setCell ⟨d, 5, none⟩ (.int .u64 ((left - 1 : Nat) : Int))).setCell ⟨d, 2, none⟩ (.int .u64 (c' : Int))) := by
          rw [hbs]
          refine ⟨rfl, O, ⟨mb, L, HH.out.row ⟨files, cap, c', true, left - 1, keep, false⟩ rfl rfl (show c' < 18446744073709551616 by omega) (show left - 1 < 18446744073709551616 by omega) HH.out.keep ?_ (fun b hb => ?_) (by simp)⟩, eff_set HH.out.od ((grown_set w d 5 _).andThen (grown_set _ d 2 _) (fun j e => .inr e)), fun _ => (grown_set w d 5 _).andThen (grown_set _ d 2 _) (fun j e => .inr e)⟩
          · exact hB1.set_ 2 (.int .u64 (c' : Int))
          · rw [heap_setCell_other _ ⟨d, 2, none⟩ b _ hb, heap_setCell_other _ ⟨d, 5, none⟩ b _ hb]
        have HR := Lib.hid hres
        clear hres HC c6 hB hB1 hc' hcl hll hbs
        go_enter Try.func27, Try.ntmps27
        go_wp2_with fail
        refine HD.out.mono ?_
        rintro e w' ⟨rfl, rfl⟩
        go_wp2_with fail
        go_ret
        exact HR.out
end Go.Proofs.Ytillnfjedjahnaa
