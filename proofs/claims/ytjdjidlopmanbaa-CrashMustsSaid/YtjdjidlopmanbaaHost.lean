/-
  Package name: targets' names.
-/
import Derived.Test.YtjdjidlopmanbaaName2
namespace Go.Proofs.Ytjdjidlopmanbaa
open Go.RowKit
set_option linter.unusedVariables false

/-- Whether a text may be a target's name. -/
def inHost (r : Nat) : Bool := inTen r || decide (r = 46) || decide (r = 58)
theorem inHost_high (r : Nat) (h : 128 ≤ r) : inHost r = false := by
  unfold inHost
  rw [inTen_high r h, decide_eq_false (by omega), decide_eq_false (by omega)]
  rfl
def targetL (l : List UInt8) : Bool := decide (l.length ≤ 24) && madeL inTen inHost l
theorem inTarget_any : Asks 58 inHost := by
  intro r w
  have HL := Lib.hid (fun W => inTenant_any r W)
  have g1 : ((r : Int) == 46) = decide (r = 46) := by
    by_cases h : r = 46
    · subst h; rfl
    · rw [decide_eq_false h, beq_eq_false_iff_ne]; omega
  have g2 : ((r : Int) == 58) = decide (r = 58) := by
    by_cases h : r = 58
    · subst h; rfl
    · rw [decide_eq_false h, beq_eq_false_iff_ne]; omega
  have hF : inHost r = (inTen r || decide (r = 46) || decide (r = 58)) := rfl
  obtain ⟨l, hl⟩ : ∃ b, inTen r = b := ⟨_, rfl⟩
  obtain ⟨d, hd⟩ : ∃ b, decide (r = 46) = b := ⟨_, rfl⟩
  obtain ⟨q, hq⟩ : ∃ b, decide (r = 58) = b := ⟨_, rfl⟩
  rw [hl, hd, hq] at hF
  rw [hl] at HL
  rw [hd] at g1
  rw [hq] at g2
  have HF := Lib.hid hF
  clear hl hd hq hF
  cases l <;> cases d
  all_goals
    go_enter Try.func58, Try.ntmps58
    go_wp2_with (first | (go_at_call 57; refine (HL.out _).mono ?_; rintro e' w1 ⟨rfl, rfl⟩))
    go_ret
    exact ⟨by rw [HF.out]; rfl, rfl⟩
theorem target_any (s : ByteArray) (w : World) (hs : s.size ≤ maxLen) : Calls Try.prog 52 #[.string s] w fun e w' => e = .returned (.bool (targetL (bl s))) ∧ Below w.heap.size w w' := by
  have HC := Lib.hid (fun W => made_any 57 58 inTen inHost inTenant_any inTarget_any (enters_of Try.func57 (by kernel_rfl) rfl) (enters_of Try.func58 (by kernel_rfl) rfl) inHost_high s W hs)
  have hF : targetL (bl s) = (decide (s.size ≤ 24) && madeL inTen inHost (bl s)) := by unfold targetL; rw [bl_length]
  obtain ⟨m, hm⟩ : ∃ m, madeL inTen inHost (bl s) = m := ⟨_, rfl⟩
  rw [hm] at hF HC
  clear hm
  by_cases h : s.size ≤ 24
  · have HF : Hid (targetL (bl s) = m) := by show _ = _; rw [hF, decide_eq_true h, Bool.true_and]
    have g1 : decide ((s.size : Int) ≤ 24) = true := by rw [decide_eq_true_iff]; omega
    clear hF h
    go_enter Try.func52, Try.ntmps52
    go_wp2_with fail
    refine (HC.out _).mono ?_
    rintro e' w1 ⟨rfl, pos, rfl⟩
    go_wp2_with fail
    go_ret
    exact ⟨by rw [HF.out]; rfl, iter_below _ _ _⟩
  · have HF : Hid (targetL (bl s) = false) := by show _ = _; rw [hF, decide_eq_false h, Bool.false_and]
    have g1 : decide ((s.size : Int) ≤ 24) = false := by rw [decide_eq_false_iff_not]; omega
    clear hF h
    go_enter Try.func52, Try.ntmps52
    go_wp2_with fail
    go_ret
    exact ⟨by rw [HF.out]; rfl, Below.refl _ _⟩

end Go.Proofs.Ytjdjidlopmanbaa
