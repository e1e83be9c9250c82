/-
  Package taximeterref07: texts.
-/
import Derived.Test.YtillnfjedjahnaaMem
import Derived.Test.YtillnfjedjahnaaNum
namespace Go.Proofs.Ytillnfjedjahnaa
open Go.RowKit
set_option linter.unusedVariables false

theorem digs_at (i : Nat) (h : i < 10) : ∃ h2 : i < (⟨#[48, 49, 50, 51, 52, 53, 54, 55, 56, 57]⟩ : ByteArray).size, (⟨#[48, 49, 50, 51, 52, 53, 54, 55, 56, 57]⟩ : ByteArray)[i] = UInt8.ofNat (48 + i) := by
  have all : ∀ j : Fin 10, (⟨#[48, 49, 50, 51, 52, 53, 54, 55, 56, 57]⟩ : ByteArray)[j.val]'j.isLt = UInt8.ofNat (48 + j.val) := by decide
  exact ⟨h, all ⟨i, h⟩⟩

/-- A text is answered; the world is as it was. -/
def Says (l : List UInt8) (w : World) (x : Ending) (w' : World) : Prop := ∃ s : ByteArray, x = .returned (.string s) ∧ bl s = l ∧ w = w'

theorem good_eq (s : ByteArray) (h : 0 < s.size) : goodL (bl s) = (onlyL (bl s) digs && !(decide (1 < s.size) && (s[0] == 48))) := by
  have e := bl_drop s 0 h
  rw [List.drop_zero] at e
  have e1 : (bl s).isEmpty = false := by rw [e]; rfl
  have e2 : decide ((bl s).head? = some 48) = (s[0] == 48) := by
    rw [e, List.head?_cons, Bool.eq_iff_iff, decide_eq_true_iff, beq_iff_eq]
    exact ⟨fun h => by injection h, fun h => by rw [h]⟩
  unfold goodL
  rw [e1, e2, bl_length]
  rfl
theorem empty_eq (s : ByteArray) (h : s.size = 0) : s.toList.isEmpty = true := by
  rw [bl_toList]
  have := bl_length s
  rw [h] at this
  rw [List.eq_nil_of_length_eq_zero this]
  rfl
theorem some_eq (s : ByteArray) (h : 0 < s.size) : s.toList.isEmpty = false := by
  rw [bl_toList]
  have e := bl_drop s 0 h
  rw [List.drop_zero] at e
  rw [e]
  rfl
theorem byte_ne (x c : UInt8) (k : Int) (hk : k = (c.toNat : Int)) : ((x.toNat : Int) == k) = (x == c) := by rw [hk]; exact u8_eq x c

end Go.Proofs.Ytillnfjedjahnaa
