/-
  Package taximeterref07: texts.
-/
import Derived.Test.YtolpggmcjengcaaDoorMem
import Derived.Test.YtolpggmcjengcaaDoorNum
namespace Go.Proofs.YtolpggmcjengcaaDoor
open Go.RowKit
set_option linter.unusedVariables false

theorem in_any (s : ByteArray) (c : UInt8) (w : World) (hs : s.size ≤ maxLen) : Calls Tryd.prog 48 #[.string s, .int .u8 (c.toNat : Int)] w fun e w' => e = .returned (.bool (inL (bl s) c)) ∧ w = w' := by
  have HS : Hid (s.size ≤ maxLen) := hs
  unfold maxLen at hs
  go_enter Tryd.func48, Tryd.ntmps48
  go_wp2_with fail
  go_loop [5] (fun x => ∃ i : Nat, i ≤ s.size ∧ x = .int .i64 i ∧ Hid (inL (bl s) c = inL ((bl s).drop i) c)) (fun x => s.size - (intOf x).toNat)
  case atStart => exact ⟨0, Nat.zero_le _, rfl, Lib.hid rfl⟩
  case round =>
    obtain ⟨i, hi, rfl, HI⟩ := hrel
    by_cases hlt : i < s.size
    · have hd := HI.out
      rw [bl_drop s i hlt] at hd
      unfold inL at hd
      rw [List.any_cons] at hd
      have hue := u8_eq s[i] c
      cases hc : s[i] == c with
      | true =>
        rw [hc] at hd hue
        have HE : Hid (inL (bl s) c = true) := hd
        clear hd hc HI
        go_wp2_with fail
        go_ret
        exact ⟨by rw [HE.out]; rfl, rfl⟩
      | false =>
        rw [hc] at hd hue
        have HE : Hid (inL (bl s) c = inL ((bl s).drop (i + 1)) c) := hd
        clear hd hc HI
        go_wp2_with fail
        go_round
        case rel => exact ⟨i + 1, by omega, by go_num, HE⟩
        case measure => simp [intOf]; omega
    · have hd := HI.out
      rw [bl_end s i (by omega)] at hd
      have HE : Hid (inL (bl s) c = false) := hd
      clear hd HI
      go_wp2_with fail
      go_ret
      exact ⟨by rw [HE.out]; rfl, rfl⟩
theorem only_any (s l : ByteArray) (w : World) (hs : s.size ≤ maxLen) (hl : l.size ≤ maxLen) : Calls Tryd.prog 35 #[.string s, .string l] w fun e w' => e = .returned (.bool (onlyL (bl s) (bl l))) ∧ w = w' := by
  have HL : Hid (l.size ≤ maxLen) := hl
  unfold maxLen at hs hl
  go_enter Tryd.func35, Tryd.ntmps35
  go_wp2_with fail
  go_loop [5] (fun x => ∃ i : Nat, i ≤ s.size ∧ x = .int .i64 i ∧ Hid (onlyL (bl s) (bl l) = onlyL ((bl s).drop i) (bl l))) (fun x => s.size - (intOf x).toNat)
  case atStart => exact ⟨0, Nat.zero_le _, rfl, Lib.hid rfl⟩
  case round =>
    obtain ⟨i, hi, rfl, HI⟩ := hrel
    by_cases hlt : i < s.size
    · have hd := HI.out
      rw [bl_drop s i hlt] at hd
      unfold onlyL at hd
      rw [List.all_cons] at hd
      have HC := Lib.hid (fun W : World => in_any l s[i] W HL.out)
      cases hc : inL (bl l) s[i] with
      | true =>
        rw [hc] at hd HC
        have HE : Hid (onlyL (bl s) (bl l) = onlyL ((bl s).drop (i + 1)) (bl l)) := hd
        clear hd hc HI
        go_wp2_with fail
        refine (HC.out _).mono ?_
        rintro e' w1 ⟨rfl, rfl⟩
        go_wp2_with fail
        go_round
        case rel => exact ⟨i + 1, by omega, by go_num, HE⟩
        case measure => simp [intOf]; omega
      | false =>
        rw [hc] at hd HC
        have HE : Hid (onlyL (bl s) (bl l) = false) := hd
        clear hd hc HI
        go_wp2_with fail
        refine (HC.out _).mono ?_
        rintro e' w1 ⟨rfl, rfl⟩
        go_wp2_with fail
        go_ret
        exact ⟨by rw [HE.out]; rfl, rfl⟩
    · have hd := HI.out
      rw [bl_end s i (by omega)] at hd
      have HE : Hid (onlyL (bl s) (bl l) = true) := hd
      clear hd HI
      go_wp2_with fail
      go_ret
      exact ⟨by rw [HE.out]; rfl, rfl⟩

theorem digs_at (i : Nat) (h : i < 10) : ∃ h2 : i < (⟨#[48, 49, 50, 51, 52, 53, 54, 55, 56, 57]⟩ : ByteArray).size, (⟨#[48, 49, 50, 51, 52, 53, 54, 55, 56, 57]⟩ : ByteArray)[i] = UInt8.ofNat (48 + i) := by
  have all : ∀ j : Fin 10, (⟨#[48, 49, 50, 51, 52, 53, 54, 55, 56, 57]⟩ : ByteArray)[j.val]'j.isLt = UInt8.ofNat (48 + j.val) := by decide
  exact ⟨h, all ⟨i, h⟩⟩

/-- A text is answered; the world is as it was. -/
def Says (l : List UInt8) (w : World) (x : Ending) (w' : World) : Prop := ∃ s : ByteArray, x = .returned (.string s) ∧ bl s = l ∧ w = w'

theorem good_eq (s : ByteArray) (h : 0 < s.size) : goodL (bl s) = (onlyL (bl s) digs && !(decide (1 < s.size) && (s[0] == 48))) := by
  have e := bl_drop s 0 h
  rw [List.drop_zero] at e
  have e1 : (bl s).isEmpty = false := by rw [e]; rfl
  have e2 : decide ((bl s).head? = some 48) = (s[0] == 48) := by
    rw [e, List.head?_cons, Bool.eq_iff_iff, decide_eq_true_iff, beq_iff_eq]
    exact ⟨fun h => by injection h, fun h => by rw [h]⟩
  unfold goodL
  rw [e1, e2, bl_length]
  rfl
theorem empty_eq (s : ByteArray) (h : s.size = 0) : s.toList.isEmpty = true := by
  rw [bl_toList]
  have := bl_length s
  rw [h] at this
  rw [List.eq_nil_of_length_eq_zero this]
  rfl
theorem some_eq (s : ByteArray) (h : 0 < s.size) : s.toList.isEmpty = false := by
  rw [bl_toList]
  have e := bl_drop s 0 h
  rw [List.drop_zero] at e
  rw [e]
  rfl
theorem byte_ne (x c : UInt8) (k : Int) (hk : k = (c.toNat : Int)) : ((x.toNat : Int) == k) = (x == c) := by rw [hk]; exact u8_eq x c

end Go.Proofs.YtolpggmcjengcaaDoor
