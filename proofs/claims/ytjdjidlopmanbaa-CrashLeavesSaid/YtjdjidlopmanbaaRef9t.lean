/-
  Package taximeterref07: Target.
-/
import Derived.Test.YtjdjidlopmanbaaHost
import Derived.Test.YtjdjidlopmanbaaRef07
namespace Go.Proofs.Ytjdjidlopmanbaa
open Go.RowKit
set_option linter.unusedVariables false

def hostABC : List UInt8 := [97, 98, 99, 100, 101, 102, 103, 104, 105, 106, 107, 108, 109, 110, 111, 112, 113, 114, 115, 116, 117, 118, 119, 120, 121, 122, 48, 49, 50, 51, 52, 53, 54, 55, 56, 57, 45, 46, 58]
theorem all_bytes {p : UInt8 → Bool} (h : (List.range 256).all (fun n => p (UInt8.ofNat n)) = true) (c : UInt8) : p c = true := by
  have h1 := List.all_eq_true.1 h c.toNat (List.mem_range.2 c.toNat_lt)
  have h2 : UInt8.ofNat c.toNat = c := by simp
  rw [h2] at h1
  exact h1
theorem host_bytes (c : UInt8) : inL hostABC c = inHost c.toNat := by
  have := all_bytes (p := fun c => inL hostABC c == inHost c.toNat) (by decide +kernel) c
  simpa using this
theorem ten_bytes (c : UInt8) : inTen c.toNat = (inHost c.toNat && !(c == 46) && !(c == 58)) := by
  have := all_bytes (p := fun c => inTen c.toNat == (inHost c.toNat && !(c == 46) && !(c == 58))) (by decide +kernel) c
  simpa using this
theorem target_ref (l : List UInt8) : targetL l = (decide (1 ≤ l.length) && decide (l.length ≤ 24) && onlyL l hostABC && !(l.head? == some 46) && !(l.head? == some 58)) := by
  unfold targetL madeL onlyL
  cases l with
  | nil => rfl
  | cons c t =>
    simp only [List.all_cons, List.head?_cons, host_bytes]
    rw [ten_bytes]
    have e1 : (some c == some (46 : UInt8)) = (c == 46) := rfl
    have e2 : (some c == some (58 : UInt8)) = (c == 58) := rfl
    rw [e1, e2]
    cases inHost c.toNat <;> cases (c == 46) <;> cases (c == 58) <;> cases t.all (fun x => inHost x.toNat) <;> simp

theorem hostABC_bl : bl ⟨#[97, 98, 99, 100, 101, 102, 103, 104, 105, 106, 107, 108, 109, 110, 111, 112, 113, 114, 115, 116, 117, 118, 119, 120, 121, 122, 48, 49, 50, 51, 52, 53, 54, 55, 56, 57, 45, 46, 58]⟩ = hostABC := rfl
theorem head_bl (s : ByteArray) (h : 0 < s.size) : (bl s).head? = some s[0] := by
  have := bl_drop s 0 h
  rw [List.drop_zero] at this
  rw [this]
  rfl
set_option maxRecDepth 100000 in
set_option maxHeartbeats 3200000 in
theorem rtarget_any (s : ByteArray) (w : World) (hs : s.size ≤ maxLen) : Calls Try.prog 31 #[.string s] w fun e w' => e = .returned (.bool (targetL (bl s))) ∧ w = w' := by
  have HC := Lib.hid (fun W : World => only_any s ⟨#[97, 98, 99, 100, 101, 102, 103, 104, 105, 106, 107, 108, 109, 110, 111, 112, 113, 114, 115, 116, 117, 118, 119, 120, 121, 122, 48, 49, 50, 51, 52, 53, 54, 55, 56, 57, 45, 46, 58]⟩ W hs (by unfold maxLen; decide))
  rw [hostABC_bl] at HC
  have hT := target_ref (bl s)
  rw [bl_length] at hT
  by_cases h0 : 1 ≤ s.size
  · have hh := head_bl s (by omega)
    rw [hh] at hT
    by_cases h24 : s.size ≤ 24
    · obtain ⟨o, ho⟩ : ∃ o, onlyL (bl s) hostABC = o := ⟨_, rfl⟩
      obtain ⟨c, hc⟩ : ∃ c, s[0] = c := ⟨_, rfl⟩
      have hF : targetL (bl s) = (o && !(c == 46) && !(c == 58)) := by
        rw [hT, ho, hc]
        have e1 : (some c == some (46 : UInt8)) = (c == 46) := rfl
        have e2 : (some c == some (58 : UInt8)) = (c == 58) := rfl
        simp [h0, h24, e1, e2]
      rw [ho] at HC
      have g1 : ((c.toNat : Int) == 46) = (c == 46) := u8_eq c 46
      have g2 : ((c.toNat : Int) == 58) = (c == 58) := u8_eq c 58
      have b1 : decide ((s.size : Int) ≥ 1) = true := by rw [decide_eq_true_iff]; omega
      have b2 : decide ((s.size : Int) ≤ 24) = true := by rw [decide_eq_true_iff]; omega
      have b0 : 0 < s.size := h0
      obtain ⟨p, hp⟩ : ∃ p, (!(c == 46)) = p := ⟨_, rfl⟩
      obtain ⟨q, hq⟩ : ∃ q, (!(c == 58)) = q := ⟨_, rfl⟩
      have n1 : ((c.toNat : Int) != 46) = p := by rw [bne, g1, hp]
      have n2 : ((c.toNat : Int) != 58) = q := by rw [bne, g2, hq]
      have HPQ : Hid (targetL (bl s) = (o && p && q)) := by show _ = _; rw [hF, hp, hq]
      clear hF ho hh hT hp hq g1 g2
      cases o <;> cases p <;> cases q
      all_goals
        go_enter Try.func31, Try.ntmps31
        go_wp2_with fail
        refine (HC.out _).mono ?_
        rintro e w1 ⟨rfl, rfl⟩
        go_wp2_with fail
        go_ret
        exact ⟨by rw [HPQ.out]; rfl, rfl⟩
    · have hF : targetL (bl s) = false := by rw [hT]; simp [h24]
      have HF := Lib.hid hF
      have b1 : decide ((s.size : Int) ≥ 1) = true := by rw [decide_eq_true_iff]; omega
      have b2 : decide ((s.size : Int) ≤ 24) = false := by rw [decide_eq_false_iff_not]; omega
      clear hF hh hT
      go_enter Try.func31, Try.ntmps31
      go_wp2_with fail
      go_ret
      exact ⟨by rw [HF.out]; rfl, rfl⟩
  · have hF : targetL (bl s) = false := by rw [hT]; simp; omega
    have HF := Lib.hid hF
    have b1 : decide ((s.size : Int) ≥ 1) = false := by rw [decide_eq_false_iff_not]; omega
    clear hF hT
    go_enter Try.func31, Try.ntmps31
    go_wp2_with fail
    go_ret
    exact ⟨by rw [HF.out]; rfl, rfl⟩
end Go.Proofs.Ytjdjidlopmanbaa
