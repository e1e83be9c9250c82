import Derived.Test.YtoielghmgjdknaaRef01
namespace Go.Proofs.Ytoielghmgjdknaa
open Go.RowKit
set_option linter.unusedVariables false

/-- Is it a width? -/
def isW (k : Int) : Bool := decide (k = 1 ∨ k = 2 ∨ k = 4 ∨ k = 8)
def sizeI (k : Int) : Int := if isW k then k else 0

theorem isW_cases {k : Int} (h : isW k = true) : k = 1 ∨ k = 2 ∨ k = 4 ∨ k = 8 := by simpa [isW] using h
theorem isW_not {k : Int} (h : isW k = false) : k ≠ 1 ∧ k ≠ 2 ∧ k ≠ 4 ∧ k ≠ 8 := by simpa [isW] using h

set_option maxHeartbeats 400000 in
/-- octet.size. -/
theorem size_any (k : Int) (w : World) : Calls Try.prog 26 #[.int .i64 k] w fun e w' => e = .returned (.int .i64 (sizeI k)) ∧ w = w' := by
  by_cases h1 : k = 1
  · subst h1; go_enter Try.func26, Try.ntmps26; go_wp2; go_ret; exact ⟨rfl, rfl⟩
  by_cases h2 : k = 2
  · subst h2; go_enter Try.func26, Try.ntmps26; go_wp2; go_ret; exact ⟨rfl, rfl⟩
  by_cases h3 : k = 4
  · subst h3; go_enter Try.func26, Try.ntmps26; go_wp2; go_ret; exact ⟨rfl, rfl⟩
  by_cases h4 : k = 8
  · subst h4; go_enter Try.func26, Try.ntmps26; go_wp2; go_ret; exact ⟨rfl, rfl⟩
  have e1 : (k == 1) = false := by simpa using h1
  have e2 : (k == 2) = false := by simpa using h2
  have e3 : (k == 4) = false := by simpa using h3
  have e4 : (k == 8) = false := by simpa using h4
  have hw : sizeI k = 0 := by simp [sizeI, isW, h1, h2, h3, h4]
  clear h1 h2 h3 h4
  go_enter Try.func26, Try.ntmps26; go_wp2; go_ret; exact ⟨by rw [hw]; rfl, rfl⟩
end Go.Proofs.Ytoielghmgjdknaa
