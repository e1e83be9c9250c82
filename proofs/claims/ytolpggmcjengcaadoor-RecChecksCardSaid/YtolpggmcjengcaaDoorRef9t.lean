/-
  Package taximeterref07: Target.
-/
import Derived.Test.YtolpggmcjengcaaDoorHost
import Derived.Test.YtolpggmcjengcaaDoorRef07
namespace Go.Proofs.YtolpggmcjengcaaDoor
open Go.RowKit
set_option linter.unusedVariables false

def hostABC : List UInt8 := [97, 98, 99, 100, 101, 102, 103, 104, 105, 106, 107, 108, 109, 110, 111, 112, 113, 114, 115, 116, 117, 118, 119, 120, 121, 122, 48, 49, 50, 51, 52, 53, 54, 55, 56, 57, 45, 46, 58]
theorem all_bytes {p : UInt8 → Bool} (h : (List.range 256).all (fun n => p (UInt8.ofNat n)) = true) (c : UInt8) : p c = true := by
  have h1 := List.all_eq_true.1 h c.toNat (List.mem_range.2 c.toNat_lt)
  have h2 : UInt8.ofNat c.toNat = c := by simp
  rw [h2] at h1
  exact h1
theorem host_bytes (c : UInt8) : inL hostABC c = inHost c.toNat := by
  have := all_bytes (p := fun c => inL hostABC c == inHost c.toNat) (by decide +kernel) c
  simpa using this
theorem ten_bytes (c : UInt8) : inTen c.toNat = (inHost c.toNat && !(c == 46) && !(c == 58)) := by
  have := all_bytes (p := fun c => inTen c.toNat == (inHost c.toNat && !(c == 46) && !(c == 58))) (by decide +kernel) c
  simpa using this
theorem target_ref (l : List UInt8) : targetL l = (decide (1 ≤ l.length) && decide (l.length ≤ 24) && onlyL l hostABC && !(l.head? == some 46) && !(l.head? == some 58)) := by
  unfold targetL madeL onlyL
  cases l with
  | nil => rfl
  | cons c t =>
    simp only [List.all_cons, List.head?_cons, host_bytes]
    rw [ten_bytes]
    have e1 : (some c == some (46 : UInt8)) = (c == 46) := rfl
    have e2 : (some c == some (58 : UInt8)) = (c == 58) := rfl
    rw [e1, e2]
    cases inHost c.toNat <;> cases (c == 46) <;> cases (c == 58) <;> cases t.all (fun x => inHost x.toNat) <;> simp

theorem hostABC_bl : bl ⟨#[97, 98, 99, 100, 101, 102, 103, 104, 105, 106, 107, 108, 109, 110, 111, 112, 113, 114, 115, 116, 117, 118, 119, 120, 121, 122, 48, 49, 50, 51, 52, 53, 54, 55, 56, 57, 45, 46, 58]⟩ = hostABC := rfl
theorem head_bl (s : ByteArray) (h : 0 < s.size) : (bl s).head? = some s[0] := by
  have := bl_drop s 0 h
  rw [List.drop_zero] at this
  rw [this]
  rfl
end Go.Proofs.YtolpggmcjengcaaDoor
