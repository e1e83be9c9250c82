/-
  A parameter that is a record.
-/
import Derived.Test.YtolpggmcjengcaaDoorRecN
import Derived.Test.YtolpggmcjengcaaDoorRec1
namespace Go.Proofs.YtolpggmcjengcaaDoor
open Go.RowKit
set_option linter.unusedVariables false

theorem recV_of {w : World} {us : List Value} (hl : us.length = 6) (h : ∀ (j : Nat) (p : World → Value → Prop) v, ([isNum .u64, isNum .i64, isText, isNum .u64, isNum .u64, isNum .u64] : List (World → Value → Prop))[j]? = some p → us[j]? = some v → p w v) :
    ∃ r : RecV, r.Ok ∧ us = r.cells := by
  match us, hl with
  | [u0, u1, u2, u3, u4, u5], _ =>
    obtain ⟨n0, rfl, h0⟩ := h 0 _ u0 rfl rfl
    obtain ⟨n1, rfl, h1⟩ := h 1 _ u1 rfl rfl
    obtain ⟨s, rfl, h2⟩ := h 2 _ u2 rfl rfl
    obtain ⟨n3, rfl, h3⟩ := h 3 _ u3 rfl rfl
    obtain ⟨n4, rfl, h4⟩ := h 4 _ u4 rfl rfl
    obtain ⟨n5, rfl, h5⟩ := h 5 _ u5 rfl rfl
    have b0 := Go.bounds_u64 h0
    have b3 := Go.bounds_u64 h3
    have b4 := Go.bounds_u64 h4
    have b5 := Go.bounds_u64 h5
    obtain ⟨m0, rfl⟩ : ∃ m : Nat, n0 = (m : Int) := ⟨n0.toNat, by omega⟩
    obtain ⟨m3, rfl⟩ : ∃ m : Nat, n3 = (m : Int) := ⟨n3.toNat, by omega⟩
    obtain ⟨m4, rfl⟩ : ∃ m : Nat, n4 = (m : Int) := ⟨n4.toNat, by omega⟩
    obtain ⟨m5, rfl⟩ : ∃ m : Nat, n5 = (m : Int) := ⟨n5.toNat, by omega⟩
    exact ⟨⟨m0, n1, s, m3, m4, m5⟩, ⟨by show m0 < _; omega, h1, h2, by show m3 < _; omega, by show m4 < _; omega, by show m5 < _; omega⟩, rfl⟩
end Go.Proofs.YtolpggmcjengcaaDoor
