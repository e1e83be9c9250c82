/-
  Package taximeterref09: Find.
-/
import Derived.Test.YtjdjidlopmanbaaDisk1
namespace Go.Proofs.Ytjdjidlopmanbaa
open Go.RowKit
set_option linter.unusedVariables false

/-- The place of a name among files. -/
def FindR (l : List Fil) (nm : List UInt8) (x : Int) : Prop := (∃ (i : Nat) (h : i < l.length), x = (i : Int) ∧ bl l[i].name = nm) ∨ (x = -1 ∧ ∀ f ∈ l, bl f.name ≠ nm)
set_option maxHeartbeats 1600000 in
theorem find_any {w : World} {Q : Nat → Prop} {a : Option Addr} {c : Nat} {l : List Fil} (h : IsFiles w Q a l) (hc : l.length ≤ c) (hm : c ≤ maxLen) (nm : ByteArray) :
    Calls Try.prog 32 #[.slice a l.length c, .string nm] w fun e w' => ∃ x, e = .returned (.int .i64 x) ∧ FindR l (bl nm) x ∧ ∃ n, w' = w.drewN n := by
  have HH := Lib.hid h.2
  unfold maxLen at hm
  obtain ⟨len, hl⟩ : ∃ len, l.length = len := ⟨_, rfl⟩
  rw [hl] at hc ⊢
  have HL := Lib.hid hl
  clear h hl
  go_enter Try.func32, Try.ntmps32
  go_wp2_with fail
  go_loopw [5] (fun v wr => ∃ i : Nat, v = .int .i64 (i : Int) ∧ i ≤ len ∧ (∃ n, wr = w.drewN n) ∧ Hid (∀ (j : Nat) (h : j < l.length), j < i → bl l[j].name ≠ bl nm)) (fun v _ => len - (intOf v).toNat)
  case atStart => exact ⟨0, rfl, Nat.zero_le _, ⟨0, rfl⟩, Lib.hid (fun j h hj => absurd hj (Nat.not_lt_zero _))⟩
  case round =>
    obtain ⟨i, rfl, hil, ⟨q, rfl⟩, HI⟩ := hrel
    by_cases hlt : i < len
    · have hll : i < l.length := by rw [HL.out]; exact hlt
      obtain ⟨b, o, rfl, hb, _, hcell⟩ : ∃ b o, a = some ⟨b, o, none⟩ ∧ b < w.heap.size ∧ Q b ∧ ∀ (i : Nat) (h : i < l.length) (j : Nat) v, l[i].cells[j]? = some v → w.cell? ⟨b, o + (i * 3 + j), none⟩ = some v := by
        rcases HH.out with h | h
        · rw [h] at hll; simp at hll
        · exact h
      obtain ⟨X, hX⟩ : ∃ X, l[i].name = X := ⟨_, rfl⟩
      have c0 : (w.drewN q).cell? ⟨b, o + i * 3, none⟩ = some (.string X) := by rw [← hX]; exact hcell i hll 0 _ rfl
      have b1 : (i : Int) < (len : Int) := by omega
      have hcmp : (X.toList == nm.toList) = decide (bl X = bl nm) := by
        rw [bl_toList, bl_toList]
        by_cases h : bl X = bl nm
        · rw [decide_eq_true h, h]; simp
        · rw [decide_eq_false h, beq_eq_false_iff_ne]; exact h
      by_cases he : bl X = bl nm
      · have HE : Hid (∃ h : i < l.length, bl l[i].name = bl nm) := ⟨hll, by rw [hX]; exact he⟩
        rw [decide_eq_true he] at hcmp
        clear hX he hcell hll HI HH
        go_wp2_with fail
        go_ret
        exact ⟨_, rfl, .inl ⟨i, HE.out.1, rfl, HE.out.2⟩, _, rfl⟩
      · rw [decide_eq_false he] at hcmp
        have HN : Hid (∀ (j : Nat) (h : j < l.length), j < i + 1 → bl l[j].name ≠ bl nm) := fun j h hj => by
          rcases Nat.lt_or_ge j i with h' | h'
          · exact HI.out j h h'
          · obtain rfl : j = i := by omega
            rw [hX]
            exact he
        have hw : IntKind.i64.wrap ((i : Int) + 1) = ((i + 1 : Nat) : Int) := by rw [IntKind.wrap_i64]; omega
        clear hX he hcell hll HI
        go_wp2_with fail
        go_roundw
        case rel => exact ⟨i + 1, rfl, by omega, ⟨_, rfl⟩, HN⟩
        case measure =>
          show len - (((i + 1 : Nat) : Int)).toNat < len - ((i : Int)).toNat
          omega
    · obtain rfl : i = len := by omega
      have b1 : decide ((i : Int) < (i : Int)) = false := by rw [decide_eq_false_iff_not]; omega
      have HF : Hid (∀ f ∈ l, bl f.name ≠ bl nm) := fun f hf => by
        obtain ⟨j, hj, rfl⟩ := List.mem_iff_getElem.1 hf
        exact HI.out j hj (by rw [← HL.out]; exact hj)
      clear HI HH
      go_wp2_with fail
      go_ret
      exact ⟨_, rfl, .inr ⟨rfl, HF.out⟩, _, rfl⟩
end Go.Proofs.Ytjdjidlopmanbaa
