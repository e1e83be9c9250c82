/-
  Plain: boxes, the box at a place of bytes, and all boxes from the beginning on.
-/
import Derived.Test.YtoielghmgjdknaaCrc3
namespace Go.Proofs.Ytoielghmgjdknaa
open Go.RowKit
set_option linter.unusedVariables false

def headL (b : List UInt8) : List UInt8 := leB 2 b.length ++ b
def boxL (b : List UInt8) : List UInt8 := headL b ++ leB 4 (sumN (headL b))
theorem headL_length (b : List UInt8) : (headL b).length = b.length + 2 := by unfold headL; rw [List.length_append, leB_length]; omega
theorem boxL_length (b : List UInt8) : (boxL b).length = b.length + 6 := by unfold boxL; rw [List.length_append, headL_length, leB_length]
/-- The box at a place (all behind it: r): its bytes, how many bytes the box has, what is wrong. -/
def boxAt (r : List UInt8) : List UInt8 × Nat × Int :=
  if r.length < 2 then ([], 0, 1)
  else if leV (r.take 2) = 0 then ([], 0, 2)
  else if 4096 < leV (r.take 2) then ([], 0, 3)
  else if r.length < leV (r.take 2) + 6 then ([], 0, 1)
  else if sealB (r.take (leV (r.take 2) + 6)) = false then ([], 0, 4)
  else ((r.drop 2).take (leV (r.take 2)), leV (r.take 2) + 6, 0)
/-- What Next answers: the bytes, the place behind, what is wrong. -/
def nextL (l : List UInt8) (p : Int) : List UInt8 × Nat × Int :=
  if p < 0 ∨ (l.length : Int) < p then ([], 0, 6)
  else if (boxAt (l.drop p.toNat)).2.2 = 0 then ((boxAt (l.drop p.toNat)).1, p.toNat + (boxAt (l.drop p.toNat)).2.1, 0)
  else ([], 0, (boxAt (l.drop p.toNat)).2.2)
/-- All boxes from the beginning on: their bytes, and how many bytes they have. -/
def validF : Nat → List UInt8 → List (List UInt8) × Nat
  | 0, _ => ([], 0)
  | f + 1, r => if (boxAt r).2.2 = 0 then ((boxAt r).1 :: (validF f (r.drop (boxAt r).2.1)).1, (boxAt r).2.1 + (validF f (r.drop (boxAt r).2.1)).2) else ([], 0)
def validL (l : List UInt8) : List (List UInt8) × Nat := validF (l.length + 1) l

theorem validF_cons (f : Nat) (r : List UInt8) : validF (f + 1) r = if (boxAt r).2.2 = 0 then ((boxAt r).1 :: (validF f (r.drop (boxAt r).2.1)).1, (boxAt r).2.1 + (validF f (r.drop (boxAt r).2.1)).2) else ([], 0) := rfl
theorem boxAt_err {r : List UInt8} (h : (boxAt r).2.2 ≠ 0) : (boxAt r).1 = [] ∧ (boxAt r).2.1 = 0 := by
  unfold boxAt at h ⊢
  repeat' split
  all_goals simp_all
theorem boxAt_fit {r : List UInt8} (h : (boxAt r).2.2 = 0) : 7 ≤ (boxAt r).2.1 ∧ (boxAt r).2.1 ≤ r.length ∧ (boxAt r).1.length + 6 = (boxAt r).2.1 ∧ (boxAt r).1.length ≤ 4096 := by
  unfold boxAt at h ⊢
  by_cases h1 : r.length < 2
  · rw [if_pos h1] at h; cases h
  rw [if_neg h1] at h ⊢
  by_cases h2 : leV (r.take 2) = 0
  · rw [if_pos h2] at h; cases h
  rw [if_neg h2] at h ⊢
  by_cases h3 : 4096 < leV (r.take 2)
  · rw [if_pos h3] at h; cases h
  rw [if_neg h3] at h ⊢
  by_cases h4 : r.length < leV (r.take 2) + 6
  · rw [if_pos h4] at h; cases h
  rw [if_neg h4] at h ⊢
  by_cases h5 : sealB (r.take (leV (r.take 2) + 6)) = false
  · rw [if_pos h5] at h; cases h
  rw [if_neg h5]
  simp only [List.length_take, List.length_drop]
  omega
theorem validF_more : ∀ (f g : Nat) (r : List UInt8), r.length < f → r.length < g → validF f r = validF g r
  | 0, _, r, h, _ => by omega
  | _, 0, r, _, h => by omega
  | f + 1, g + 1, r, hf, hg => by
    unfold validF
    by_cases h : (boxAt r).2.2 = 0
    · have hb := boxAt_fit h
      rw [if_pos h, if_pos h, validF_more f g _ (by rw [List.length_drop]; omega) (by rw [List.length_drop]; omega)]
    · rw [if_neg h, if_neg h]
theorem validL_step {r : List UInt8} (h : (boxAt r).2.2 = 0) : validL r = ((boxAt r).1 :: (validL (r.drop (boxAt r).2.1)).1, (boxAt r).2.1 + (validL (r.drop (boxAt r).2.1)).2) := by
  have hb := boxAt_fit h
  have e : validF r.length (r.drop (boxAt r).2.1) = validL (r.drop (boxAt r).2.1) := validF_more _ _ _ (by rw [List.length_drop]; omega) (by omega)
  unfold validL at e ⊢
  rw [← e, validF_cons, if_pos h]
theorem validL_stop {r : List UInt8} (h : (boxAt r).2.2 ≠ 0) : validL r = ([], 0) := by
  unfold validL validF
  rw [if_neg h]
theorem seal_of (l : List UInt8) (h : 4 ≤ l.length) : sealB l = decide (l.take (l.length - 4) ++ leB 4 (sumN (l.take (l.length - 4))) = l) := by
  obtain ⟨a, q, rfl, hq⟩ : ∃ a q, l = a ++ q ∧ q.length = 4 := ⟨l.take (l.length - 4), l.drop (l.length - 4), (List.take_append_drop _ _).symm, by rw [List.length_drop]; omega⟩
  have e1 : (a ++ q).length - 4 = a.length := by rw [List.length_append]; omega
  rw [e1, List.take_left, sealB_app a q hq]
  refine decide_eq_decide.2 ⟨fun h => ?_, fun h => ?_⟩
  · rw [← h, ← hq, leB_leV]
  · have h2 := List.append_cancel_left h
    rw [← h2, leV_sum]
/-- What the reference asks of a box: its bytes, in a box, are just these. -/
theorem box_seal {r : List UInt8} {n : Nat} (hn : leV (r.take 2) = n) (hr : n + 6 ≤ r.length) : decide (boxL ((r.drop 2).take n) = r.take (n + 6)) = sealB (r.take (n + 6)) := by
  rw [seal_of _ (by rw [List.length_take]; omega)]
  have e1 : (r.take (n + 6)).length - 4 = n + 2 := by rw [List.length_take]; omega
  have e2 : (r.take (n + 6)).take (n + 2) = headL ((r.drop 2).take n) := by
    unfold headL
    have h3 : ((r.drop 2).take n).length = n := by rw [List.length_take, List.length_drop]; omega
    have h2 : (r.take 2).length = 2 := by rw [List.length_take]; omega
    have h4 : leB 2 n = r.take 2 := by
      have h5 := leB_leV (r.take 2)
      rw [h2, hn] at h5
      exact h5
    rw [h3, h4, List.take_take, Nat.min_eq_left (by omega), Nat.add_comm n 2, List.take_add]
  rw [e1, e2]
  rfl
end Go.Proofs.Ytoielghmgjdknaa
