/-
  Plain: boxes that are cut off, and a box of which bytes are others.
-/
import Derived.Test.YtoielghmgjdknaaBoxN
namespace Go.Proofs.Ytoielghmgjdknaa
open Go.RowKit
set_option linter.unusedVariables false

/-- May bytes be boxed? -/
def fitL (l : List UInt8) : Prop := 0 < l.length ∧ l.length ≤ 4096
theorem leV_head (l : List UInt8) (h : l.length ≤ 4096) (r : List UInt8) : leV ((boxL l ++ r).take 2) = l.length := by
  have e : (boxL l ++ r).take 2 = leB 2 l.length := by
    unfold boxL headL
    rw [List.append_assoc, List.append_assoc, List.take_append_of_le_length (by rw [leB_length]; exact Nat.le_refl _), List.take_of_length_le (by rw [leB_length]; exact Nat.le_refl _)]
  rw [e, leV_leB]
  omega
theorem boxAt_box {l : List UInt8} (h : fitL l) (r : List UInt8) : boxAt (boxL l ++ r) = (l, l.length + 6, 0) := by
  have h2 := leV_head l h.2 r
  have h3 : (boxL l ++ r).length = l.length + 6 + r.length := by rw [List.length_append, boxL_length]
  have h4 : (boxL l ++ r).take (l.length + 6) = boxL l := by rw [← boxL_length l, List.take_left]
  have h5 : sealB (boxL l) = true := sealB_seal _
  have h6 : ((boxL l ++ r).drop 2).take l.length = l := by
    unfold boxL headL
    rw [List.append_assoc, List.append_assoc, List.drop_append_of_le_length (by rw [leB_length]; exact Nat.le_refl _), List.drop_of_length_le (by rw [leB_length]; exact Nat.le_refl _), List.nil_append, List.take_left]
  unfold boxAt
  rw [h2, h3, h4, h5, h6, if_neg (by omega), if_neg (by have := h.1; omega), if_neg (by have := h.2; omega), if_neg (by omega), if_neg (by decide)]
/-- A box that is cut off is none. -/
theorem boxAt_cut {l : List UInt8} (h : fitL l) (r : List UInt8) {n : Nat} (hn : n < l.length + 6) : (boxAt ((boxL l ++ r).take n)).2.2 ≠ 0 := by
  have hl : ((boxL l ++ r).take n).length = n := by rw [List.length_take, List.length_append, boxL_length]; omega
  unfold boxAt
  rw [hl]
  by_cases h2 : n < 2
  · rw [if_pos h2]; decide
  · have e : leV (((boxL l ++ r).take n).take 2) = l.length := by rw [List.take_take, Nat.min_eq_left (by omega), leV_head l h.2 r]
    rw [e, if_neg h2, if_neg (by have := h.1; omega), if_neg (by have := h.2; omega), if_pos hn]
    decide
def putAll (ls : List (List UInt8)) : List UInt8 := (ls.map boxL).flatten
/-- Those boxes that are whole among the first n bytes, and how many bytes they have. -/
def wantL : List (List UInt8) → Nat → List (List UInt8) × Nat
  | [], _ => ([], 0)
  | l :: r, n => if l.length + 6 ≤ n then (l :: (wantL r (n - (l.length + 6))).1, l.length + 6 + (wantL r (n - (l.length + 6))).2) else ([], 0)
theorem validL_nil : validL [] = ([], 0) := validL_stop (by decide)
theorem cut_valid : ∀ (ls : List (List UInt8)) (n : Nat), (∀ l ∈ ls, fitL l) → n ≤ (putAll ls).length → validL ((putAll ls).take n) = wantL ls n
  | [], n, _, hn => by
    have : (putAll []).take n = [] := by simp [putAll]
    rw [this, validL_nil]
    rfl
  | l :: r, n, h, hn => by
    have hf := h l (List.mem_cons_self ..)
    have e : putAll (l :: r) = boxL l ++ putAll r := rfl
    rw [e] at hn ⊢
    unfold wantL
    by_cases h1 : l.length + 6 ≤ n
    · have e2 : (boxL l ++ putAll r).take n = boxL l ++ (putAll r).take (n - (l.length + 6)) := by
        rw [List.take_append, boxL_length, List.take_of_length_le (by rw [boxL_length]; exact h1)]
      have hb := boxAt_box hf ((putAll r).take (n - (l.length + 6)))
      rw [if_pos h1, e2, validL_step (by rw [hb]), hb]
      simp only
      have e3 : (boxL l ++ (putAll r).take (n - (l.length + 6))).drop (l.length + 6) = (putAll r).take (n - (l.length + 6)) := by
        rw [← boxL_length l, List.drop_left]
      rw [e3, cut_valid r _ (fun x hx => h x (List.mem_cons_of_mem _ hx)) (by rw [List.length_append, boxL_length] at hn; omega)]
    · rw [if_neg h1]
      exact validL_stop (boxAt_cut hf _ (by omega))
/-- A box of which up to four bytes behind its number are others is none. -/
theorem boxAt_spoilt {l : List UInt8} (h : fitL l) (a : Nat) (ha : a ≤ l.length) (x : List UInt8) (hx : ∃ k, k < 4 ∧ x.getD k 0 ≠ 0) : boxAt (spoil (boxL l) (2 + a) x 4) = ([], 0, 4) := by
  have hl : (spoil (boxL l) (2 + a) x 4).length = l.length + 6 := by rw [spoil_length, boxL_length]
  have e2 : (spoil (boxL l) (2 + a) x 4).take 2 = (boxL l).take 2 := by
    refine List.ext_getElem? fun i => ?_
    by_cases hi : i < 2
    · rw [List.getElem?_take_of_lt hi, List.getElem?_take_of_lt hi, spoil_out _ _ _ _ _ (.inl (by omega))]
    · rw [List.getElem?_take_eq_none (by omega), List.getElem?_take_eq_none (by omega)]
  have hv : leV ((spoil (boxL l) (2 + a) x 4).take 2) = l.length := by
    have := leV_head l h.2 []
    rw [List.append_nil] at this
    rw [e2, this]
  have hs := not_sealed (headL l) (2 + a) (by rw [headL_length]; omega) x hx
  unfold boxAt
  rw [hl, hv, List.take_of_length_le (by rw [hl]; exact Nat.le_refl _), if_neg (by omega), if_neg (by have := h.1; omega), if_neg (by have := h.2; omega), if_neg (by omega)]
  have e3 : sealB (spoil (boxL l) (2 + a) x 4) = false := hs
  rw [if_pos e3]
theorem putAll_snoc (ls : List (List UInt8)) (l : List UInt8) : putAll (ls ++ [l]) = putAll ls ++ boxL l := by
  unfold putAll
  rw [List.map_append, List.flatten_append]
  simp
theorem want_snoc : ∀ (ls : List (List UInt8)) (l : List UInt8) (n : Nat), wantL (ls ++ [l]) n = if (putAll ls).length + (l.length + 6) ≤ n then ((wantL ls n).1 ++ [l], (putAll ls).length + (l.length + 6)) else wantL ls n
  | [], l, n => by
    show wantL [l] n = if 0 + (l.length + 6) ≤ n then ([] ++ [l], 0 + (l.length + 6)) else ([], 0)
    unfold wantL
    rw [Nat.zero_add]
    rfl
  | x :: r, l, n => by
    have e : (putAll (x :: r)).length = x.length + 6 + (putAll r).length := by
      show (boxL x ++ putAll r).length = _
      rw [List.length_append, boxL_length]
    have ih := want_snoc r l (n - (x.length + 6))
    rw [e]
    show (if x.length + 6 ≤ n then (x :: (wantL (r ++ [l]) (n - (x.length + 6))).1, x.length + 6 + (wantL (r ++ [l]) (n - (x.length + 6))).2) else ([], 0)) = if x.length + 6 + (putAll r).length + (l.length + 6) ≤ n then ((if x.length + 6 ≤ n then (x :: (wantL r (n - (x.length + 6))).1, x.length + 6 + (wantL r (n - (x.length + 6))).2) else ([], 0)).1 ++ [l], x.length + 6 + (putAll r).length + (l.length + 6)) else (if x.length + 6 ≤ n then (x :: (wantL r (n - (x.length + 6))).1, x.length + 6 + (wantL r (n - (x.length + 6))).2) else ([], 0))
    by_cases h : x.length + 6 ≤ n
    · rw [if_pos h, if_pos h, ih]
      by_cases h2 : (putAll r).length + (l.length + 6) ≤ n - (x.length + 6)
      · rw [if_pos h2, if_pos (by omega)]
        simp only [List.cons_append, Prod.mk.injEq, true_and]
        omega
      · rw [if_neg h2, if_neg (by omega)]
    · rw [if_neg h, if_neg h, if_neg (by omega)]
end Go.Proofs.Ytoielghmgjdknaa
