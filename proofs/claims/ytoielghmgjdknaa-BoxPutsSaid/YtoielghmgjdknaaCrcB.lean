/-
  Plain: bytes of which four, one behind the other, were turned.
-/
import Derived.Test.YtoielghmgjdknaaCrcN
namespace Go.Proofs.Ytoielghmgjdknaa

theorem four_parts (L : List UInt8) (a : Nat) : L = L.take a ++ (L.drop a).take 4 ++ L.drop (a + 4) := by
  rw [← List.drop_drop, List.append_assoc, List.take_append_drop, List.take_append_drop]

/-- Sealed bytes and others of that length that part from them in four places at most, one behind the other: both are seals only if they are the same. -/
theorem seals_alike (n a : Nat) (L L' : List UInt8) (ha : a ≤ n) (hL : L.length = n + 4) (hL' : L'.length = n + 4)
    (h : leV (L.drop n) = sumN (L.take n)) (h' : leV (L'.drop n) = sumN (L'.take n)) (hs : ∀ j, (j < a ∨ a + 4 ≤ j) → L'[j]? = L[j]?) : L' = L := by
  have hp : L'.take a = L.take a := by
    apply List.ext_getElem?
    intro j
    rw [List.getElem?_take, List.getElem?_take]
    split
    · exact hs j (.inl (by omega))
    · rfl
  have hq : L'.drop (a + 4) = L.drop (a + 4) := by
    apply List.ext_getElem?
    intro j
    rw [List.getElem?_drop, List.getElem?_drop]
    exact hs _ (.inr (by omega))
  have h1 := reg_sealed (L.take n) (L.drop n) (by rw [List.length_drop]; omega) h
  have h2 := reg_sealed (L'.take n) (L'.drop n) (by rw [List.length_drop]; omega) h'
  rw [List.take_append_drop] at h1 h2
  have h3 : reg 4294967295 (L.take a ++ (L'.drop a).take 4 ++ L.drop (a + 4)) = reg 4294967295 (L.take a ++ (L.drop a).take 4 ++ L.drop (a + 4)) := by
    rw [← four_parts L a, h1, ← h2, ← hp, ← hq, ← four_parts L' a]
  have h4 := reg_spoilt _ _ _ _ (by rw [List.length_take, List.length_drop]; omega) (by rw [List.length_take, List.length_drop]; omega) h3
  rw [four_parts L' a, four_parts L a, hp, hq, h4]

/-- i of the four turned. -/
def spoil (L : List UInt8) (a : Nat) (x : List UInt8) : Nat → List UInt8
  | 0 => L
  | i + 1 => (spoil L a x i).modify (a + i) (· ^^^ x.getD i 0)
theorem spoil_length (L : List UInt8) (a : Nat) (x : List UInt8) (i : Nat) : (spoil L a x i).length = L.length := by
  induction i with
  | zero => rfl
  | succ i ih => rw [spoil, List.length_modify, ih]
theorem spoil_out (L : List UInt8) (a : Nat) (x : List UInt8) (i j : Nat) (h : j < a ∨ a + i ≤ j) : (spoil L a x i)[j]? = L[j]? := by
  induction i with
  | zero => rfl
  | succ i ih =>
    have e : ¬ a + i = j := by omega
    simp only [spoil, List.getElem?_modify, e, if_false, id_map']
    exact ih (by omega)
theorem spoil_in (L : List UInt8) (a : Nat) (x : List UInt8) (i k : Nat) (h : k < i) : (spoil L a x i)[a + k]? = (L[a + k]?).map (· ^^^ x.getD k 0) := by
  induction i with
  | zero => omega
  | succ i ih =>
    by_cases e : k = i
    · subst e
      simp only [spoil, List.getElem?_modify, if_true]
      rw [spoil_out _ _ _ _ _ (.inr (Nat.le_refl _))]
      rfl
    · have e2 : ¬ a + i = a + k := by omega
      simp only [spoil, List.getElem?_modify, e2, if_false, id_map']
      exact ih (by omega)
theorem xor_same (u x : UInt8) (h : u ^^^ x = u) : x = 0 := by
  have h2 : u ^^^ (u ^^^ x) = u ^^^ u := by rw [h]
  rwa [← UInt8.xor_assoc, UInt8.xor_self, UInt8.zero_xor] at h2
end Go.Proofs.Ytoielghmgjdknaa
