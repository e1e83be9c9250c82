/-
  Plain: texts as lists of bytes.
-/
import Derived.WalkKit
import Derived.Laws.Strings2
import Derived.Laws.Concat
namespace Go.Proofs.YtolpggmcjengcaaDoor

/-- A text's bytes. -/
def bl (s : ByteArray) : List UInt8 := s.data.toList
theorem bl_length (s : ByteArray) : (bl s).length = s.size := by unfold bl; simp
theorem bl_at (s : ByteArray) (i : Nat) (h : i < s.size) : (bl s)[i]'(by rw [bl_length]; exact h) = s[i] := by unfold bl; rfl
theorem bl_mk (l : List UInt8) : bl ⟨l.toArray⟩ = l := by simp [bl]
theorem bl_append (a b : ByteArray) : bl (a ++ b) = bl a ++ bl b := by simp [bl, ByteArray.data_append]
theorem bl_extract (s : ByteArray) (i j : Nat) : bl (s.extract i j) = ((bl s).drop i).take (j - i) := by
  simp only [bl, ByteArray.data_extract, Array.toList_extract, List.extract_eq_take_drop]
theorem bl_inj {a b : ByteArray} (h : bl a = bl b) : a = b := by
  apply ByteArray.ext
  apply Array.ext'
  exact h
theorem bl_drop (s : ByteArray) (i : Nat) (h : i < s.size) : (bl s).drop i = s[i] :: (bl s).drop (i + 1) := by
  rw [List.drop_eq_getElem_cons (by rw [bl_length]; exact h), bl_at]
theorem bl_end (s : ByteArray) (i : Nat) (h : s.size ≤ i) : (bl s).drop i = [] := List.drop_eq_nil_of_le (by rw [bl_length]; exact h)
theorem u8_eq (a b : UInt8) : ((a.toNat : Int) == (b.toNat : Int)) = (a == b) := by
  by_cases h : a = b
  · subst h; simp
  · have h2 : ¬ (a.toNat : Int) = (b.toNat : Int) := fun e => h (UInt8.toNat.inj (by exact_mod_cast e))
    rw [beq_eq_false_iff_ne.2 h2, beq_eq_false_iff_ne.2 h]

/-- Is a byte among some? -/
def inL (l : List UInt8) (c : UInt8) : Bool := l.any (fun x => x == c)
/-- Are all bytes among some? -/
def onlyL (s l : List UInt8) : Bool := s.all (fun x => inL l x)

/-- One byte cut out of a text. -/
theorem cut_one {P : Program} {t : TypeId} (h : P.underlying t = some .string) (c : ByteArray) (k k' : IntKind) (i : Nat) (hi : i < c.size) (a b : Int) (ha : a = i) (hb : b = i + 1) :
    ∃ D : ByteArray, (∀ w : World, (Instr.slice t (.string c) (some (.int k a)) (some (.int k' b)) none).run P w = .ok (.string D) w) ∧ bl D = [c[i]] ∧ D.size = 1 := by
  subst ha hb
  refine ⟨_, fun w => run_slice_string w t c k k' _ _ h (by omega) (by omega) (by omega), ?_⟩
  have e : bl (c.extract (i : Int).toNat ((i : Int) + 1).toNat) = [c[i]] := by
    rw [bl_extract, show ((i : Int)).toNat = i by omega, show ((i : Int) + 1).toNat = i + 1 by omega, bl_drop c i hi, show i + 1 - i = 1 by omega]
    simp
  refine ⟨e, ?_⟩
  rw [← bl_length, e]
  rfl

/-- The digits of a number. -/
def decL (n : Nat) : List UInt8 := if n < 10 then [UInt8.ofNat (48 + n)] else decL (n / 10) ++ [UInt8.ofNat (48 + n % 10)]
theorem decL_one {n : Nat} (h : n < 10) : decL n = [UInt8.ofNat (48 + n)] := by rw [decL, if_pos h]
theorem decL_more {n : Nat} (h : 10 ≤ n) : decL n = decL (n / 10) ++ [UInt8.ofNat (48 + n % 10)] := by rw [decL, if_neg (by omega)]
theorem decL_len : ∀ (k n : Nat), 1 ≤ k → n < 10 ^ k → (decL n).length ≤ k
  | 0, n, h, _ => by omega
  | k + 1, n, _, hn => by
    rcases Nat.lt_or_ge n 10 with h | h
    · rw [decL_one h]; simp
    · have hk : 1 ≤ k := by
        rcases Nat.eq_zero_or_pos k with rfl | h'
        · simp at hn; omega
        · exact h'
      have := decL_len k (n / 10) hk (by rw [Nat.pow_succ] at hn; omega)
      rw [decL_more h, List.length_append, List.length_singleton]
      omega
theorem decL_pos (n : Nat) : 1 ≤ (decL n).length := by
  rcases Nat.lt_or_ge n 10 with h | h
  · rw [decL_one h]; simp
  · rw [decL_more h]; simp

/-! ### bytes as digits -/
def hexD (i : Nat) : UInt8 := if i < 10 then UInt8.ofNat (48 + i) else UInt8.ofNat (87 + i)
def hex2 (x : UInt8) : List UInt8 := [hexD (x.toNat / 16), hexD (x.toNat % 16)]
def hexL (l : List UInt8) : List UInt8 := if l = [] then [45] else l.flatMap hex2
theorem hex_take (l : List UInt8) (i : Nat) (h : i < l.length) : (l.take (i + 1)).flatMap hex2 = (l.take i).flatMap hex2 ++ hex2 l[i] := by
  rw [List.take_succ_eq_append_getElem h, List.flatMap_append, List.flatMap_cons, List.flatMap_nil, List.append_nil]
theorem hex_len (l : List UInt8) : (l.flatMap hex2).length = 2 * l.length := by
  induction l with
  | nil => rfl
  | cons x l ih => rw [List.flatMap_cons, List.length_append, ih, List.length_cons]; show 2 + _ = _; omega
end Go.Proofs.YtolpggmcjengcaaDoor
