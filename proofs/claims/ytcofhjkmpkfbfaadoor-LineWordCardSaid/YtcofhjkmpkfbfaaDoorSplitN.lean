/-
  Plain: a line cut at its blanks, and which lines are words with one blank between each two.
-/
import Derived.Test.YtcofhjkmpkfbfaaDoorWords
import Derived.Lib.Split
import Derived.Laws.RangeAny
namespace Go.Proofs.YtcofhjkmpkfbfaaDoor

/-- A text, cut at each blank. -/
def sp : List UInt8 → List (List UInt8)
  | [] => [[]]
  | c :: t => if c = 32 then [] :: sp t else match sp t with
    | h :: r => (c :: h) :: r
    | [] => [[c]]
theorem sp_blank (t : List UInt8) : sp (32 :: t) = [] :: sp t := by rw [sp, if_pos rfl]
theorem sp_some (l : List UInt8) : ∃ h r, sp l = h :: r := by
  cases l with
  | nil => exact ⟨_, _, rfl⟩
  | cons c t =>
    by_cases hc : c = 32
    · subst hc; exact ⟨_, _, sp_blank t⟩
    · rw [sp, if_neg hc]
      split
      · exact ⟨_, _, rfl⟩
      · exact ⟨_, _, rfl⟩
theorem sp_byte {c : UInt8} {t h : List UInt8} {r : List (List UInt8)} (hc : c ≠ 32) (ht : sp t = h :: r) : sp (c :: t) = (c :: h) :: r := by
  rw [sp, if_neg hc, ht]
theorem index_blank (t : List UInt8) : Lib.index (32 :: t) [32] = 0 := by
  unfold Lib.index
  rw [if_pos (by simp)]
theorem index_byte {c : UInt8} (t : List UInt8) (hc : c ≠ 32) : Lib.index (c :: t) [32] = if Lib.index t [32] == -1 then -1 else Lib.index t [32] + 1 := by
  rw [Lib.index, if_neg]
  simp
  exact fun e => hc e.symm
theorem split_sp : ∀ l : List UInt8, Lib.splitK [32] 0 (Lib.count l [32]) l = sp l
  | [] => by
    rw [Lib.count_miss (by decide)]
    rfl
  | c :: t => by
    have ih := split_sp t
    by_cases hc : c = 32
    · subst hc
      rw [Lib.count_hit (i := 0) (by decide) (index_blank t), Nat.add_comm, Lib.splitK, if_neg (by rw [index_blank]; decide), index_blank, sp_blank]
      show [] :: Lib.splitK [32] 0 (Lib.count t [32]) t = _
      rw [ih]
    · have hi := index_byte t hc
      have hge := Lib.index_ge t [32]
      by_cases h1 : Lib.index t [32] = -1
      · rw [if_pos (by rw [h1]; rfl)] at hi
        rw [Lib.count_miss h1] at ih
        rw [Lib.count_miss hi]
        exact (sp_byte hc ih.symm).symm
      · rw [if_neg (by rw [beq_iff_eq]; exact h1)] at hi
        obtain ⟨i, hi'⟩ : ∃ i : Nat, Lib.index t [32] = i := ⟨(Lib.index t [32]).toNat, by omega⟩
        rw [hi'] at hi
        have hi2 : Lib.index (c :: t) [32] = ((i + 1 : Nat) : Int) := by rw [hi]; omega
        rw [Lib.count_hit (by decide) hi', Nat.add_comm, Lib.splitK, if_neg (by rw [hi', beq_iff_eq]; omega), hi'] at ih
        rw [Lib.count_hit (by decide) hi2, Nat.add_comm, Lib.splitK, if_neg (by rw [hi2, beq_iff_eq]; omega), hi2]
        simp only [Int.toNat_natCast, List.length_singleton, Nat.add_zero] at ih ⊢
        rw [sp_byte hc ih.symm, List.take_succ_cons, show i + 1 + 1 = (i + 1) + 1 from rfl, List.drop_succ_cons]

/-- One blank between each two words, no byte below a blank; b: is there a word's byte ahead? -/
def sepOk : Bool → List UInt8 → Bool
  | b, [] => b
  | b, c :: t => if c = 32 then b && sepOk false t else decide (32 ≤ c.toNat) && sepOk true t
theorem sepOk_end (b : Bool) : sepOk b [] = b := by rw [sepOk]
theorem sepOk_blank (b : Bool) {c : UInt8} (t : List UInt8) (h : c = 32) : sepOk b (c :: t) = (b && sepOk false t) := by rw [sepOk, if_pos h]
theorem sepOk_byte (b : Bool) {c : UInt8} (t : List UInt8) (h : c ≠ 32) : sepOk b (c :: t) = (decide (32 ≤ c.toNat) && sepOk true t) := by rw [sepOk, if_neg h]
def att (w : List UInt8) : List (List UInt8) → List (List UInt8)
  | h :: r => (w ++ h) :: r
  | [] => [w]
theorem wsp_sp : ∀ (l w : List UInt8), wsp w l = if sepOk (decide (w ≠ [])) l then some (att w (sp l)) else none
  | [], w => by
    rw [wsp_end, sepOk_end]
    by_cases h : w = []
    · rw [if_pos h, decide_eq_false (not_not_intro h), if_neg Bool.false_ne_true]
    · rw [if_neg h, decide_eq_true h, if_pos rfl]
      simp [sp, att]
  | c :: t, w => by
    by_cases hc : c = 32
    · rw [wsp_blank w t hc, sepOk_blank _ t hc, wsp_sp t []]
      subst hc
      rw [sp_blank]
      by_cases h : w = []
      · rw [if_pos h, decide_eq_false (not_not_intro h), Bool.false_and, if_neg Bool.false_ne_true]
      · rw [if_neg h, decide_eq_true h, Bool.true_and, show decide (([] : List UInt8) ≠ []) = false from by decide]
        cases sepOk false t with
        | false => rfl
        | true =>
          rw [if_pos rfl, if_pos rfl]
          obtain ⟨h', r, e⟩ := sp_some t
          simp [e, att]
    · rw [sepOk_byte _ t hc]
      rcases Nat.lt_or_ge c.toNat 32 with hl | hl
      · rw [wsp_low w t hc hl, decide_eq_false (by omega), Bool.false_and, if_neg Bool.false_ne_true]
      · rw [wsp_byte w t hc hl, decide_eq_true hl, Bool.true_and, wsp_sp t (w ++ [c]), decide_eq_true (by simp)]
        obtain ⟨h', r, e⟩ := sp_some t
        rw [sp_byte hc e, e]
        simp [att]
/-- The words of a line that is not empty. -/
theorem words_sp {l : List UInt8} (h : l ≠ []) : wordsL l = if sepOk false l then some (sp l) else none := by
  unfold wordsL
  rw [if_neg h, wsp_sp, show decide (([] : List UInt8) ≠ []) = false from by decide]
  obtain ⟨h', r, e⟩ := sp_some l
  rw [e]
  rfl
/-- Bytes above all blanks. -/
theorem sepOk_high (l : List UInt8) : ∀ (k p : Nat) (b : Bool), 1 ≤ k → (∀ j, j < k → ∃ h : p + j < l.length, 128 ≤ l[p + j].toNat) → sepOk b (l.drop p) = sepOk true (l.drop (p + k))
  | 0, _, _, h, _ => by omega
  | k + 1, p, b, _, hall => by
    obtain ⟨h0, hb⟩ := hall 0 (by omega)
    have hp : p < l.length := h0
    rw [List.drop_eq_getElem_cons hp]
    have hb' : 128 ≤ l[p].toNat := hb
    have hne : l[p] ≠ 32 := by
      intro e
      rw [e] at hb'
      have : (32 : UInt8).toNat = 32 := rfl
      omega
    rw [sepOk_byte b _ hne, decide_eq_true (by omega), Bool.true_and]
    rcases Nat.eq_zero_or_pos k with h | h
    · subst h; rfl
    · rw [sepOk_high l k (p + 1) true h (fun j hj => by
        obtain ⟨h1, h2⟩ := hall (j + 1) (by omega)
        have e : p + (j + 1) = p + 1 + j := by omega
        exact ⟨by omega, by simpa only [e] using h2⟩), show p + 1 + k = p + (k + 1) by omega]

theorem decode_cont {s : ByteArray} {p k : Nat} (h : (decide (p + k < s.size) && (s.get! (p + k)).toNat / 64 == 2) = true) : ∃ h : p + k < s.size, 128 ≤ (s[p + k]'h).toNat := by
  rw [Bool.and_eq_true, decide_eq_true_iff, beq_iff_eq] at h
  refine ⟨h.1, ?_⟩
  have e : s.get! (p + k) = s[p + k]'h.1 := by
    show s.get! (p + k) = _
    have := get_at s (p + k) h.1
    simpa using this
  rw [← e]
  omega
/-- A rune of many bytes: each is above 127. -/
theorem decode_bytes (s : ByteArray) (p : Nat) (h : p < s.size) (ha : 128 ≤ (s[p]'h).toNat) : ∀ j, j < (Utf8.decode s p).2 → ∃ h : p + j < s.size, 128 ≤ (s[p + j]'h).toNat := by
  intro j hj
  have h0 : ∃ h : p + 0 < s.size, 128 ≤ (s[p + 0]'h).toNat := ⟨h, ha⟩
  unfold Utf8.decode at hj
  simp only [get_at s p h] at hj
  rw [if_neg (by omega)] at hj
  split at hj
  · rename_i hc
    rw [Bool.and_eq_true] at hc
    have c1 := decode_cont hc.2
    split at hj
    · match j, hj with
      | 0, _ => exact h0
      | 1, _ => exact c1
      | n + 2, hj => exact absurd (show n + 2 < 2 from hj) (by omega)
    · match j, hj with
      | 0, _ => exact h0
      | n + 1, hj => simp at hj
  · split at hj
    · rename_i hc
      rw [Bool.and_eq_true, Bool.and_eq_true] at hc
      have c1 := decode_cont hc.1.2
      have c2 := decode_cont hc.2
      split at hj
      · match j, hj with
        | 0, _ => exact h0
        | 1, _ => exact c1
        | 2, _ => exact c2
        | n + 3, hj => exact absurd (show n + 3 < 3 from hj) (by omega)
      · match j, hj with
        | 0, _ => exact h0
        | n + 1, hj => simp at hj
    · split at hj
      · rename_i hc
        rw [Bool.and_eq_true, Bool.and_eq_true, Bool.and_eq_true] at hc
        have c1 := decode_cont hc.1.1.2
        have c2 := decode_cont hc.1.2
        have c3 := decode_cont hc.2
        split at hj
        · match j, hj with
          | 0, _ => exact h0
          | 1, _ => exact c1
          | 2, _ => exact c2
          | 3, _ => exact c3
          | n + 4, hj => exact absurd (show n + 4 < 4 from hj) (by omega)
        · match j, hj with
          | 0, _ => exact h0
          | n + 1, hj => simp at hj
      · match j, hj with
        | 0, _ => exact h0
        | n + 1, hj => simp at hj
end Go.Proofs.YtcofhjkmpkfbfaaDoor
