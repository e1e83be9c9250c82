/-
  Plain: digits and the numbers that they tell.
-/
import Derived.Test.YtolpggmcjengcaaDoorStr
import GoSem.Claim
namespace Go.Proofs.YtolpggmcjengcaaDoor

theorem bl_toList (s : ByteArray) : s.toList = bl s := ByteArray.toList_eq s
/-- The bytes of the digits 0 to 9. -/
def digs : List UInt8 := [48, 49, 50, 51, 52, 53, 54, 55, 56, 57]
theorem in_digs (c : UInt8) : inL digs c = decide (48 ≤ c.toNat ∧ c.toNat ≤ 57) := by
  have all : ∀ j : Fin 256, inL digs (UInt8.ofNat j.val) = decide (48 ≤ j.val ∧ j.val ≤ 57) := by decide +kernel
  have h := all ⟨c.toNat, c.toNat_lt⟩
  simpa using h
theorem only_digs (l : List UInt8) : onlyL l digs = true ↔ ∀ x ∈ l, 48 ≤ x.toNat ∧ x.toNat ≤ 57 := by
  unfold onlyL
  rw [List.all_eq_true]
  simp only [in_digs, decide_eq_true_iff]

/-- The number that digits tell, behind a. -/
def v10 (a : Nat) (l : List UInt8) : Nat := l.foldl (fun a x => 10 * a + (x.toNat - 48)) a
theorem v10_nil (a : Nat) : v10 a [] = a := rfl
theorem v10_cons (a : Nat) (x : UInt8) (l : List UInt8) : v10 a (x :: l) = v10 (10 * a + (x.toNat - 48)) l := by unfold v10; rw [List.foldl_cons]
theorem v10_snoc (a : Nat) (l : List UInt8) (x : UInt8) : v10 a (l ++ [x]) = 10 * v10 a l + (x.toNat - 48) := by
  induction l generalizing a with
  | nil => rfl
  | cons y l ih => rw [List.cons_append, v10_cons, ih, v10_cons]
theorem v10_append (a : Nat) (l m : List UInt8) : v10 a (l ++ m) = v10 (v10 a l) m := by
  induction l generalizing a with
  | nil => rfl
  | cons y l ih => rw [List.cons_append, v10_cons, ih, v10_cons]
theorem v10_ge (a : Nat) (l : List UInt8) : a ≤ v10 a l := by
  induction l generalizing a with
  | nil => exact Nat.le_refl _
  | cons y l ih =>
    rw [v10_cons]
    have := ih (10 * a + (y.toNat - 48))
    omega
theorem v10_split (a : Nat) (l : List UInt8) : v10 a l = a * 10 ^ l.length + v10 0 l := by
  induction l generalizing a with
  | nil => simp [v10_nil]
  | cons y l ih => rw [v10_cons, v10_cons, ih, ih (10 * 0 + (y.toNat - 48)), List.length_cons, Nat.pow_succ, Nat.add_mul, Nat.mul_zero, Nat.zero_add, Nat.add_assoc]; congr 1; ac_rfl
theorem v10_lt (l : List UInt8) (h : ∀ x ∈ l, 48 ≤ x.toNat ∧ x.toNat ≤ 57) : v10 0 l < 10 ^ l.length := by
  induction l with
  | nil => simp [v10_nil]
  | cons y l ih =>
    have h1 := h y (by simp)
    have h2 := ih fun x hx => h x (by simp [hx])
    rw [v10_cons, v10_split, List.length_cons, Nat.pow_succ]
    have h3 : (10 * 0 + (y.toNat - 48)) * 10 ^ l.length ≤ 9 * 10 ^ l.length := Nat.mul_le_mul_right _ (by omega)
    omega
theorem v10_low (x : UInt8) (l : List UInt8) (h : 49 ≤ x.toNat) : 10 ^ l.length ≤ v10 0 (x :: l) := by
  rw [v10_cons, v10_split]
  have h3 : 1 * 10 ^ l.length ≤ (10 * 0 + (x.toNat - 48)) * 10 ^ l.length := Nat.mul_le_mul_right _ (by omega)
  omega
theorem less_num : ∀ (x y : List UInt8), x.length = y.length → (∀ c ∈ x, 48 ≤ c.toNat ∧ c.toNat ≤ 57) → (∀ c ∈ y, 48 ≤ c.toNat ∧ c.toNat ≤ 57) → Op.bytesLess x y = decide (v10 0 x < v10 0 y)
  | [], [], _, _, _ => by simp [Op.bytesLess, v10_nil]
  | [], _ :: _, h, _, _ => by simp at h
  | _ :: _, [], h, _, _ => by simp at h
  | a :: x, b :: y, h, hx, hy => by
    have hl : x.length = y.length := by simpa using h
    have ha := hx a (by simp)
    have hb := hy b (by simp)
    have hx' : ∀ c ∈ x, 48 ≤ c.toNat ∧ c.toNat ≤ 57 := fun c hc => hx c (List.mem_cons_of_mem _ hc)
    have hy' : ∀ c ∈ y, 48 ≤ c.toNat ∧ c.toNat ≤ 57 := fun c hc => hy c (List.mem_cons_of_mem _ hc)
    have i1 := v10_lt x hx'
    have i2 := v10_lt y hy'
    rw [Op.bytesLess, less_num x y hl hx' hy', v10_cons, v10_cons, v10_split (10 * 0 + (a.toNat - 48)) x, v10_split (10 * 0 + (b.toNat - 48)) y, hl]
    rw [hl] at i1
    simp only [Nat.mul_zero, Nat.zero_add]
    rcases Nat.lt_trichotomy a.toNat b.toNat with h1 | h1 | h1
    · have e1 : decide (a < b) = true := decide_eq_true (UInt8.lt_iff_toNat_lt.2 h1)
      have e2 : (a.toNat - 48 + 1) * 10 ^ y.length ≤ (b.toNat - 48) * 10 ^ y.length := Nat.mul_le_mul_right _ (by omega)
      rw [Nat.succ_mul] at e2
      rw [e1, Bool.true_or, eq_comm, decide_eq_true_iff]
      omega
    · have e0 : a = b := UInt8.toNat.inj h1
      subst e0
      have e1 : decide (a < a) = false := decide_eq_false (by rw [UInt8.lt_iff_toNat_lt]; omega)
      rw [e1, Bool.false_or, beq_self_eq_true, Bool.true_and]
      congr 1
      rw [eq_iff_iff]
      omega
    · have e1 : decide (a < b) = false := decide_eq_false (by rw [UInt8.lt_iff_toNat_lt]; omega)
      have e3 : (a == b) = false := by rw [beq_eq_false_iff_ne]; rintro rfl; omega
      have e2 : (b.toNat - 48 + 1) * 10 ^ y.length ≤ (a.toNat - 48) * 10 ^ y.length := Nat.mul_le_mul_right _ (by omega)
      rw [Nat.succ_mul] at e2
      rw [e1, e3, Bool.false_and, Bool.false_or, eq_comm, decide_eq_false_iff_not]
      omega
theorem v10_inj : ∀ (x y : List UInt8), x.length = y.length → (∀ c ∈ x, 48 ≤ c.toNat ∧ c.toNat ≤ 57) → (∀ c ∈ y, 48 ≤ c.toNat ∧ c.toNat ≤ 57) → v10 0 x = v10 0 y → x = y
  | [], [], _, _, _, _ => rfl
  | [], _ :: _, h, _, _, _ => by simp at h
  | _ :: _, [], h, _, _, _ => by simp at h
  | a :: x, b :: y, h, hx, hy, e => by
    have hl : x.length = y.length := by simpa using h
    have ha := hx a (by simp)
    have hb := hy b (by simp)
    have hx' : ∀ c ∈ x, 48 ≤ c.toNat ∧ c.toNat ≤ 57 := fun c hc => hx c (List.mem_cons_of_mem _ hc)
    have hy' : ∀ c ∈ y, 48 ≤ c.toNat ∧ c.toNat ≤ 57 := fun c hc => hy c (List.mem_cons_of_mem _ hc)
    have i1 := v10_lt x hx'
    have i2 := v10_lt y hy'
    rw [v10_cons, v10_cons, v10_split (10 * 0 + (a.toNat - 48)) x, v10_split (10 * 0 + (b.toNat - 48)) y, hl] at e
    rw [hl] at i1
    simp only [Nat.mul_zero, Nat.zero_add] at e
    rcases Nat.lt_trichotomy a.toNat b.toNat with h1 | h1 | h1
    · have e2 : (a.toNat - 48 + 1) * 10 ^ y.length ≤ (b.toNat - 48) * 10 ^ y.length := Nat.mul_le_mul_right _ (by omega)
      rw [Nat.succ_mul] at e2
      omega
    · have e0 : a = b := UInt8.toNat.inj h1
      subst e0
      rw [v10_inj x y hl hx' hy' (by omega)]
    · have e2 : (b.toNat - 48 + 1) * 10 ^ y.length ≤ (a.toNat - 48) * 10 ^ y.length := Nat.mul_le_mul_right _ (by omega)
      rw [Nat.succ_mul] at e2
      omega
/-- 2^64 - 1 in digits. -/
def mostL : List UInt8 := [49, 56, 52, 52, 54, 55, 52, 52, 48, 55, 51, 55, 48, 57, 53, 53, 49, 54, 49, 53]
theorem most_val : v10 0 mostL = 18446744073709551615 := by decide
theorem most_digs : ∀ c ∈ mostL, 48 ≤ c.toNat ∧ c.toNat ≤ 57 := by decide

/-- Digits as said: some, and without a leading 0 but of 0 itself. -/
def goodL (l : List UInt8) : Bool := !l.isEmpty && onlyL l digs && !(decide (1 < l.length) && decide (l.head? = some 48))
def numV (l : List UInt8) : Nat := if goodL l ∧ v10 0 l ≤ 18446744073709551615 then v10 0 l else 0
def numE (l : List UInt8) : Int := if goodL l then (if v10 0 l ≤ 18446744073709551615 then 0 else 6) else 2
theorem numV_lt (l : List UInt8) : numV l < 18446744073709551616 := by unfold numV; split <;> omega
theorem num_bad {l : List UInt8} (h : goodL l = false) : numV l = 0 ∧ numE l = 2 := by unfold numV numE; rw [h]; simp
theorem num_over {l : List UInt8} (h : goodL l = true) (h2 : 18446744073709551615 < v10 0 l) : numV l = 0 ∧ numE l = 6 := by
  unfold numV numE
  rw [h, if_neg (by omega), if_pos rfl, if_neg (by omega)]
  exact ⟨rfl, rfl⟩
theorem num_ok {l : List UInt8} (h : goodL l = true) (h2 : v10 0 l ≤ 18446744073709551615) : numV l = v10 0 l ∧ numE l = 0 := by
  unfold numV numE
  rw [h, if_pos ⟨rfl, h2⟩, if_pos rfl, if_pos h2]
  exact ⟨rfl, rfl⟩
theorem good_long {l : List UInt8} (h : goodL l = true) (k : Nat) (hk : 1 ≤ k) (hl : k < l.length) : 10 ^ k ≤ v10 0 l := by
  unfold goodL at h
  simp only [Bool.and_eq_true, Bool.not_eq_true', Bool.and_eq_false_iff, decide_eq_false_iff_not, only_digs] at h
  obtain ⟨⟨h1, h2⟩, h3⟩ := h
  match l, hl with
  | x :: m, hl =>
    have hx := h2 x (by simp)
    have hne : ¬ x = 48 := by
      rcases h3 with h3 | h3
      · rw [List.length_cons] at hl h3; omega
      · intro e; exact h3 (by simp [e])
    have h49 : 49 ≤ x.toNat := by
      rcases Nat.lt_or_ge x.toNat 49 with h' | h'
      · exact absurd (UInt8.toNat.inj (show x.toNat = (48 : UInt8).toNat by have : (48 : UInt8).toNat = 48 := rfl; omega)) hne
      · exact h'
    refine Nat.le_trans (Nat.pow_le_pow_right (by omega) ?_) (v10_low x m h49)
    simp at hl
    omega
theorem good_short {l : List UInt8} (h : goodL l = true) (k : Nat) (hl : l.length ≤ k) : v10 0 l < 10 ^ k := by
  unfold goodL at h
  simp only [Bool.and_eq_true, only_digs] at h
  exact Nat.lt_of_lt_of_le (v10_lt l h.1.2) (Nat.pow_le_pow_right (by omega) hl)

/-! ### the digits of a number lead back to it -/
theorem decL_digs (n : Nat) : ∀ c ∈ decL n, 48 ≤ c.toNat ∧ c.toNat ≤ 57 := by
  induction n using Nat.strongRecOn with
  | _ n ih =>
    rcases Nat.lt_or_ge n 10 with h | h
    · rw [decL_one h]
      intro c hc
      obtain rfl : c = UInt8.ofNat (48 + n) := by simpa using hc
      simp
      omega
    · rw [decL_more h]
      intro c hc
      rcases List.mem_append.1 hc with h1 | h1
      · exact ih (n / 10) (by omega) c h1
      · obtain rfl : c = UInt8.ofNat (48 + n % 10) := by simpa using h1
        simp
        omega
theorem decL_val (n : Nat) : v10 0 (decL n) = n := by
  induction n using Nat.strongRecOn with
  | _ n ih =>
    rcases Nat.lt_or_ge n 10 with h | h
    · rw [decL_one h]
      simp [v10_cons, v10_nil]
      omega
    · rw [decL_more h, v10_snoc, ih (n / 10) (by omega)]
      simp
      omega
theorem decL_head (n : Nat) (h : 10 ≤ n) : ∃ c l, decL n = c :: l ∧ 49 ≤ c.toNat := by
  induction n using Nat.strongRecOn with
  | _ n ih =>
    rcases Nat.lt_or_ge (n / 10) 10 with h1 | h1
    · rw [decL_more h, decL_one h1]
      refine ⟨_, _, rfl, ?_⟩
      simp
      omega
    · obtain ⟨c, l, e, hc⟩ := ih (n / 10) (by omega) h1
      rw [decL_more h, e]
      exact ⟨c, _, rfl, hc⟩
theorem decL_good (n : Nat) : goodL (decL n) = true := by
  unfold goodL
  have h1 : (decL n).isEmpty = false := by
    cases he : decL n with
    | nil => have := decL_pos n; rw [he] at this; simp at this
    | cons _ _ => rfl
  have h2 : onlyL (decL n) digs = true := (only_digs _).2 (decL_digs n)
  have h3 : (decide (1 < (decL n).length) && decide ((decL n).head? = some 48)) = false := by
    rcases Nat.lt_or_ge n 10 with h | h
    · rw [decL_one h]; simp
    · obtain ⟨c, l, e, hc⟩ := decL_head n h
      rw [e, List.head?_cons]
      have : ¬ (some c = some (48 : UInt8)) := by
        intro he
        injection he with he
        subst he
        have : (48 : UInt8).toNat = 48 := rfl
        omega
      rw [decide_eq_false this, Bool.and_false]
  rw [h1, h2, h3]
  rfl
end Go.Proofs.YtolpggmcjengcaaDoor
