/-
  Plain: numbers as lists of bits, their products, and what of them lies above a place.
-/
import Derived.Test.YtgefjlamlgmijaaDoorPriceN
namespace Go.Proofs.YtgefjlamlgmijaaDoor

/-- What digits are worth, the lowest first. -/
def wt : List Nat → Nat
  | [] => 0
  | x :: l => x + 2 * wt l
theorem wt_append (l m : List Nat) : wt (l ++ m) = wt l + 2 ^ l.length * wt m := by
  induction l with
  | nil => simp [wt]
  | cons x l ih => simp only [List.cons_append, wt, ih, List.length_cons, Nat.pow_succ]; rw [Nat.mul_add, Nat.mul_comm (2 ^ l.length) 2, Nat.mul_assoc, Nat.add_assoc]
theorem wt_one (x : Nat) : wt [x] = x := by simp [wt]
theorem wt_snoc (l : List Nat) (x : Nat) : wt (l ++ [x]) = wt l + 2 ^ l.length * x := by rw [wt_append, wt_one]
theorem wt_take (l : List Nat) (k : Nat) (h : k < l.length) : wt (l.take (k + 1)) = wt (l.take k) + 2 ^ k * l[k] := by
  rw [List.take_succ_eq_append_getElem h, wt_snoc, List.length_take, Nat.min_eq_left (by omega)]
theorem wt_zero (n : Nat) : wt (List.replicate n 0) = 0 := by
  induction n with
  | zero => rfl
  | succ n ih => rw [List.replicate_succ, wt, ih]
theorem wt_split (l : List Nat) (k : Nat) (h : k < l.length) : wt l = wt (l.take k) + 2 ^ k * (l[k] + 2 * wt (l.drop (k + 1))) := by
  have e : l = l.take k ++ l[k] :: l.drop (k + 1) := by rw [← List.drop_eq_getElem_cons h, List.take_append_drop]
  conv => lhs; rw [e]
  rw [wt_append, wt, List.length_take, Nat.min_eq_left (by omega)]
theorem wt_set (l : List Nat) (k v : Nat) (h : k < l.length) : wt (l.set k v) + 2 ^ k * l[k] = wt l + 2 ^ k * v := by
  have h1 := wt_split l k h
  have h2 := wt_split (l.set k v) k (by rw [List.length_set]; exact h)
  have h3 : (l.set k v).take k = l.take k := by
    rw [List.take_set]
    exact List.set_eq_of_length_le (by rw [List.length_take]; omega)
  have h4 : (l.set k v).drop (k + 1) = l.drop (k + 1) := by
    rw [List.drop_set, if_pos (by omega)]
  rw [h3, h4, List.getElem_set_self, Nat.mul_add] at h2
  rw [Nat.mul_add] at h1
  omega
theorem wt_lt (l : List Nat) (h : ∀ x ∈ l, x ≤ 1) : wt l < 2 ^ l.length := by
  induction l with
  | nil => simp [wt]
  | cons x l ih =>
    have h1 := h x (by simp)
    have h2 := ih fun y hy => h y (by simp [hy])
    rw [wt, List.length_cons, Nat.pow_succ]
    omega
theorem wt_ge (l : List Nat) (k : Nat) (h : k < l.length) : 2 ^ k * l[k] ≤ wt l := by
  rw [wt_split l k h, Nat.mul_add]
  omega
/-- The digits are the number's bits. -/
theorem wt_bit (l : List Nat) (h : ∀ x ∈ l, x ≤ 1) (k : Nat) (hk : k < l.length) : wt l / 2 ^ k % 2 = l[k] := by
  have h1 : wt (l.take k) < 2 ^ k := by
    have := wt_lt (l.take k) fun x hx => h x (List.mem_of_mem_take hx)
    rwa [List.length_take, Nat.min_eq_left (by omega)] at this
  rw [wt_split l k hk, Nat.add_mul_div_left _ _ (Nat.two_pow_pos k), Nat.div_eq_of_lt h1, Nat.zero_add, Nat.add_mul_mod_self_left]
  have := h l[k] (List.getElem_mem hk)
  omega

/-- One step of the product. -/
theorem conv_step (a b os : List Nat) (i k : Nat) (hi : i < a.length) (hk : k < b.length) (hl : i + k < os.length)
    (h : wt os = wt (a.take i) * wt b + 2 ^ i * a[i] * wt (b.take k)) :
    wt (os.set (i + k) (os[i + k] + a[i] * b[k])) = wt (a.take i) * wt b + 2 ^ i * a[i] * wt (b.take (k + 1)) := by
  have h1 := wt_set os (i + k) (os[i + k] + a[i] * b[k]) hl
  rw [Nat.mul_add, ← Nat.add_assoc, Nat.add_right_comm] at h1
  have h2 := Nat.add_right_cancel h1
  have e : 2 ^ (i + k) * (a[i] * b[k]) = 2 ^ i * a[i] * (2 ^ k * b[k]) := by rw [Nat.pow_add]; ac_rfl
  rw [h2, h, wt_take b k hk, Nat.mul_add (2 ^ i * a[i]), e, Nat.add_assoc]
theorem conv_row (a b os : List Nat) (i : Nat) (hi : i < a.length) (h : wt os = wt (a.take i) * wt b + 2 ^ i * a[i] * wt (b.take b.length)) :
    wt os = wt (a.take (i + 1)) * wt b := by
  rw [h, List.take_length, wt_take a i hi, Nat.add_mul]
theorem conv_zero (a b os : List Nat) (i : Nat) (hi : i < a.length) (h : wt os = wt (a.take i) * wt b) : wt os = wt (a.take i) * wt b + 2 ^ i * a[i] * wt (b.take 0) := by
  rw [List.take_zero, show wt [] = 0 from rfl, Nat.mul_zero, Nat.add_zero]
  exact h
/-- One carry. -/
theorem carry_step (os : List Nat) (i : Nat) (h : i + 1 < os.length) :
    wt ((os.set (i + 1) (os[i + 1] + os[i] / 2)).set i (os[i] % 2)) = wt os := by
  have h1 := wt_set os (i + 1) (os[i + 1] + os[i] / 2) h
  have h2 := wt_set (os.set (i + 1) (os[i + 1] + os[i] / 2)) i (os[i] % 2) (by rw [List.length_set]; omega)
  rw [List.getElem_set_ne (by omega)] at h2
  rw [Nat.mul_add, ← Nat.add_assoc, Nat.add_right_comm] at h1
  have h3 := Nat.add_right_cancel h1
  have h4 : 2 ^ i * os[i] = 2 ^ (i + 1) * (os[i] / 2) + 2 ^ i * (os[i] % 2) := by
    rw [Nat.pow_succ, Nat.mul_assoc, ← Nat.mul_add, Nat.div_add_mod]
  omega
theorem carry_end (os : List Nat) (i A : Nat) (h : i + 1 = os.length) (hw : wt os = A) (hA : A < 2 ^ i) (hb : ∀ (j : Nat) (hj : j < os.length), j < i → os[j] ≤ 1) : ∀ x ∈ os, x ≤ 1 := by
  intro x hx
  obtain ⟨j, hj, rfl⟩ := List.getElem_of_mem hx
  by_cases hji : j < i
  · exact hb j hj hji
  · obtain rfl : j = i := by omega
    have h1 := wt_ge os j hj
    rw [hw] at h1
    rcases Nat.eq_zero_or_pos os[j] with h0 | h0
    · omega
    · have := Nat.le_trans (Nat.mul_le_mul_left (2 ^ j) h0) h1
      omega

/-- What of P lies at place s and above, scaled. -/
def part (P s : Nat) (e : Int) : Nat := scale (P / 2 ^ s * 2 ^ s) e
theorem part_top (P s : Nat) (e : Int) (h : P < 2 ^ s) : part P s e = 0 := by
  unfold part
  rw [Nat.div_eq_of_lt h, Nat.zero_mul, scale_zero]
theorem part_all (P : Nat) (e : Int) : part P 0 e = scale P e := by
  unfold part
  rw [Nat.pow_zero, Nat.div_one, Nat.mul_one]
theorem part_zero (P i : Nat) (e : Int) (h : P / 2 ^ i % 2 = 0) : part P i e = part P (i + 1) e := by
  unfold part
  have e1 : P / 2 ^ i = 2 * (P / 2 ^ (i + 1)) := by rw [Nat.pow_succ, ← Nat.div_div_eq_div_mul]; omega
  rw [e1, Nat.pow_succ]
  congr 1
  ac_rfl
theorem part_below (P i : Nat) (e : Int) (h : (i : Int) + e < 0) : part P i e = part P (i + 1) e := by
  rcases Nat.mod_two_eq_zero_or_one (P / 2 ^ i) with h0 | h0
  · exact part_zero P i e h0
  · unfold part
    obtain ⟨d, hd⟩ := Int.eq_ofNat_of_zero_le (show 0 ≤ -e - (i : Int) - 1 by omega)
    have e1 : P / 2 ^ i = 2 * (P / 2 ^ (i + 1)) + 1 := by rw [Nat.pow_succ, ← Nat.div_div_eq_div_mul]; omega
    generalize P / 2 ^ (i + 1) = X at *
    have hp := Nat.two_pow_pos i
    have hp1 := Nat.two_pow_pos (i + 1)
    rw [scale_down _ (i + 1 + d) e (by omega), scale_down _ (i + 1 + d) e (by omega), Nat.pow_add 2 (i + 1) d, ← Nat.div_div_eq_div_mul, ← Nat.div_div_eq_div_mul, Nat.mul_div_cancel _ hp1, e1]
    have e2 : (2 * X + 1) * 2 ^ i / 2 ^ (i + 1) = X := by
      rw [Nat.pow_succ, Nat.mul_comm (2 ^ i) 2, Nat.mul_div_mul_right _ _ hp]
      omega
    rw [e2]
theorem scale_mul (Y i a : Nat) (e : Int) (h : (i : Int) + e = a) : scale (Y * 2 ^ i) e = Y * 2 ^ a := by
  rcases Int.le_total 0 e with h0 | h0
  · obtain ⟨k, rfl⟩ := Int.eq_ofNat_of_zero_le h0
    obtain rfl : a = i + k := by omega
    rw [scale_up _ k _ rfl, Nat.pow_add, Nat.mul_assoc]
  · obtain ⟨k, hk⟩ := Int.eq_ofNat_of_zero_le (show 0 ≤ -e by omega)
    obtain rfl : i = a + k := by omega
    rw [scale_down _ k e (by omega), Nat.pow_add, ← Nat.mul_assoc, Nat.mul_div_cancel _ (Nat.two_pow_pos k)]
theorem part_one (P i a : Nat) (e : Int) (h : (i : Int) + e = a) (h1 : P / 2 ^ i % 2 = 1) (ha : a ≤ 63) (hb : part P (i + 1) e < 18446744073709551616) :
    part P i e = part P (i + 1) e + 2 ^ a ∧ part P (i + 1) e + 2 ^ a < 18446744073709551616 := by
  unfold part at *
  have e1 : P / 2 ^ i = 2 * (P / 2 ^ (i + 1)) + 1 := by rw [Nat.pow_succ, ← Nat.div_div_eq_div_mul]; omega
  rw [e1]
  generalize P / 2 ^ (i + 1) = X at *
  rw [Nat.pow_succ, Nat.mul_comm (2 ^ i) 2, ← Nat.mul_assoc, scale_mul _ i a e h] at hb ⊢
  rw [scale_mul _ i a e h, Nat.add_mul, Nat.one_mul]
  refine ⟨by rw [Nat.mul_comm 2 X], ?_⟩
  have e2 : 18446744073709551616 = 2 ^ (63 - a) * (2 * 2 ^ a) := by
    rw [← p64, Nat.mul_comm 2, ← Nat.pow_succ, ← Nat.pow_add]
    congr 1
    omega
  have h3 : X < 2 ^ (63 - a) := by
    rw [e2, Nat.mul_assoc] at hb
    exact Nat.lt_of_mul_lt_mul_right hb
  have h4 : (X + 1) * (2 * 2 ^ a) ≤ 18446744073709551616 := by
    rw [e2]
    exact Nat.mul_le_mul_right _ h3
  rw [Nat.succ_mul] at h4
  have h5 := Nat.two_pow_pos a
  rw [Nat.mul_assoc]
  generalize X * (2 * 2 ^ a) = Y at *
  generalize 2 ^ a = J at *
  omega
theorem part_over (P i a : Nat) (e : Int) (h : (i : Int) + e = a) (h1 : P / 2 ^ i % 2 = 1) (ha : 64 ≤ a) : dueN P e = 18446744073709551615 := by
  apply due_max
  have h2 : P / 2 ^ i * 2 ^ i ≤ P := Nat.div_mul_le_self _ _
  refine Nat.le_trans ?_ (scale_mono h2 e)
  rw [scale_mul _ i a e h, ← p64]
  have h3 : 2 ^ 64 ≤ 2 ^ a := Nat.pow_le_pow_right (by omega) ha
  have h4 : 1 ≤ P / 2 ^ i := by
    clear h2 h3
    generalize P / 2 ^ i = Z at *
    omega
  calc 2 ^ 64 ≤ 2 ^ a := h3
    _ = 1 * 2 ^ a := (Nat.one_mul _).symm
    _ ≤ P / 2 ^ i * 2 ^ a := Nat.mul_le_mul_right _ h4
end Go.Proofs.YtgefjlamlgmijaaDoor
