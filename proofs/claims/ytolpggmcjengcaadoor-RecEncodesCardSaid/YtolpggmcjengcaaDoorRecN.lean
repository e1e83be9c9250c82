/-
  Plain: records, what is wrong with one, its bytes, and the record that bytes are.
-/
import Derived.Test.YtolpggmcjengcaaDoorCur3
import Derived.Test.YtolpggmcjengcaaDoorReal2
import Derived.Test.YtolpggmcjengcaaDoorName2
namespace Go.Proofs.YtolpggmcjengcaaDoor
open Go.RowKit
set_option linter.unusedVariables false

/-- A record. -/
structure RecV where
  seq : Nat
  kind : Int
  name : ByteArray
  lease : Nat
  n : Nat
  bits : Nat
def RecV.cells (r : RecV) : List Value := [.int .u64 (r.seq : Int), .int .i64 r.kind, .string r.name, .int .u64 (r.lease : Int), .int .u64 (r.n : Int), .int .u64 (r.bits : Int)]
def RecV.val (r : RecV) : Value := .agg #[.int .u64 (r.seq : Int), .int .i64 r.kind, .string r.name, .int .u64 (r.lease : Int), .int .u64 (r.n : Int), .int .u64 (r.bits : Int)]
def zeroR : RecV := ⟨0, 0, ⟨#[]⟩, 0, 0, 0⟩
/-- Its numbers are of their widths. -/
structure RecV.Ok (r : RecV) : Prop where
  seq : r.seq < 18446744073709551616
  kind : (Lit.int .i64 r.kind).wf = true
  name : r.name.size ≤ maxLen
  lease : r.lease < 18446744073709551616
  n : r.n < 18446744073709551616
  bits : r.bits < 18446744073709551616

/-- The fields of a kind. -/
def letsB (k : Int) : ByteArray := if k = 1 then ⟨#[110]⟩ else if k = 2 then ⟨#[98]⟩ else if k = 3 ∨ k = 4 then ⟨#[108, 110]⟩ else ⟨#[]⟩
def hasR (k : Int) (c : UInt8) : Bool := inL (bl (letsB k)) c
def hasLe (k : Int) : Bool := decide (k = 3 ∨ k = 4)
def hasNu (k : Int) : Bool := decide (k = 1 ∨ k = 3 ∨ k = 4)
def hasBi (k : Int) : Bool := decide (k = 2)
theorem has_108 (k : Int) : hasR k 108 = hasLe k := by
  unfold hasR hasLe letsB
  by_cases h1 : k = 1
  · subst h1; rfl
  by_cases h2 : k = 2
  · subst h2; rfl
  by_cases h3 : k = 3 ∨ k = 4
  · rw [if_neg h1, if_neg h2, if_pos h3, decide_eq_true h3]; rfl
  · rw [if_neg h1, if_neg h2, if_neg h3, decide_eq_false h3]; rfl
theorem has_110 (k : Int) : hasR k 110 = hasNu k := by
  unfold hasR hasNu letsB
  by_cases h1 : k = 1
  · subst h1; rfl
  by_cases h2 : k = 2
  · subst h2; rfl
  by_cases h3 : k = 3 ∨ k = 4
  · rw [if_neg h1, if_neg h2, if_pos h3, decide_eq_true (by omega)]; rfl
  · rw [if_neg h1, if_neg h2, if_neg h3, decide_eq_false (by omega)]; rfl
theorem has_98 (k : Int) : hasR k 98 = hasBi k := by
  unfold hasR hasBi letsB
  by_cases h1 : k = 1
  · subst h1; rfl
  by_cases h2 : k = 2
  · subst h2; rfl
  by_cases h3 : k = 3 ∨ k = 4
  · rw [if_neg h1, if_neg h2, if_pos h3, decide_eq_false (by omega)]; rfl
  · rw [if_neg h1, if_neg h2, if_neg h3, decide_eq_false (by omega)]; rfl

/-- What is wrong with a record. -/
def rangeR (r : RecV) : Bool := decide (r.seq = 0) || (hasLe r.kind && decide (r.lease = 0)) || (decide (r.kind = 3) && decide (r.n = 0))
def priceR (r : RecV) : Bool := hasBi r.kind && !(decide (cls r.bits = 4) || decide (cls r.bits = 5))
def formR (r : RecV) : Bool := (!hasLe r.kind && !decide (r.lease = 0)) || (!hasNu r.kind && !decide (r.n = 0)) || (!hasBi r.kind && !decide (r.bits = 0))
def kindR (k : Int) : Bool := decide (1 ≤ k) && decide (k ≤ 5)
def checkR (r : RecV) : Int := if kindR r.kind = false then 5 else if tenantL (bl r.name) = false then 7 else if rangeR r then 6 else if priceR r then 13 else if formR r then 2 else 0
def bytesR (r : RecV) : List UInt8 :=
  leB 1 r.kind.toNat ++ leB 8 r.seq ++ (leB 1 r.name.size ++ bl r.name) ++ (if hasLe r.kind then leB 8 r.lease else []) ++ (if hasNu r.kind then leB 8 r.n else []) ++ (if hasBi r.kind then leB 8 r.bits else [])
theorem kindR_iff {k : Int} : kindR k = true ↔ 1 ≤ k ∧ k ≤ 5 := by unfold kindR; simp
/-- A field that its kind has, or nothing. -/
def mayF (is : Bool) (l : List UInt8) (k e : Nat) : List UInt8 × Nat × Nat := if is then takeF l k e 8 else ([], k, e)
/-- Numbers of a cursor behind the first byte. -/
def readR (kind : Int) (l : List UInt8) : RecV × Nat :=
  let s := takeF l 1 0 8
  let t := textF l s.2.1 s.2.2 1 16
  let x := mayF (hasLe kind) l t.2.1 t.2.2
  let y := mayF (hasNu kind) l x.2.1 x.2.2
  let z := mayF (hasBi kind) l y.2.1 y.2.2
  (⟨leV s.1, kind, ⟨t.1.toArray⟩, leV x.1, leV y.1, leV z.1⟩, doneE l z.2.1 z.2.2)
/-- What bytes are decoded as. -/
def decR : List UInt8 → RecV × Int
  | [] => (zeroR, 1)
  | c :: t =>
    if kindR (c.toNat : Int) = false then (zeroR, 5)
    else if (readR (c.toNat : Int) (c :: t)).2 ≠ 0 then (zeroR, ((readR (c.toNat : Int) (c :: t)).2 : Int))
    else if checkR (readR (c.toNat : Int) (c :: t)).1 ≠ 0 then (zeroR, checkR (readR (c.toNat : Int) (c :: t)).1)
    else ((readR (c.toNat : Int) (c :: t)).1, 0)

theorem dec_cons (c : UInt8) (t : List UInt8) : decR (c :: t) = (if kindR (c.toNat : Int) = false then (zeroR, 5) else if (readR (c.toNat : Int) (c :: t)).2 ≠ 0 then (zeroR, ((readR (c.toNat : Int) (c :: t)).2 : Int)) else if checkR (readR (c.toNat : Int) (c :: t)).1 ≠ 0 then (zeroR, checkR (readR (c.toNat : Int) (c :: t)).1) else ((readR (c.toNat : Int) (c :: t)).1, 0)) := rfl
theorem dec_kind {c : UInt8} {t : List UInt8} (h : kindR (c.toNat : Int) = false) : decR (c :: t) = (zeroR, 5) := by rw [dec_cons, if_pos h]
theorem dec_read {c : UInt8} {t : List UInt8} (h : kindR (c.toNat : Int) = true) (h2 : (readR (c.toNat : Int) (c :: t)).2 ≠ 0) : decR (c :: t) = (zeroR, ((readR (c.toNat : Int) (c :: t)).2 : Int)) := by rw [dec_cons, if_neg (by rw [h]; decide), if_pos h2]
theorem dec_check {c : UInt8} {t : List UInt8} (h : kindR (c.toNat : Int) = true) (h2 : (readR (c.toNat : Int) (c :: t)).2 = 0) (h3 : checkR (readR (c.toNat : Int) (c :: t)).1 ≠ 0) : decR (c :: t) = (zeroR, checkR (readR (c.toNat : Int) (c :: t)).1) := by rw [dec_cons, if_neg (by rw [h]; decide), if_neg (by rw [h2]; decide), if_pos h3]
theorem dec_fine {c : UInt8} {t : List UInt8} (h : kindR (c.toNat : Int) = true) (h2 : (readR (c.toNat : Int) (c :: t)).2 = 0) (h3 : checkR (readR (c.toNat : Int) (c :: t)).1 = 0) : decR (c :: t) = ((readR (c.toNat : Int) (c :: t)).1, 0) := by rw [dec_cons, if_neg (by rw [h]; decide), if_neg (by rw [h2]; decide), if_neg (by rw [h3]; decide)]

/-! ### steps of a cursor -/
theorem take_on {l xs rest : List UInt8} {k n : Nat} (h : l.drop k = xs ++ rest) (hn : xs.length = n) (h0 : 0 < n) : takeF l k 0 (n : Int) = (xs, k + n, 0) ∧ l.drop (k + n) = rest := by
  have h1 := congrArg List.length h
  rw [List.length_drop, List.length_append] at h1
  unfold takeF
  rw [if_neg (by omega), if_neg (by omega), h, Int.toNat_natCast, ← hn, List.take_left, ← List.drop_drop, h, List.drop_left]
  exact ⟨rfl, rfl⟩
theorem take_err (l : List UInt8) (k e : Nat) (n : Int) (h : e ≠ 0) : takeF l k e n = ([], k, e) := by
  unfold takeF
  rw [if_pos (.inl h)]
theorem take_ok {l : List UInt8} {k e n : Nat} (h0 : 0 < n) (h : (takeF l k e (n : Int)).2.2 = 0) :
    e = 0 ∧ ∃ xs, takeF l k e (n : Int) = (xs, k + n, 0) ∧ xs.length = n ∧ l.drop k = xs ++ l.drop (k + n) := by
  by_cases he : e = 0
  · subst he
    unfold takeF at h ⊢
    rw [if_neg (by omega)] at h ⊢
    by_cases h1 : ((l.length - k : Nat) : Int) < n
    · rw [if_pos h1] at h
      cases h
    · rw [if_neg h1]
      refine ⟨rfl, (l.drop k).take n, by rw [Int.toNat_natCast], ?_, ?_⟩
      · rw [List.length_take, List.length_drop]
        omega
      · rw [← List.drop_drop, List.take_append_drop]
  · rw [take_err l k e n he] at h
    exact absurd h he
theorem text_err (l : List UInt8) (k e : Nat) (q most : Int) (h : e ≠ 0) : textF l k e q most = ([], k, e) := by
  unfold textF
  rw [take_err l k e _ h]
  simp [h]
theorem sizeI_1 : sizeI 1 = ((1 : Nat) : Int) := by decide
theorem sizeI_8 : sizeI 8 = ((8 : Nat) : Int) := by decide
theorem leB_1 (n : Nat) (h : n < 256) : leV (leB 1 n) = n := by rw [leV_leB]; omega
theorem leB_8 (n : Nat) (h : n < 18446744073709551616) : leV (leB 8 n) = n := by rw [leV_leB]; omega
theorem text_on {l t rest : List UInt8} {k : Nat} (h : l.drop k = leB 1 t.length ++ t ++ rest) (ht : t.length ≤ 16) : textF l k 0 1 16 = (t, k + 1 + t.length, 0) ∧ l.drop (k + 1 + t.length) = rest := by
  rw [List.append_assoc] at h
  obtain ⟨h1, h2⟩ := take_on h (leB_length 1 t.length) (by omega)
  unfold textF
  rw [sizeI_1, h1]
  simp only
  rw [leB_1 _ (by omega), if_neg (by omega), if_neg (by omega)]
  by_cases h0 : t.length = 0
  · have : t = [] := List.eq_nil_of_length_eq_zero h0
    subst this
    refine ⟨?_, h2⟩
    unfold takeF
    simp
  · obtain ⟨h3, h4⟩ := take_on h2 rfl (by omega)
    exact ⟨h3, h4⟩
theorem text_ok {l : List UInt8} {k e : Nat} (h : (textF l k e 1 16).2.2 = 0) :
    e = 0 ∧ ∃ t, textF l k e 1 16 = (t, k + 1 + t.length, 0) ∧ t.length ≤ 16 ∧ l.drop k = leB 1 t.length ++ t ++ l.drop (k + 1 + t.length) := by
  unfold textF at h ⊢
  rw [sizeI_1] at h ⊢
  by_cases h1 : (takeF l k e ((1 : Nat) : Int)).2.2 = 0
  · obtain ⟨rfl, xs, hx, hxl, hd⟩ := take_ok (by omega) h1
    rw [hx] at h ⊢
    simp only at h ⊢
    rw [if_neg (by simp)] at h ⊢
    have hlt := leV_lt xs
    rw [hxl] at hlt
    by_cases h2 : (16 : Int) < 0 ∨ (16 : Int) < (leV xs : Int)
    · rw [if_pos h2] at h
      cases h
    · rw [if_neg h2] at h ⊢
      have hxs : leB 1 (leV xs) = xs := by rw [← hxl]; exact leB_leV xs
      by_cases h3 : leV xs = 0
      · have e1 : takeF l (k + 1) 0 ((leV xs : Nat) : Int) = ([], k + 1, 0) := by
          unfold takeF
          rw [if_pos (by omega)]
        rw [e1]
        refine ⟨by simp, [], rfl, by simp, ?_⟩
        show l.drop k = leB 1 0 ++ [] ++ l.drop (k + 1 + 0)
        rw [← h3, hxs, List.append_nil, h3]
        exact hd
      · obtain ⟨-, t, ht, htl, hd2⟩ := take_ok (by omega) h
        rw [ht]
        refine ⟨by simp, t, by rw [htl], by omega, ?_⟩
        rw [htl, hxs, List.append_assoc, ← hd2]
        exact hd
  · rw [if_pos h1] at h
    exact absurd h h1
theorem done_ok {l : List UInt8} {k e : Nat} (h : doneE l k e = 0) : e = 0 ∧ l.drop k = [] := by
  unfold doneE at h
  split at h
  · cases h
  · refine ⟨h, List.drop_eq_nil_of_le ?_⟩
    subst h
    simp at *
    omega
theorem done_on {l : List UInt8} {k : Nat} (h : l.drop k = []) : doneE l k 0 = 0 := by
  have := List.drop_eq_nil_iff.1 h
  unfold doneE
  rw [if_neg (by omega)]
theorem may_on {l rest : List UInt8} {k : Nat} (is : Bool) (v : Nat) (hv : v < 18446744073709551616) (h0 : is = false → v = 0) (h : l.drop k = (if is then leB 8 v else []) ++ rest) :
    ∃ k', (mayF is l k 0).2 = (k', 0) ∧ leV (mayF is l k 0).1 = v ∧ l.drop k' = rest := by
  cases is with
  | true =>
    obtain ⟨h1, h2⟩ := take_on h (leB_length 8 v) (by omega)
    refine ⟨k + 8, ?_, ?_, h2⟩
    · show (takeF l k 0 ((8 : Nat) : Int)).2 = _
      rw [h1]
    · show leV (takeF l k 0 ((8 : Nat) : Int)).1 = _
      rw [h1]
      exact leB_8 v hv
  | false => exact ⟨k, rfl, (h0 rfl).symm, h⟩
theorem may_ok {is : Bool} {l : List UInt8} {k e : Nat} (h : (mayF is l k e).2.2 = 0) :
    e = 0 ∧ l.drop k = (if is then leB 8 (leV (mayF is l k e).1) else []) ++ l.drop (mayF is l k e).2.1 := by
  cases is with
  | true =>
    obtain ⟨he, xs, hx, hxl, hd⟩ := take_ok (n := 8) (by omega) h
    refine ⟨he, ?_⟩
    have e1 : mayF true l k e = (xs, k + 8, 0) := hx
    rw [e1]
    simp only
    rw [if_pos trivial, ← hxl, leB_leV, hxl]
    exact hd
  | false => exact ⟨h, rfl⟩
theorem may_lt (is : Bool) (l : List UInt8) (k e : Nat) : leV (mayF is l k e).1 < 18446744073709551616 := by
  unfold mayF
  split
  · have := leV_u64 l k e 8
    rw [sizeI_8] at this
    exact Nat.lt_succ_of_le this
  · exact Nat.zero_lt_succ _
theorem may_zero (l : List UInt8) (k e : Nat) : leV (mayF false l k e).1 = 0 := rfl
theorem may_err (is : Bool) (l : List UInt8) (k e : Nat) (h : e ≠ 0) : mayF is l k e = ([], k, e) := by
  unfold mayF
  split
  · exact take_err l k e 8 h
  · rfl

/-! ### a record, and its bytes -/
theorem form_zero {r : RecV} (h : formR r = false) : (hasLe r.kind = false → r.lease = 0) ∧ (hasNu r.kind = false → r.n = 0) ∧ (hasBi r.kind = false → r.bits = 0) := by
  unfold formR at h
  simp only [Bool.or_eq_false_iff, Bool.and_eq_false_iff] at h
  obtain ⟨⟨h1, h2⟩, h3⟩ := h
  refine ⟨fun h => ?_, fun h => ?_, fun h => ?_⟩
  · rw [h] at h1; simpa using h1
  · rw [h] at h2; simpa using h2
  · rw [h] at h3; simpa using h3
theorem check_ok {r : RecV} (h : checkR r = 0) : kindR r.kind = true ∧ tenantL (bl r.name) = true ∧ rangeR r = false ∧ priceR r = false ∧ formR r = false := by
  unfold checkR at h
  repeat' split at h
  all_goals first
    | exact absurd h (by decide)
    | skip
  simp_all
theorem readR_bytes {r : RecV} (hr : r.Ok) (h : checkR r = 0) : readR r.kind (bytesR r) = (r, 0) := by
  obtain ⟨h1, h2, h3, h4, h5⟩ := check_ok h
  obtain ⟨z1, z2, z3⟩ := form_zero h5
  have hk := kindR_iff.1 h1
  have ht : (bl r.name).length ≤ 16 := by
    unfold tenantL at h2
    simp only [Bool.and_eq_true, decide_eq_true_eq] at h2
    exact h2.1
  obtain ⟨l, hl⟩ : ∃ l, bytesR r = l := ⟨_, rfl⟩
  have e0 : l.drop 1 = leB 8 r.seq ++ ((leB 1 (bl r.name).length ++ bl r.name) ++ ((if hasLe r.kind then leB 8 r.lease else []) ++ ((if hasNu r.kind then leB 8 r.n else []) ++ ((if hasBi r.kind then leB 8 r.bits else []) ++ [])))) := by
    rw [← hl, bl_length]
    unfold bytesR
    simp only [List.append_assoc, List.append_nil]
    rfl
  obtain ⟨a1, a2⟩ := take_on e0 (leB_length 8 r.seq) (by omega)
  obtain ⟨b1, b2⟩ := text_on a2 ht
  obtain ⟨k1, c1, c2, c3⟩ := may_on _ _ hr.lease z1 b2
  obtain ⟨k2, d1, d2, d3⟩ := may_on _ _ hr.n z2 c3
  obtain ⟨k3, f1, f2, f3⟩ := may_on _ _ hr.bits z3 d3
  rw [hl]
  unfold readR
  have a1' : takeF l 1 0 8 = (leB 8 r.seq, 9, 0) := a1
  rw [a1']
  simp only
  rw [b1]
  simp only
  rw [c1, c2]
  simp only
  rw [d1, d2]
  simp only
  rw [f1, f2]
  simp only
  rw [done_on f3, leB_8 _ hr.seq]
  have e9 : (⟨(bl r.name).toArray⟩ : ByteArray) = r.name := bl_inj (bl_mk _)
  rw [e9]
theorem bytes_head {r : RecV} (h : kindR r.kind = true) : ∃ c t, bytesR r = c :: t ∧ (c.toNat : Int) = r.kind := by
  have hk := kindR_iff.1 h
  refine ⟨UInt8.ofNat (r.kind.toNat % 256), _, rfl, ?_⟩
  have : (UInt8.ofNat (r.kind.toNat % 256)).toNat = r.kind.toNat % 256 := by simp
  rw [this]
  omega
theorem dec_bytes {r : RecV} (hr : r.Ok) (h : checkR r = 0) : decR (bytesR r) = (r, 0) := by
  have hk := (check_ok h).1
  obtain ⟨c, t, e, hc⟩ := bytes_head hk
  have h1 := readR_bytes hr h
  rw [e] at h1 ⊢
  rw [← hc] at h1 hk
  rw [dec_fine hk (by rw [h1]) (by rw [h1]; exact h), h1]
theorem readR_ok {k : Int} {l : List UInt8} (h : (readR k l).2 = 0) : (readR k l).1.Ok ∨ ¬ (Lit.int .i64 k).wf = true := by
  by_cases hk : (Lit.int .i64 k).wf = true
  · refine .inl ⟨?_, hk, ?_, may_lt _ _ _ _, may_lt _ _ _ _, may_lt _ _ _ _⟩
    · have := leV_u64 l 1 0 8
      rw [sizeI_8] at this
      exact Nat.lt_succ_of_le this
    · have hz := (done_ok h).1
      have hy := (may_ok hz).1
      have hx := (may_ok hy).1
      have ht := (may_ok hx).1
      obtain ⟨-, t, e, htl, -⟩ := text_ok ht
      show (ByteArray.mk (textF l (takeF l 1 0 8).2.1 (takeF l 1 0 8).2.2 1 16).1.toArray).size ≤ maxLen
      rw [e]
      show t.toArray.size ≤ maxLen
      unfold maxLen
      simp
      omega
  · exact .inr hk
theorem readR_list {c : UInt8} {t : List UInt8} (h : (readR (c.toNat : Int) (c :: t)).2 = 0) : bytesR (readR (c.toNat : Int) (c :: t)).1 = c :: t := by
  obtain ⟨hz, hd⟩ := done_ok h
  obtain ⟨hy, ey⟩ := may_ok hz
  obtain ⟨hx, ex⟩ := may_ok hy
  obtain ⟨ht, et⟩ := may_ok hx
  obtain ⟨hs, t1, e1, htl, es⟩ := text_ok ht
  obtain ⟨-, xs, e2, hxl, e0⟩ := take_ok (n := 8) (by omega) hs
  have hdec : bytesR (readR (c.toNat : Int) (c :: t)).1 = c :: (c :: t).drop 1 := by
    rw [e0]
    have e2' : takeF (c :: t) 1 0 8 = (xs, 1 + 8, 0) := e2
    unfold readR
    rw [e2'] at e1 es et ex ey hd ⊢
    simp only at e1 es et ex ey hd ⊢
    rw [e1] at et ex ey hd ⊢
    simp only at et ex ey hd ⊢
    rw [es, et, ex, ey, hd]
    unfold bytesR
    simp only [List.append_assoc, List.append_nil, bl_mk]
    have k1 : leB 1 (Int.toNat (c.toNat : Int)) = [c] := by
      rw [Int.toNat_natCast]
      have := c.toNat_lt
      simp [leB]
    have k2 : leB 8 (leV xs) = xs := by rw [← hxl]; exact leB_leV xs
    have k3 : ByteArray.size ⟨t1.toArray⟩ = t1.length := by show t1.toArray.size = _; simp
    rw [k1, k2, k3]
    rfl
  rw [hdec]
  rfl
theorem dec_ok {l : List UInt8} (h : (decR l).2 = 0) : checkR (decR l).1 = 0 ∧ bytesR (decR l).1 = l ∧ (decR l).1.Ok := by
  cases l with
  | nil => cases h
  | cons c t =>
    cases h1 : kindR (c.toNat : Int) with
    | false => rw [dec_kind h1] at h; cases h
    | true =>
    by_cases h2 : (readR (c.toNat : Int) (c :: t)).2 = 0
    · by_cases h3 : checkR (readR (c.toNat : Int) (c :: t)).1 = 0
      · rw [dec_fine h1 h2 h3]
        refine ⟨h3, readR_list h2, ?_⟩
        rcases readR_ok h2 with h4 | h4
        · exact h4
        · exact absurd (Go.WalkArith.wf_i64 (n := (c.toNat : Int)) (by have := c.toNat_lt; omega)) h4
      · rw [dec_check h1 h2 h3] at h
        exact absurd h h3
    · rw [dec_read h1 h2] at h
      simp only at h
      omega
/-- The errors of a cursor. -/
theorem take_two (l : List UInt8) (k e : Nat) (n : Int) (h : e ≤ 2) : (takeF l k e n).2.2 ≤ 2 := by
  unfold takeF
  repeat' split
  all_goals simp_all
theorem text_two (l : List UInt8) (k e : Nat) (q m : Int) (h : e ≤ 2) : (textF l k e q m).2.2 ≤ 2 := by
  unfold textF
  split
  · exact take_two l k e _ h
  · split
    · exact Nat.le_refl _
    · exact take_two _ _ _ _ (by omega)
theorem may_two (is : Bool) (l : List UInt8) (k e : Nat) (h : e ≤ 2) : (mayF is l k e).2.2 ≤ 2 := by
  unfold mayF
  split
  · exact take_two l k e _ h
  · exact h
theorem done_two (l : List UInt8) (k e : Nat) (h : e ≤ 2) : doneE l k e ≤ 2 := by
  unfold doneE
  split
  · exact Nat.le_refl _
  · exact h
theorem readR_two (k : Int) (l : List UInt8) : (readR k l).2 ≤ 2 := by
  unfold readR
  exact done_two _ _ _ (may_two _ _ _ _ (may_two _ _ _ _ (may_two _ _ _ _ (text_two _ _ _ _ _ (take_two _ _ _ _ (by omega))))))
theorem check_not5 {r : RecV} (h : kindR r.kind = true) : checkR r ≠ 5 := by
  unfold checkR
  rw [h, if_neg (by decide)]
  repeat' split
  all_goals decide
/-- Is the first byte no kind? -/
def badHead : List UInt8 → Bool
  | [] => false
  | c :: _ => !kindR (c.toNat : Int)
theorem dec_err {l : List UInt8} (h : (decR l).2 ≠ 0) : (decR l).1 = zeroR ∧ decide ((decR l).2 = 5) = badHead l ∧ (l = [] → (decR l).2 = 1) := by
  cases l with
  | nil => exact ⟨rfl, rfl, fun _ => rfl⟩
  | cons c t =>
    show _ ∧ _ = (!kindR (c.toNat : Int)) ∧ _
    cases h1 : kindR (c.toNat : Int) with
    | false =>
      rw [dec_kind h1]
      exact ⟨rfl, rfl, fun h => by cases h⟩
    | true =>
      by_cases h2 : (readR (c.toNat : Int) (c :: t)).2 = 0
      · by_cases h3 : checkR (readR (c.toNat : Int) (c :: t)).1 = 0
        · rw [dec_fine h1 h2 h3] at h
          exact absurd rfl h
        · rw [dec_check h1 h2 h3]
          have := check_not5 (r := (readR (c.toNat : Int) (c :: t)).1) h1
          exact ⟨rfl, by simp [this], fun h => by cases h⟩
      · rw [dec_read h1 h2]
        have := readR_two (c.toNat : Int) (c :: t)
        exact ⟨rfl, by simp; omega, fun h => by cases h⟩
end Go.Proofs.YtolpggmcjengcaaDoor
