/-
  name.Number.
-/
import Derived.Test.YtcofhjkmpkfbfaaDoorName2
import Derived.Test.YtcofhjkmpkfbfaaDoorShelf
import Derived.Lib.ParseIntB
import Derived.Lib.AtoiErrMem
namespace Go.Proofs.YtcofhjkmpkfbfaaDoor
open Go.RowKit
set_option linter.unusedVariables false

theorem var_stay {P : Program} {w w' : World} {n : String} {cs : Array Value} (h : w.var? P n = some cs) (hb : Below w.heap.size w w') : w'.var? P n = some cs := by
  unfold World.var? at *
  cases hg : P.globalNamed n with
  | none => simp [hg] at h
  | some g =>
    simp only [hg, Option.bind_some] at h ⊢
    have hlt : g < w.heap.size := by
      rcases Nat.lt_or_ge g w.heap.size with h' | h'
      · exact h'
      · rw [Array.getElem?_eq_none h'] at h; simp at h
    rw [hb.block g hlt]
    exact h

/-! ### what is a number's digits -/
theorem good_made (l : List UInt8) : goodL l = (l == [48] || madeL notZ isDigit l) := by
  cases l with
  | nil => rfl
  | cons c t =>
    have hd : inL digs c = isDigit c.toNat := in_digs c
    have ho : onlyL t digs = t.all (fun x => isDigit x.toNat) := by unfold onlyL; simp only [in_digs]; rfl
    have hc : onlyL (c :: t) digs = (isDigit c.toNat && t.all (fun x => isDigit x.toNat)) := by
      rw [← ho, ← hd]
      rfl
    unfold goodL
    rw [show madeL notZ isDigit (c :: t) = (notZ c.toNat && (isDigit c.toNat && t.all (fun x => isDigit x.toNat))) from rfl, hc, List.isEmpty_cons, Bool.not_false, Bool.true_and, List.length_cons, List.head?_cons]
    by_cases h48 : c = 48
    · subst h48
      rw [show notZ (48 : UInt8).toNat = false from by decide, Bool.false_and, Bool.or_false, show isDigit (48 : UInt8).toNat = true from by decide, Bool.true_and]
      cases t with
      | nil => rfl
      | cons x t =>
        rw [decide_eq_true (by simp), show decide (some (48 : UInt8) = some 48) = true from by decide, Bool.and_true, Bool.not_true, Bool.and_false, eq_comm, beq_eq_false_iff_ne]
        simp
    · have h1 : notZ c.toNat = true := by
        unfold notZ
        rw [decide_eq_true_iff]
        intro e
        exact h48 (UInt8.toNat.inj e)
      have h2 : (c :: t == [48]) = false := by
        rw [beq_eq_false_iff_ne]
        intro e
        injection e with e1 e2
        exact h48 e1
      have h3 : decide (some c = some (48 : UInt8)) = false := by
        rw [decide_eq_false_iff_not]
        intro e
        injection e with e1
        exact h48 e1
      rw [h1, h2, h3, Bool.and_false, Bool.not_false, Bool.and_true, Bool.false_or, Bool.true_and]
theorem parse_all : ∀ (l : List UInt8) (a : Nat), (∀ x ∈ l, 48 ≤ x.toNat ∧ x.toNat ≤ 57) → a ≤ 18446744073709551615 →
    Lib.parseUintM 18446744073709551615 a l = if v10 a l ≤ 18446744073709551615 then .ok (v10 a l) else .range
  | [], a, _, ha => by rw [Lib.parseUintM, v10_nil, if_pos ha]
  | c :: r, a, h, ha => by
    have hc := h c (by simp)
    have hr : ∀ x ∈ r, 48 ≤ x.toNat ∧ x.toNat ≤ 57 := fun x hx => h x (List.mem_cons_of_mem _ hx)
    have hg := v10_ge (10 * a + (c.toNat - 48)) r
    rw [Lib.parseUintM, if_pos hc, v10_cons]
    by_cases h1 : 1844674407370955162 ≤ a
    · rw [if_pos h1, if_neg (by omega)]
    · rw [if_neg h1, Nat.mul_comm a 10]
      by_cases h2 : 18446744073709551615 < 10 * a + (c.toNat - 48)
      · rw [if_pos h2, if_neg (by omega)]
      · rw [if_neg h2, parse_all r _ hr (by omega)]
theorem parse_good {l : List UInt8} (h : goodL l = true) : Lib.parseUintB 64 l = if v10 0 l ≤ 18446744073709551615 then .ok (v10 0 l) else .range := by
  unfold goodL at h
  simp only [Bool.and_eq_true, Bool.not_eq_true', only_digs] at h
  unfold Lib.parseUintB
  rw [if_neg (by rintro rfl; simp at h), show 2 ^ 64 - 1 = 18446744073709551615 from by decide, parse_all l 0 h.1.2 (by omega)]

/-- The sentinel of a number that is too great. -/
def Over (w : World) : Prop := ∃ (tp : TypeId) (p : Value), w.var? Tryd.prog "strconv.ErrRange" = some #[.iface tp p]
theorem Over.stay {w w' : World} (h : Over w) (hb : Below w.heap.size w w') : Over w' := let ⟨tp, p, h⟩ := h; ⟨tp, p, var_stay h hb⟩

set_option maxHeartbeats 1600000 in
/-- name.Number -/
theorem nnumber_any (s : ByteArray) (w : World) (hs : s.size ≤ 65536) (hO : Over w) : Calls Tryd.prog 23 #[.string s] w fun e w' => e = .returned (.tuple #[.int .u64 (numV (bl s) : Int), .int .i64 (numE (bl s))]) ∧ Below w.heap.size w w' := by
  have HC := Lib.hid (fun W => made_any 30 29 notZ isDigit notZero_any digit_any (enters_of Tryd.func30 (by kernel_rfl) rfl) (enters_of Tryd.func29 (by kernel_rfl) rfl) isDigit_high s W (by unfold maxLen; omega))
  have hgm := good_made (bl s)
  have hlen := bl_length s
  have bad : goodL (bl s) = false → (s.toList == [48]) = false → madeL notZ isDigit (bl s) = false → Calls Tryd.prog 23 #[.string s] w fun e w' => e = .returned (.tuple #[.int .u64 (numV (bl s) : Int), .int .i64 (numE (bl s))]) ∧ Below w.heap.size w w' := by
    intro hg h1 hm
    obtain ⟨hv, he⟩ := num_bad hg
    have HV := Lib.hid hv
    have HE := Lib.hid he
    rw [hm] at HC
    clear hv he hg hm hgm hlen
    go_enter Tryd.func23, Tryd.ntmps23
    go_wp2_with fail
    refine (HC.out _).mono ?_
    rintro e' w1 ⟨rfl, pos, rfl⟩
    go_wp2_with fail
    go_ret2
    exact ⟨by rw [HV.out, HE.out]; rfl, iter_below _ _ _⟩
  have core : goodL (bl s) = true → ∀ W : World, Below w.heap.size w W → Calls Tryd.prog 31 #[.string s, .int .i64 10, .int .i64 64] W fun e w' => (numE (bl s) = 0 ∧ e = .returned (.tuple #[.int .u64 (numV (bl s) : Int), .nilIface]) ∨ numE (bl s) = 6 ∧ numV (bl s) = 0 ∧ ∃ t N, e = .returned (.tuple #[.int .u64 18446744073709551615, .iface t (.pointer (some ⟨N, 0, none⟩))])) ∧ Below w.heap.size w w' := by
    intro hg W hb
    have hp := parse_good hg
    rcases Nat.lt_or_ge 18446744073709551615 (v10 0 (bl s)) with h | h
    · rw [if_neg (by omega)] at hp
      obtain ⟨tp, p, hvar⟩ := hO.stay hb
      obtain ⟨hv, he⟩ := num_over hg h
      refine (Tryd.strconv_ParseUint_10_at64_range_var s (by omega) hp tp p W hvar).mono ?_
      rintro e w1 ⟨N, rfl, _, _, hb1⟩
      exact ⟨.inr ⟨he, hv, _, N, rfl⟩, hb.trans (hb1.mono hb.size)⟩
    · rw [if_pos h] at hp
      obtain ⟨hv, he⟩ := num_ok hg h
      refine (Tryd.strconv_ParseUint_10_at64_ok s (by omega) _ hp W).mono ?_
      rintro e w1 ⟨rfl, hw⟩
      refine ⟨.inl ⟨he, by rw [hv]⟩, ?_⟩
      rcases hw with rfl | rfl
      · exact hb
      · exact hb.trans ((Lib.bytesWorld_below W _ s).mono hb.size)
  have hk := Lib.hid core
  clear core hlen
  cases h1 : s.toList == [48] with
  | true =>
    have hg : goodL (bl s) = true := by rw [hgm, ← bl_toList, h1]; rfl
    have HK := Lib.hid (hk.out hg w (Below.refl _ _))
    clear hgm hg bad hk HC
    go_enter Tryd.func23, Tryd.ntmps23
    go_wp2_with fail
    refine HK.out.mono ?_
    rintro e' w1 ⟨⟨he, rfl⟩ | ⟨he, hv, t, N, rfl⟩, hb⟩
    · have HE := Lib.hid he
      clear he
      go_wp2_with fail
      go_ret2
      exact ⟨by rw [HE.out]; rfl, hb⟩
    · have HE := Lib.hid he
      have HV := Lib.hid hv
      clear he hv
      go_wp2_with fail
      go_ret2
      exact ⟨by rw [HE.out, HV.out]; rfl, hb⟩
  | false =>
    rw [← bl_toList, h1, bl_toList, Bool.false_or] at hgm
    cases hm : madeL notZ isDigit (bl s) with
    | false => exact bad (by rw [hgm, hm]) h1 hm
    | true =>
      have HK := Lib.hid (hk.out (by rw [hgm, hm]))
      rw [hm] at HC
      clear hgm bad hk hm
      go_enter Tryd.func23, Tryd.ntmps23
      go_wp2_with fail
      refine (HC.out _).mono ?_
      rintro e' w1 ⟨rfl, pos, rfl⟩
      go_wp2_with fail
      refine (HK.out _ (iter_below _ _ _)).mono ?_
      rintro e' w2 ⟨⟨he, rfl⟩ | ⟨he, hv, t, N, rfl⟩, hb⟩
      · have HE := Lib.hid he
        clear he
        go_wp2_with fail
        go_ret2
        exact ⟨by rw [HE.out]; rfl, hb⟩
      · have HE := Lib.hid he
        have HV := Lib.hid hv
        clear he hv
        go_wp2_with fail
        go_ret2
        exact ⟨by rw [HE.out, HV.out]; rfl, hb⟩
end Go.Proofs.YtcofhjkmpkfbfaaDoor
