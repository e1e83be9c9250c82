/-
  Package taximeterref07: texts.
-/
import Derived.Test.YtgmocagdhdbpnaaDoorMem
import Derived.Test.YtgmocagdhdbpnaaDoorNum
namespace Go.Proofs.YtgmocagdhdbpnaaDoor
open Go.RowKit
set_option linter.unusedVariables false

theorem in_any (s : ByteArray) (c : UInt8) (w : World) (hs : s.size ≤ maxLen) : Calls Tryd.prog 30 #[.string s, .int .u8 (c.toNat : Int)] w fun e w' => e = .returned (.bool (inL (bl s) c)) ∧ w = w' := by
  have HS : Hid (s.size ≤ maxLen) := hs
  unfold maxLen at hs
  go_enter Tryd.func30, Tryd.ntmps30
  go_wp2_with fail
  go_loop [5] (fun x => ∃ i : Nat, i ≤ s.size ∧ x = .int .i64 i ∧ Hid (inL (bl s) c = inL ((bl s).drop i) c)) (fun x => s.size - (intOf x).toNat)
  case atStart => exact ⟨0, Nat.zero_le _, rfl, Lib.hid rfl⟩
  case round =>
    obtain ⟨i, hi, rfl, HI⟩ := hrel
    by_cases hlt : i < s.size
    · have hd := HI.out
      rw [bl_drop s i hlt] at hd
      unfold inL at hd
      rw [List.any_cons] at hd
      have hue := u8_eq s[i] c
      cases hc : s[i] == c with
      | true =>
        rw [hc] at hd hue
        have HE : Hid (inL (bl s) c = true) := hd
        clear hd hc HI
        go_wp2_with fail
        go_ret
        exact ⟨by rw [HE.out]; rfl, rfl⟩
      | false =>
        rw [hc] at hd hue
        have HE : Hid (inL (bl s) c = inL ((bl s).drop (i + 1)) c) := hd
        clear hd hc HI
        go_wp2_with fail
        go_round
        case rel => exact ⟨i + 1, by omega, by go_num, HE⟩
        case measure => simp [intOf]; omega
    · have hd := HI.out
      rw [bl_end s i (by omega)] at hd
      have HE : Hid (inL (bl s) c = false) := hd
      clear hd HI
      go_wp2_with fail
      go_ret
      exact ⟨by rw [HE.out]; rfl, rfl⟩
theorem only_any (s l : ByteArray) (w : World) (hs : s.size ≤ maxLen) (hl : l.size ≤ maxLen) : Calls Tryd.prog 20 #[.string s, .string l] w fun e w' => e = .returned (.bool (onlyL (bl s) (bl l))) ∧ w = w' := by
  have HL : Hid (l.size ≤ maxLen) := hl
  unfold maxLen at hs hl
  go_enter Tryd.func20, Tryd.ntmps20
  go_wp2_with fail
  go_loop [5] (fun x => ∃ i : Nat, i ≤ s.size ∧ x = .int .i64 i ∧ Hid (onlyL (bl s) (bl l) = onlyL ((bl s).drop i) (bl l))) (fun x => s.size - (intOf x).toNat)
  case atStart => exact ⟨0, Nat.zero_le _, rfl, Lib.hid rfl⟩
  case round =>
    obtain ⟨i, hi, rfl, HI⟩ := hrel
    by_cases hlt : i < s.size
    · have hd := HI.out
      rw [bl_drop s i hlt] at hd
      unfold onlyL at hd
      rw [List.all_cons] at hd
      have HC := Lib.hid (fun W : World => in_any l s[i] W HL.out)
      cases hc : inL (bl l) s[i] with
      | true =>
        rw [hc] at hd HC
        have HE : Hid (onlyL (bl s) (bl l) = onlyL ((bl s).drop (i + 1)) (bl l)) := hd
        clear hd hc HI
        go_wp2_with fail
        refine (HC.out _).mono ?_
        rintro e' w1 ⟨rfl, rfl⟩
        go_wp2_with fail
        go_round
        case rel => exact ⟨i + 1, by omega, by go_num, HE⟩
        case measure => simp [intOf]; omega
      | false =>
        rw [hc] at hd HC
        have HE : Hid (onlyL (bl s) (bl l) = false) := hd
        clear hd hc HI
        go_wp2_with fail
        refine (HC.out _).mono ?_
        rintro e' w1 ⟨rfl, rfl⟩
        go_wp2_with fail
        go_ret
        exact ⟨by rw [HE.out]; rfl, rfl⟩
    · have hd := HI.out
      rw [bl_end s i (by omega)] at hd
      have HE : Hid (onlyL (bl s) (bl l) = true) := hd
      clear hd HI
      go_wp2_with fail
      go_ret
      exact ⟨by rw [HE.out]; rfl, rfl⟩

theorem digs_at (i : Nat) (h : i < 10) : ∃ h2 : i < (⟨#[48, 49, 50, 51, 52, 53, 54, 55, 56, 57]⟩ : ByteArray).size, (⟨#[48, 49, 50, 51, 52, 53, 54, 55, 56, 57]⟩ : ByteArray)[i] = UInt8.ofNat (48 + i) := by
  have all : ∀ j : Fin 10, (⟨#[48, 49, 50, 51, 52, 53, 54, 55, 56, 57]⟩ : ByteArray)[j.val]'j.isLt = UInt8.ofNat (48 + j.val) := by decide
  exact ⟨h, all ⟨i, h⟩⟩

/-- A text is answered; the world is as it was. -/
def Says (l : List UInt8) (w : World) (x : Ending) (w' : World) : Prop := ∃ s : ByteArray, x = .returned (.string s) ∧ bl s = l ∧ w = w'

set_option maxHeartbeats 400000 in
theorem rdigits_any (n : Nat) (w : World) (hn : n < 18446744073709551616) : Calls Tryd.prog 9 #[.int .u64 (n : Int)] w (Says (decL n) w) := by
  have HN : Hid ((decL n).length ≤ 20) := Lib.hid (decL_len 20 n (by omega) (by omega))
  go_enter Tryd.func9, Tryd.ntmps9
  go_wp2_with fail
  go_loop [0, 3] (fun x v => ∃ (q : Nat) (s : ByteArray), x = .int .u64 q ∧ v = .string s ∧ q < 18446744073709551616 ∧ Hid (decL n = decL q ++ bl s)) (fun x _ => (intOf x).toNat)
  case atStart => exact ⟨n, ⟨#[]⟩, rfl, rfl, hn, Lib.hid (by rw [show bl ⟨#[]⟩ = [] from rfl, List.append_nil])⟩
  case round =>
    obtain ⟨q, s, rfl, rfl, hq, HE⟩ := hrel
    have hE := HE.out
    have hsz : s.size ≤ 20 := by
      have := HN.out
      rw [hE, List.length_append, bl_length] at this
      omega
    obtain ⟨hd1, hd2⟩ := digs_at (q % 10) (by omega)
    obtain ⟨D, hD, hD1, hD2⟩ := cut_one (P := Tryd.prog) Tryd.underlying9 ⟨#[48, 49, 50, 51, 52, 53, 54, 55, 56, 57]⟩ .u64 .u64 (q % 10) hd1 ((q : Int) % 10) ((q : Int) % 10 + 1) (by omega) (by omega)
    rw [hd2] at hD1
    rcases Nat.lt_or_ge q 10 with hlt | hge
    · rw [decL_one hlt, ← Nat.mod_eq_of_lt hlt, ← hD1, ← bl_append] at hE
      have HF := Lib.hid hE
      have hq0 : q / 10 = 0 := by omega
      clear hE HE hD1 hd2
      go_wp2_with fail
      go_ret
      exact ⟨_, rfl, HF.out.symm, rfl⟩
    · rw [decL_more hge, List.append_assoc, ← hD1, ← bl_append] at hE
      have HF := Lib.hid hE
      have hq0 : ((q : Int) / 10 == 0) = false := by rw [beq_eq_false_iff_ne]; omega
      clear hE HE hD1 hd2
      go_wp2_with fail
      go_round
      case rel => exact ⟨q / 10, D ++ s, by go_num, rfl, by omega, HF⟩
      case measure => simp [intOf]; omega

theorem good_eq (s : ByteArray) (h : 0 < s.size) : goodL (bl s) = (onlyL (bl s) digs && !(decide (1 < s.size) && (s[0] == 48))) := by
  have e := bl_drop s 0 h
  rw [List.drop_zero] at e
  have e1 : (bl s).isEmpty = false := by rw [e]; rfl
  have e2 : decide ((bl s).head? = some 48) = (s[0] == 48) := by
    rw [e, List.head?_cons, Bool.eq_iff_iff, decide_eq_true_iff, beq_iff_eq]
    exact ⟨fun h => by injection h, fun h => by rw [h]⟩
  unfold goodL
  rw [e1, e2, bl_length]
  rfl
theorem empty_eq (s : ByteArray) (h : s.size = 0) : s.toList.isEmpty = true := by
  rw [bl_toList]
  have := bl_length s
  rw [h] at this
  rw [List.eq_nil_of_length_eq_zero this]
  rfl
theorem some_eq (s : ByteArray) (h : 0 < s.size) : s.toList.isEmpty = false := by
  rw [bl_toList]
  have e := bl_drop s 0 h
  rw [List.drop_zero] at e
  rw [e]
  rfl
theorem byte_ne (x c : UInt8) (k : Int) (hk : k = (c.toNat : Int)) : ((x.toNat : Int) == k) = (x == c) := by rw [hk]; exact u8_eq x c

theorem rnum_empty (s : ByteArray) (w : World) (h : s.size = 0) : Calls Tryd.prog 8 #[.string s] w fun e w' => e = .returned (.tuple #[.int .u64 (numV (bl s) : Int), .int .i64 (numE (bl s))]) ∧ w = w' := by
  obtain ⟨hv, he⟩ := num_bad (l := bl s) (by
    have := bl_length s
    rw [h] at this
    rw [List.eq_nil_of_length_eq_zero this]
    rfl)
  have HV := Lib.hid hv
  have HE := Lib.hid he
  have h1 := empty_eq s h
  clear hv he
  go_enter Tryd.func8, Tryd.ntmps8
  go_wp2_with fail
  go_ret2
  exact ⟨by rw [HV.out, HE.out]; rfl, rfl⟩
theorem rnum_other (s : ByteArray) (w : World) (hs : s.size ≤ maxLen) (h : 0 < s.size) (ho : onlyL (bl s) digs = false) : Calls Tryd.prog 8 #[.string s] w fun e w' => e = .returned (.tuple #[.int .u64 (numV (bl s) : Int), .int .i64 (numE (bl s))]) ∧ w = w' := by
  obtain ⟨hv, he⟩ := num_bad (l := bl s) (by rw [good_eq s h, ho]; rfl)
  have HV := Lib.hid hv
  have HE := Lib.hid he
  have h1 := some_eq s h
  have HO := Lib.hid (only_any s ⟨#[48, 49, 50, 51, 52, 53, 54, 55, 56, 57]⟩ w hs (by decide))
  rw [show bl ⟨#[48, 49, 50, 51, 52, 53, 54, 55, 56, 57]⟩ = digs from rfl, ho] at HO
  clear hv he
  go_enter Tryd.func8, Tryd.ntmps8
  go_wp2_with fail
  refine (HO.out).mono ?_
  rintro e' w1 ⟨rfl, rfl⟩
  go_wp2_with fail
  go_ret2
  exact ⟨by rw [HV.out, HE.out]; rfl, rfl⟩
theorem rnum_zero (s : ByteArray) (w : World) (hs : s.size ≤ maxLen) (h : 1 < s.size) (ho : onlyL (bl s) digs = true) (h48 : (s[0] == 48) = true) : Calls Tryd.prog 8 #[.string s] w fun e w' => e = .returned (.tuple #[.int .u64 (numV (bl s) : Int), .int .i64 (numE (bl s))]) ∧ w = w' := by
  obtain ⟨hv, he⟩ := num_bad (l := bl s) (by rw [good_eq s (by omega), ho, h48, decide_eq_true h]; rfl)
  have HV := Lib.hid hv
  have HE := Lib.hid he
  have h1 := some_eq s (by omega)
  have h2 := byte_ne s[0] 48 48 rfl
  rw [h48] at h2
  have h0 : 0 < s.size := by omega
  have HO := Lib.hid (only_any s ⟨#[48, 49, 50, 51, 52, 53, 54, 55, 56, 57]⟩ w hs (by decide))
  rw [show bl ⟨#[48, 49, 50, 51, 52, 53, 54, 55, 56, 57]⟩ = digs from rfl, ho] at HO
  clear hv he h48
  go_enter Tryd.func8, Tryd.ntmps8
  go_wp2_with fail
  refine (HO.out).mono ?_
  rintro e' w1 ⟨rfl, rfl⟩
  go_wp2_with fail
  go_ret2
  exact ⟨by rw [HV.out, HE.out]; rfl, rfl⟩
theorem rnum_long (s : ByteArray) (w : World) (hs : s.size ≤ maxLen) (h : 20 < s.size) (ho : onlyL (bl s) digs = true) (h48 : (s[0] == 48) = false) : Calls Tryd.prog 8 #[.string s] w fun e w' => e = .returned (.tuple #[.int .u64 (numV (bl s) : Int), .int .i64 (numE (bl s))]) ∧ w = w' := by
  have hg : goodL (bl s) = true := by rw [good_eq s (by omega), ho, h48, Bool.and_false]; rfl
  have hb := good_long hg 20 (by omega) (by rw [bl_length]; omega)
  obtain ⟨hv, he⟩ := num_over hg (by omega)
  have HV := Lib.hid hv
  have HE := Lib.hid he
  have h1 := some_eq s (by omega)
  have h2 := byte_ne s[0] 48 48 rfl
  rw [h48] at h2
  have h0 : 0 < s.size := by omega
  have HO := Lib.hid (only_any s ⟨#[48, 49, 50, 51, 52, 53, 54, 55, 56, 57]⟩ w hs (by decide))
  rw [show bl ⟨#[48, 49, 50, 51, 52, 53, 54, 55, 56, 57]⟩ = digs from rfl, ho] at HO
  clear hv he h48 hb hg
  go_enter Tryd.func8, Tryd.ntmps8
  go_wp2_with fail
  refine (HO.out).mono ?_
  rintro e' w1 ⟨rfl, rfl⟩
  go_wp2_with fail
  go_ret2
  exact ⟨by rw [HV.out, HE.out]; rfl, rfl⟩
theorem rnum_over (s : ByteArray) (w : World) (hs : s.size ≤ maxLen) (h : s.size = 20) (ho : onlyL (bl s) digs = true) (h48 : (s[0] == 48) = false) (hb : 18446744073709551615 < v10 0 (bl s)) : Calls Tryd.prog 8 #[.string s] w fun e w' => e = .returned (.tuple #[.int .u64 (numV (bl s) : Int), .int .i64 (numE (bl s))]) ∧ w = w' := by
  have hg : goodL (bl s) = true := by rw [good_eq s (by omega), ho, h48, Bool.and_false]; rfl
  obtain ⟨hv, he⟩ := num_over hg (by omega)
  have HV := Lib.hid hv
  have HE := Lib.hid he
  have h1 := some_eq s (by omega)
  have h2 := byte_ne s[0] 48 48 rfl
  rw [h48] at h2
  have h0 : 0 < s.size := by omega
  have hl := less_num (bl s) mostL (by rw [bl_length, h]; rfl) ((only_digs _).1 ho) most_digs
  rw [most_val, decide_eq_false (by omega), ← bl_toList] at hl
  have hq : (s.toList == mostL) = false := by rw [beq_eq_false_iff_ne, bl_toList]; intro e; rw [e, most_val] at hb; omega
  unfold mostL at hl hq
  have HO := Lib.hid (only_any s ⟨#[48, 49, 50, 51, 52, 53, 54, 55, 56, 57]⟩ w hs (by decide))
  rw [show bl ⟨#[48, 49, 50, 51, 52, 53, 54, 55, 56, 57]⟩ = digs from rfl, ho] at HO
  clear hv he h48 hb hg
  go_enter Tryd.func8, Tryd.ntmps8
  go_wp2_with fail
  refine (HO.out).mono ?_
  rintro e' w1 ⟨rfl, rfl⟩
  go_wp2_with fail
  go_ret2
  exact ⟨by rw [HV.out, HE.out]; rfl, rfl⟩
theorem rnum_one (s : ByteArray) (w : World) (hs : s.size ≤ maxLen) (h0 : 0 < s.size) (ho : onlyL (bl s) digs = true)  (hb : v10 0 (bl s) ≤ 18446744073709551615) (hl : s.size = 1) : Calls Tryd.prog 8 #[.string s] w fun e w' => e = .returned (.tuple #[.int .u64 (numV (bl s) : Int), .int .i64 (numE (bl s))]) ∧ w = w' := by
  have hg : goodL (bl s) = true := by rw [good_eq s h0, ho, hl]; rfl
  obtain ⟨hv, he⟩ := num_ok hg hb
  have HV := Lib.hid hv
  have HE := Lib.hid he
  have h1 := some_eq s h0
  have hdig := (only_digs _).1 ho
  have HO := Lib.hid (only_any s ⟨#[48, 49, 50, 51, 52, 53, 54, 55, 56, 57]⟩ w hs (by decide))
  rw [show bl ⟨#[48, 49, 50, 51, 52, 53, 54, 55, 56, 57]⟩ = digs from rfl, ho] at HO
  have HB := Lib.hid hb
  have HD := Lib.hid hdig
  unfold maxLen at hs
  clear hv he hg hdig hb ho
  go_enter Tryd.func8, Tryd.ntmps8
  go_wp2_with fail
  refine (HO.out).mono ?_
  rintro e' w1 ⟨rfl, rfl⟩
  go_wp2_with fail
  go_loop [5, 6] (fun x i => ∃ j : Nat, j ≤ s.size ∧ i = .int .i64 j ∧ x = .int .u64 (v10 0 ((bl s).take j) : Nat)) (fun _ i => s.size - (intOf i).toNat)
  case atStart => exact ⟨0, Nat.zero_le _, rfl, rfl⟩
  case round =>
    obtain ⟨j, hj, rfl, rfl⟩ := hrel
    by_cases hlt : j < s.size
    · obtain ⟨x, hx⟩ : ∃ x, s[j] = x := ⟨_, rfl⟩
      have hjl : j < (bl s).length := by rw [bl_length]; exact hlt
      have hat : (bl s)[j] = x := by rw [bl_at s j hlt]; exact hx
      have hxd := HD.out x (by rw [← hat]; exact List.getElem_mem hjl)
      have hst : v10 0 ((bl s).take (j + 1)) = 10 * v10 0 ((bl s).take j) + (x.toNat - 48) := by
        rw [List.take_succ_eq_append_getElem hjl, v10_snoc, hat]
      have hle : v10 0 ((bl s).take (j + 1)) ≤ 18446744073709551615 := by
        refine Nat.le_trans ?_ HB.out
        conv => rhs; rw [← List.take_append_drop (j + 1) (bl s), v10_append]
        exact v10_ge _ _
      have HS := Lib.hid hst
      rw [hst] at hle
      obtain ⟨v, hv⟩ : ∃ v, v10 0 ((bl s).take j) = v := ⟨_, rfl⟩
      rw [hv] at hle HS ⊢
      obtain ⟨y, hy⟩ : ∃ y, x.toNat = y := ⟨_, rfl⟩
      rw [hy] at hxd hle HS
      have hx2 : (s[j]'hlt).toNat = y := by rw [hx]; exact hy
      have HX := Lib.hid hx2
      clear hat hst hv hx hy hx2 hjl
      have hm1 : IntKind.u64.wrap (10 * (v : Int)) = 10 * (v : Int) := by rw [IntKind.wrap_u64]; omega
      have hm2 : IntKind.u8.wrap (((s[j]'hlt).toNat : Int) - 48) = ((s[j]'hlt).toNat : Int) - 48 := by rw [HX.out, IntKind.wrap_u8]; omega
      have hm3 : IntKind.u64.wrap (((s[j]'hlt).toNat : Int) - 48) = ((s[j]'hlt).toNat : Int) - 48 := by rw [HX.out, IntKind.wrap_u64]; omega
      have hm4 : IntKind.u64.wrap (10 * (v : Int) + (((s[j]'hlt).toNat : Int) - 48)) = 10 * (v : Int) + (((s[j]'hlt).toNat : Int) - 48) := by rw [HX.out, IntKind.wrap_u64]; omega
      go_wp2_with fail
      go_round
      case rel => exact ⟨j + 1, by omega, by go_num, congrArg (Value.int .u64) (by rw [HS.out, HX.out]; omega)⟩
      case measure => simp [intOf]; omega
    · obtain rfl : j = s.size := by omega
      have HF : Hid (v10 0 ((bl s).take s.size) = v10 0 (bl s)) := by show _ = _; rw [← bl_length, List.take_length]
      rw [HF.out]
      obtain ⟨v, hv⟩ : ∃ v, v10 0 (bl s) = v := ⟨_, rfl⟩
      rw [hv] at HV ⊢
      clear hv HF
      go_wp2_with fail
      go_ret2
      exact ⟨by rw [HV.out, HE.out]; rfl, rfl⟩
theorem rnum_short (s : ByteArray) (w : World) (hs : s.size ≤ maxLen) (h0 : 0 < s.size) (ho : onlyL (bl s) digs = true) (h48 : (s[0] == 48) = false) (hb : v10 0 (bl s) ≤ 18446744073709551615) (hl : s.size < 20) (hl1 : 1 < s.size) : Calls Tryd.prog 8 #[.string s] w fun e w' => e = .returned (.tuple #[.int .u64 (numV (bl s) : Int), .int .i64 (numE (bl s))]) ∧ w = w' := by
  have hg : goodL (bl s) = true := by rw [good_eq s h0, ho, h48, Bool.and_false]; rfl
  obtain ⟨hv, he⟩ := num_ok hg hb
  have HV := Lib.hid hv
  have HE := Lib.hid he
  have h1 := some_eq s h0
  have h2 := byte_ne s[0] 48 48 rfl
  rw [h48] at h2
  have h3 : ((s.size : Int) == 20) = false := by rw [beq_eq_false_iff_ne]; omega
  clear h48
  have hdig := (only_digs _).1 ho
  have HO := Lib.hid (only_any s ⟨#[48, 49, 50, 51, 52, 53, 54, 55, 56, 57]⟩ w hs (by decide))
  rw [show bl ⟨#[48, 49, 50, 51, 52, 53, 54, 55, 56, 57]⟩ = digs from rfl, ho] at HO
  have HB := Lib.hid hb
  have HD := Lib.hid hdig
  unfold maxLen at hs
  clear hv he hg hdig hb ho
  go_enter Tryd.func8, Tryd.ntmps8
  go_wp2_with fail
  refine (HO.out).mono ?_
  rintro e' w1 ⟨rfl, rfl⟩
  go_wp2_with fail
  go_loop [5, 6] (fun x i => ∃ j : Nat, j ≤ s.size ∧ i = .int .i64 j ∧ x = .int .u64 (v10 0 ((bl s).take j) : Nat)) (fun _ i => s.size - (intOf i).toNat)
  case atStart => exact ⟨0, Nat.zero_le _, rfl, rfl⟩
  case round =>
    obtain ⟨j, hj, rfl, rfl⟩ := hrel
    by_cases hlt : j < s.size
    · obtain ⟨x, hx⟩ : ∃ x, s[j] = x := ⟨_, rfl⟩
      have hjl : j < (bl s).length := by rw [bl_length]; exact hlt
      have hat : (bl s)[j] = x := by rw [bl_at s j hlt]; exact hx
      have hxd := HD.out x (by rw [← hat]; exact List.getElem_mem hjl)
      have hst : v10 0 ((bl s).take (j + 1)) = 10 * v10 0 ((bl s).take j) + (x.toNat - 48) := by
        rw [List.take_succ_eq_append_getElem hjl, v10_snoc, hat]
      have hle : v10 0 ((bl s).take (j + 1)) ≤ 18446744073709551615 := by
        refine Nat.le_trans ?_ HB.out
        conv => rhs; rw [← List.take_append_drop (j + 1) (bl s), v10_append]
        exact v10_ge _ _
      have HS := Lib.hid hst
      rw [hst] at hle
      obtain ⟨v, hv⟩ : ∃ v, v10 0 ((bl s).take j) = v := ⟨_, rfl⟩
      rw [hv] at hle HS ⊢
      obtain ⟨y, hy⟩ : ∃ y, x.toNat = y := ⟨_, rfl⟩
      rw [hy] at hxd hle HS
      have hx2 : (s[j]'hlt).toNat = y := by rw [hx]; exact hy
      have HX := Lib.hid hx2
      clear hat hst hv hx hy hx2 hjl
      have hm1 : IntKind.u64.wrap (10 * (v : Int)) = 10 * (v : Int) := by rw [IntKind.wrap_u64]; omega
      have hm2 : IntKind.u8.wrap (((s[j]'hlt).toNat : Int) - 48) = ((s[j]'hlt).toNat : Int) - 48 := by rw [HX.out, IntKind.wrap_u8]; omega
      have hm3 : IntKind.u64.wrap (((s[j]'hlt).toNat : Int) - 48) = ((s[j]'hlt).toNat : Int) - 48 := by rw [HX.out, IntKind.wrap_u64]; omega
      have hm4 : IntKind.u64.wrap (10 * (v : Int) + (((s[j]'hlt).toNat : Int) - 48)) = 10 * (v : Int) + (((s[j]'hlt).toNat : Int) - 48) := by rw [HX.out, IntKind.wrap_u64]; omega
      go_wp2_with fail
      go_round
      case rel => exact ⟨j + 1, by omega, by go_num, congrArg (Value.int .u64) (by rw [HS.out, HX.out]; omega)⟩
      case measure => simp [intOf]; omega
    · obtain rfl : j = s.size := by omega
      have HF : Hid (v10 0 ((bl s).take s.size) = v10 0 (bl s)) := by show _ = _; rw [← bl_length, List.take_length]
      rw [HF.out]
      obtain ⟨v, hv⟩ : ∃ v, v10 0 (bl s) = v := ⟨_, rfl⟩
      rw [hv] at HV ⊢
      clear hv HF
      go_wp2_with fail
      go_ret2
      exact ⟨by rw [HV.out, HE.out]; rfl, rfl⟩
theorem rnum_full (s : ByteArray) (w : World) (hs : s.size ≤ maxLen) (h0 : 0 < s.size) (ho : onlyL (bl s) digs = true) (h48 : (s[0] == 48) = false) (hb : v10 0 (bl s) ≤ 18446744073709551615) (hl : s.size = 20) : Calls Tryd.prog 8 #[.string s] w fun e w' => e = .returned (.tuple #[.int .u64 (numV (bl s) : Int), .int .i64 (numE (bl s))]) ∧ w = w' := by
  have hg : goodL (bl s) = true := by rw [good_eq s h0, ho, h48, Bool.and_false]; rfl
  obtain ⟨hv, he⟩ := num_ok hg hb
  have HV := Lib.hid hv
  have HE := Lib.hid he
  have h1 := some_eq s h0
  have h2 := byte_ne s[0] 48 48 rfl
  rw [h48] at h2
  clear h48
  have hl1 := less_num (bl s) mostL (by rw [bl_length, hl]; rfl) ((only_digs _).1 ho) most_digs
  rw [most_val, ← bl_toList] at hl1
  have hl2 : (!Op.bytesLess s.toList mostL && !(s.toList == mostL)) = false := by
    rcases Nat.lt_or_ge (v10 0 (bl s)) 18446744073709551615 with h | h
    · rw [hl1, bl_toList, decide_eq_true h]; rfl
    · have e := v10_inj (bl s) mostL (by rw [bl_length, hl]; rfl) ((only_digs _).1 ho) most_digs (by rw [most_val]; omega)
      rw [bl_toList, e, beq_self_eq_true, Bool.not_true, Bool.and_false]
  clear hl1
  unfold mostL at hl2
  have hdig := (only_digs _).1 ho
  have HO := Lib.hid (only_any s ⟨#[48, 49, 50, 51, 52, 53, 54, 55, 56, 57]⟩ w hs (by decide))
  rw [show bl ⟨#[48, 49, 50, 51, 52, 53, 54, 55, 56, 57]⟩ = digs from rfl, ho] at HO
  have HB := Lib.hid hb
  have HD := Lib.hid hdig
  unfold maxLen at hs
  clear hv he hg hdig hb ho
  go_enter Tryd.func8, Tryd.ntmps8
  go_wp2_with fail
  refine (HO.out).mono ?_
  rintro e' w1 ⟨rfl, rfl⟩
  go_wp2_with fail
  go_loop [5, 6] (fun x i => ∃ j : Nat, j ≤ s.size ∧ i = .int .i64 j ∧ x = .int .u64 (v10 0 ((bl s).take j) : Nat)) (fun _ i => s.size - (intOf i).toNat)
  case atStart => exact ⟨0, Nat.zero_le _, rfl, rfl⟩
  case round =>
    obtain ⟨j, hj, rfl, rfl⟩ := hrel
    by_cases hlt : j < s.size
    · obtain ⟨x, hx⟩ : ∃ x, s[j] = x := ⟨_, rfl⟩
      have hjl : j < (bl s).length := by rw [bl_length]; exact hlt
      have hat : (bl s)[j] = x := by rw [bl_at s j hlt]; exact hx
      have hxd := HD.out x (by rw [← hat]; exact List.getElem_mem hjl)
      have hst : v10 0 ((bl s).take (j + 1)) = 10 * v10 0 ((bl s).take j) + (x.toNat - 48) := by
        rw [List.take_succ_eq_append_getElem hjl, v10_snoc, hat]
      have hle : v10 0 ((bl s).take (j + 1)) ≤ 18446744073709551615 := by
        refine Nat.le_trans ?_ HB.out
        conv => rhs; rw [← List.take_append_drop (j + 1) (bl s), v10_append]
        exact v10_ge _ _
      have HS := Lib.hid hst
      rw [hst] at hle
      obtain ⟨v, hv⟩ : ∃ v, v10 0 ((bl s).take j) = v := ⟨_, rfl⟩
      rw [hv] at hle HS ⊢
      obtain ⟨y, hy⟩ : ∃ y, x.toNat = y := ⟨_, rfl⟩
      rw [hy] at hxd hle HS
      have hx2 : (s[j]'hlt).toNat = y := by rw [hx]; exact hy
      have HX := Lib.hid hx2
      clear hat hst hv hx hy hx2 hjl
      have hm1 : IntKind.u64.wrap (10 * (v : Int)) = 10 * (v : Int) := by rw [IntKind.wrap_u64]; omega
      have hm2 : IntKind.u8.wrap (((s[j]'hlt).toNat : Int) - 48) = ((s[j]'hlt).toNat : Int) - 48 := by rw [HX.out, IntKind.wrap_u8]; omega
      have hm3 : IntKind.u64.wrap (((s[j]'hlt).toNat : Int) - 48) = ((s[j]'hlt).toNat : Int) - 48 := by rw [HX.out, IntKind.wrap_u64]; omega
      have hm4 : IntKind.u64.wrap (10 * (v : Int) + (((s[j]'hlt).toNat : Int) - 48)) = 10 * (v : Int) + (((s[j]'hlt).toNat : Int) - 48) := by rw [HX.out, IntKind.wrap_u64]; omega
      go_wp2_with fail
      go_round
      case rel => exact ⟨j + 1, by omega, by go_num, congrArg (Value.int .u64) (by rw [HS.out, HX.out]; omega)⟩
      case measure => simp [intOf]; omega
    · obtain rfl : j = s.size := by omega
      have HF : Hid (v10 0 ((bl s).take s.size) = v10 0 (bl s)) := by show _ = _; rw [← bl_length, List.take_length]
      rw [HF.out]
      obtain ⟨v, hv⟩ : ∃ v, v10 0 (bl s) = v := ⟨_, rfl⟩
      rw [hv] at HV ⊢
      clear hv HF
      go_wp2_with fail
      go_ret2
      exact ⟨by rw [HV.out, HE.out]; rfl, rfl⟩
/-- ref.Number -/
theorem rnumber_any (s : ByteArray) (w : World) (hs : s.size ≤ maxLen) : Calls Tryd.prog 8 #[.string s] w fun e w' => e = .returned (.tuple #[.int .u64 (numV (bl s) : Int), .int .i64 (numE (bl s))]) ∧ w = w' := by
  rcases Nat.eq_zero_or_pos s.size with h | h0
  · exact rnum_empty s w h
  cases ho : onlyL (bl s) digs with
  | false => exact rnum_other s w hs h0 ho
  | true =>
    rcases Nat.lt_or_ge 1 s.size with h1 | h1
    · cases h48 : s[0] == 48 with
      | true => exact rnum_zero s w hs h1 ho h48
      | false =>
        rcases Nat.lt_trichotomy s.size 20 with h | h | h
        · have hg : goodL (bl s) = true := by rw [good_eq s h0, ho, h48, Bool.and_false]; rfl
          have := good_short hg 19 (by rw [bl_length]; omega)
          exact rnum_short s w hs h0 ho h48 (by omega) h h1
        · rcases Nat.lt_or_ge 18446744073709551615 (v10 0 (bl s)) with hb | hb
          · exact rnum_over s w hs h ho h48 hb
          · exact rnum_full s w hs h0 ho h48 hb h
        · exact rnum_long s w hs h ho h48
    · have hg : goodL (bl s) = true := by rw [good_eq s h0, ho, decide_eq_false (by omega), Bool.false_and]; rfl
      have := good_short hg 1 (by rw [bl_length]; omega)
      exact rnum_one s w hs h0 ho (by omega) (by omega)
end Go.Proofs.YtgmocagdhdbpnaaDoor
