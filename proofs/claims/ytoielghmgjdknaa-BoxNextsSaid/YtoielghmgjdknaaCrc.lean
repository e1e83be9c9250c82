/-
  Package crc: contracts of its sums.
-/
import Derived.Test.YtoielghmgjdknaaCrcN
import Derived.Test.YtoielghmgjdknaaMem
import Derived.Laws.BitsAllLaws
namespace Go.Proofs.Ytoielghmgjdknaa
open Go.RowKit
set_option linter.unusedVariables false

theorem and_one (y : Nat) (hy : y < 4294967296) : bits .and .u32 (y : Int) 1 = ((y % 2 : Nat) : Int) := by
  have := u32_and_nat y 1 hy (by omega)
  rw [Nat.and_one_is_mod] at this
  simpa using this
theorem turn_bits (y : Nat) (hy : y < 4294967296) :
    bits .xor .u32 ((y : Int) / 2) (bits .and .u32 2197175160 (-bits .and .u32 (y : Int) 1 % 4294967296)) = ((turn y : Nat) : Int) := by
  rw [and_one y hy]
  have hd : ((y : Int) / 2) = ((y / 2 : Nat) : Int) := by omega
  rw [hd]
  unfold turn
  rcases Nat.mod_two_eq_zero_or_one y with h | h <;> rw [h]
  · have e : bits .and .u32 2197175160 (-((0 : Nat) : Int) % 4294967296) = ((0 : Nat) : Int) := by
      have := u32_and_nat 2197175160 0 (by omega) (by omega)
      simpa using this
    rw [e, u32_xor_nat _ _ (by omega) (by omega)]
    simp
  · have e : bits .and .u32 2197175160 (-((1 : Nat) : Int) % 4294967296) = ((2197175160 : Nat) : Int) := by
      have := u32_and_nat 2197175160 4294967295 (by omega) (by omega)
      simpa using this
    rw [e, u32_xor_nat _ _ (by omega) (by omega)]
    simp
theorem turn_same {r c : Nat} (h : r % 2 = c % 2) : r / 2 ^^^ c / 2 = turn (r ^^^ c) := by
  unfold turn
  rw [xor_div2, xor_mod2, if_neg (by omega), Nat.xor_zero]
theorem turn_diff {r c : Nat} (h : r % 2 ≠ c % 2) : (r / 2 ^^^ 2197175160) ^^^ c / 2 = turn (r ^^^ c) := by
  unfold turn
  rw [xor_div2, xor_mod2, if_pos (by omega), Nat.xor_assoc, Nat.xor_comm 2197175160, Nat.xor_assoc]
theorem reg_take (l : List UInt8) (j : Nat) (h : j < l.length) (r : Nat) : reg r (l.take (j + 1)) = upd (reg r (l.take j)) l[j] := by
  rw [List.take_succ_eq_append_getElem h, reg_snoc]

set_option maxHeartbeats 400000 in
/-- crc.turned. -/
theorem turned_any (r : Nat) (w : World) (hr : r < 4294967296) :
    Calls Try.prog 38 #[.int .u32 r] w fun e w' => e = .returned (.int .u32 (turnN 8 r : Nat)) ∧ w = w' := by
  go_enter Try.func38, Try.ntmps38
  go_wp2
  go_loop [0, 4] (fun x i => ∃ j y : Nat, j ≤ 8 ∧ i = .int .i64 j ∧ x = .int .u32 y ∧ y < 4294967296 ∧ turnN j r = y) (fun _ i => 8 - (intOf i).toNat)
  case atStart => exact ⟨0, r, by omega, rfl, rfl, hr, rfl⟩
  case round =>
    obtain ⟨j, y, hj, rfl, rfl, hy, ht⟩ := hrel
    have HT := Lib.hid ht
    clear ht
    by_cases hlt : j < 8
    · have HB := Lib.hid (turn_bits y hy)
      go_wp2
      go_round
      case rel => exact ⟨j + 1, turn y, by omega, by go_num, by rw [HB.out], turn_lt hy, by rw [← HT.out]; rfl⟩
      case measure => simp [intOf]; omega
    · obtain rfl : j = 8 := by omega
      go_wp2
      go_ret
      exact ⟨by rw [HT.out]; rfl, rfl⟩

set_option maxHeartbeats 400000 in
/-- ref.Sum. -/
theorem rcsum_any (A : Option Addr) (n c : Nat) (l : List UInt8) (B : Nat) (w : World) (hn : Hid (l.length = n)) (h : Bs w B A l) (hl : n ≤ 1099511627776) :
    Calls Try.prog 29 #[.slice A n c] w fun e w' => e = .returned (.int .u32 (sumN l : Nat)) ∧ w = w' := by
  go_enter Try.func29, Try.ntmps29
  go_wp2
  go_loop [3, 4] (fun x i => ∃ j y : Nat, j ≤ n ∧ i = .int .i64 j ∧ x = .int .u32 y ∧ y < 4294967296 ∧ reg 4294967295 (l.take j) = y) (fun _ i => n - (intOf i).toNat)
  case atStart => exact ⟨0, 4294967295, by omega, rfl, rfl, by omega, rfl⟩
  case round =>
    obtain ⟨j, y, hj, rfl, rfl, hy, ht⟩ := hrel
    have HT := Lib.hid ht
    clear ht
    by_cases hlt : j < n
    · obtain ⟨b, o, rfl, hb, hc⟩ := h.at_ (by have := hn.out; omega)
      have hjl : j < l.length := by rw [hn.out]; exact hlt
      have hc1 := hc j hjl
      have hx := l[j].toNat_lt
      have HU := Lib.hid (reg_take l j hjl 4294967295)
      obtain ⟨x, hxe⟩ : ∃ x, l[j] = x := ⟨_, rfl⟩
      rw [hxe] at hc1 hx HU
      clear hc hxe hjl
      go_wp2
      go_loop [3, 5, 6] (fun r c i => ∃ k r' c' : Nat, k ≤ 8 ∧ i = .int .i64 k ∧ r = .int .u32 r' ∧ c = .int .u8 c' ∧ r' < 4294967296 ∧ c' * 2 ^ k ≤ x.toNat ∧ r' ^^^ c' = turnN k (y ^^^ x.toNat)) (fun _ _ i => 8 - (intOf i).toNat)
      case atStart => exact ⟨0, y, x.toNat, by omega, rfl, rfl, rfl, hy, by simp, rfl⟩
      case round =>
        obtain ⟨k, r', c', hk, rfl, rfl, rfl, hr, hcx, ht⟩ := hrel
        have HT2 := Lib.hid ht
        have HC := Lib.hid hcx
        have hc8 : c' < 256 := by
          have h1 : c' * 1 ≤ c' * 2 ^ k := Nat.mul_le_mul_left c' (Nat.pow_pos (by omega))
          omega
        clear ht hcx
        have hcn : c' / 2 * 2 ^ (k + 1) ≤ x.toNat := by
          have h1 : c' / 2 * 2 ^ (k + 1) ≤ c' * 2 ^ k := by
            rw [Nat.pow_succ, Nat.mul_comm (2 ^ k), ← Nat.mul_assoc]
            exact Nat.mul_le_mul_right _ (by omega)
          exact Nat.le_trans h1 HC.out
        have HN := Lib.hid hcn
        clear hcn
        by_cases hk8 : k < 8
        · by_cases hb2 : r' % 2 = c' % 2
          · have hv : (((r' : Int) % 2 == 1) == ((c' : Int) % 2 == 1)) = true := by
              rcases Nat.mod_two_eq_zero_or_one r' with e | e
              · rw [show (r' : Int) % 2 = 0 by omega, show (c' : Int) % 2 = 0 by omega]; rfl
              · rw [show (r' : Int) % 2 = 1 by omega, show (c' : Int) % 2 = 1 by omega]; rfl
            have HS := Lib.hid (turn_same hb2)
            clear hb2
            go_wp2
            go_round
            case rel => exact ⟨k + 1, r' / 2, c' / 2, by omega, by go_num, by go_num, by go_num, by omega, HN.out, by rw [HS.out, HT2.out]; rfl⟩
            case measure => simp [intOf]; omega
          · have hv : (((r' : Int) % 2 == 1) == ((c' : Int) % 2 == 1)) = false := by
              rcases Nat.mod_two_eq_zero_or_one r' with e | e
              · rw [show (r' : Int) % 2 = 0 by omega, show (c' : Int) % 2 = 1 by omega]; rfl
              · rw [show (r' : Int) % 2 = 1 by omega, show (c' : Int) % 2 = 0 by omega]; rfl
            have HS := Lib.hid (turn_diff hb2)
            have HX : Hid (bits .xor .u32 ((r' : Int) / 2) 2197175160 = ((r' / 2 ^^^ 2197175160 : Nat) : Int)) := by
              show _ = _
              have := u32_xor_nat (r' / 2) 2197175160 (by omega) (by omega)
              simpa using this
            clear hb2
            go_wp2
            go_round
            case rel => exact ⟨k + 1, r' / 2 ^^^ 2197175160, c' / 2, by omega, by go_num, by rw [HX.out], by go_num, xor_lt (by omega) (by omega), HN.out, by rw [HS.out, HT2.out]; rfl⟩
            case measure => simp [intOf]; omega
        · obtain rfl : k = 8 := by omega
          have hc0 : c' = 0 := by have := HC.out; omega
          subst hc0
          go_wp2
          go_round
          case rel => exact ⟨j + 1, r', by omega, by go_num, rfl, hr, by rw [HU.out, HT.out]; have := HT2.out; rw [Nat.xor_zero] at this; rw [this]; rfl⟩
          case measure => simp [intOf]; omega
    · obtain rfl : j = n := by omega
      have HL : Hid (l.take j = l) := by show _ = _; exact List.take_of_length_le (by have := hn.out; omega)
      go_wp2
      go_ret
      refine ⟨?_, rfl⟩
      unfold sumN
      have := HT.out
      rw [HL.out] at this
      rw [this]
      go_num
end Go.Proofs.Ytoielghmgjdknaa
