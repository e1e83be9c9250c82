/-
  Package taximeterref01: contracts.
-/
import Derived.Test.YtoielghmgjdknaaMem
import Derived.Test.YtoielghmgjdknaaLe
import Derived.Test.YtoielghmgjdknaaSame
namespace Go.Proofs.Ytoielghmgjdknaa
open Go.RowKit
set_option linter.unusedVariables false

theorem u8E : Elem Try.prog 22 5 (.int .u8 0) 1 := Elem.mk' Try.underlying22 (by kernel_rfl) rfl

theorem bv_mod (q : Nat) : Value.int .u8 ((q : Int) % 256) = bv (UInt8.ofNat (q % 256)) := by
  unfold bv
  simp
theorem own_step {w : World} {B : Nat} {e : TypeId} {v : Value} {j n q : Nat} (hq : q = n / 256 ^ j) (h : Own w B e v (List.map bv (leB j n) ++ [Value.int .u8 ((q : Int) % 256)])) : Own w B e v ((leB (j + 1) n).map bv) := by
  rw [leB_snoc, List.map_append, ← hq]
  rwa [bv_mod] at h

set_option maxHeartbeats 400000 in
/-- ref.Bytes. -/
theorem bytes_any (k n : Nat) (w : World) (hk : k ≤ 65536) (hn : n ≤ 18446744073709551615) :
    Calls Try.prog 22 #[.int .i64 k, .int .u64 n] w (RetO 5 (leB k n) w) := by
  go_enter Try.func22, Try.ntmps22
  go_wp2
  go_loopw [1, 5, 6] (fun x v i wr => ∃ j q : Nat, j ≤ k ∧ i = .int .i64 j ∧ x = .int .u64 q ∧ q = n / 256 ^ j ∧ Own wr w.heap.size 5 v ((leB j n).map bv) ∧ Below w.heap.size w wr)
    (fun _ _ i _ => k - (intOf i).toNat)
  case atStart => exact ⟨0, n, Nat.zero_le _, rfl, rfl, by simp, Own.nil _ _ _, Below.refl _ _⟩
  case round =>
    obtain ⟨j, q, hj, rfl, rfl, hq, hown, hb⟩ := hrel
    have HQ := Lib.hid hq
    clear hq
    have hqn : q ≤ 18446744073709551615 := Nat.le_trans (by rw [HQ.out]; exact Nat.div_le_self _ _) hn
    by_cases hlt : j < k
    · have hbs := hb.size
      go_wp2_with (at_builtin; refine wp_app1 wr rfl (.tmp 12) (.tmp 16) _ rfl w.heap.size 5 u8E u5 _ rfl hown _ _ _ rfl rfl ?c1 ?c2 ?c3 ?_)
      case c1 => simp [maxLen]; omega
      case c2 => simp; omega
      case c3 => exact hbs
      intro v' w1 hown' hg
      have hown2 := own_step HQ.out hown'
      have hb2 := hb.trans (below_app hown hg hbs)
      clear hown hown' hg hb
      go_wp2
      go_roundw
      case rel => exact ⟨j + 1, q / 256, by omega, by go_num, by go_num, by rw [HQ.out, Nat.div_div_eq_div_mul, Nat.pow_succ], hown2, hb2⟩
      case measure => simp [intOf]; omega
    · obtain rfl : j = k := by omega
      go_wp2
      go_ret
      exact RetO.of rfl hown hb
end Go.Proofs.Ytoielghmgjdknaa

namespace Go.Proofs.Ytoielghmgjdknaa
open Go.RowKit
set_option linter.unusedVariables false

end Go.Proofs.Ytoielghmgjdknaa
