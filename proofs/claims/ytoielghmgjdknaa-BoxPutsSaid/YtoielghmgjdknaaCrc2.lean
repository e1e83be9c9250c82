/-
  Package crc: contracts of its exported calls.
-/
import Derived.Test.YtoielghmgjdknaaCrc
import Derived.Test.YtoielghmgjdknaaPut
import Derived.Test.YtoielghmgjdknaaCur2
namespace Go.Proofs.Ytoielghmgjdknaa
open Go.RowKit
set_option linter.unusedVariables false

theorem not_bits (s : Nat) (hs : s ≤ 4294967295) : bits .xor .u32 IntKind.u32.max (s : Int) = ((4294967295 - s : Nat) : Int) := by
  have := u32_xor_nat 4294967295 s (by omega) (by omega)
  rw [not32 (by omega)] at this
  exact this

set_option maxHeartbeats 400000 in
/-- crc.More. -/
theorem more_any (s : Nat) (A : Option Addr) (n c : Nat) (l : List UInt8) (B : Nat) (w : World) (hs : s ≤ 4294967295) (hn : Hid (l.length = n)) (hbs : Bs w B A l) (hl : n ≤ 1099511627776) :
    Calls Try.prog 35 #[.int .u32 s, .slice A n c] w fun e w' => e = .returned (.int .u32 (4294967295 - reg (4294967295 - s) l : Nat)) ∧ w = w' := by
  have HN := Lib.hid (not_bits s hs)
  go_enter Try.func35, Try.ntmps35
  go_wp2
  go_loop [5, 7, 12] (fun x _ i => ∃ j y : Nat, j ≤ n ∧ i = .int .i64 j ∧ x = .int .u32 y ∧ y < 4294967296 ∧ reg (4294967295 - s) (l.take j) = y) (fun _ _ i => n - (intOf i).toNat)
  case atStart => exact ⟨0, 4294967295 - s, by omega, rfl, by rw [HN.out], by omega, rfl⟩
  case round =>
    obtain ⟨j, y, hj, rfl, rfl, hy, ht⟩ := hrel
    have HT := Lib.hid ht
    clear ht
    by_cases hlt : j < n
    · obtain ⟨b, o, rfl, hb, hc⟩ := hbs.at_ (by have := hn.out; omega)
      have hjl : j < l.length := by rw [hn.out]; exact hlt
      have hc1 := hc j hjl
      have hx := l[j].toNat_lt
      have HU := Lib.hid (reg_take l j hjl (4294967295 - s))
      obtain ⟨x, hxe⟩ : ∃ x, l[j] = x := ⟨_, rfl⟩
      rw [hxe] at hc1 hx HU
      clear hc hxe hjl
      have HX : Hid (bits .xor .u32 (y : Int) (x.toNat : Int) = ((y ^^^ x.toNat : Nat) : Int)) := by
        show _ = _
        exact u32_xor_nat _ _ (by omega) (by omega)
      have hxy := xor_lt hy (show x.toNat < 4294967296 by omega)
      go_wp2_with fail
      rw [HX.out]
      refine (turned_any _ _ hxy).mono ?_
      rintro e w' ⟨rfl, rfl⟩
      go_wp2_with fail
      go_round
      case rel => exact ⟨j + 1, turnN 8 (y ^^^ x.toNat), by omega, by go_num, rfl, turnN_lt 8 hxy, by rw [HU.out, HT.out]; rfl⟩
      case measure => simp [intOf]; omega
    · obtain rfl : j = n := by omega
      have HL : Hid (l.take j = l) := by show _ = _; exact List.take_of_length_le (by have := hn.out; omega)
      go_wp2
      go_ret
      refine ⟨?_, rfl⟩
      have := HT.out
      rw [HL.out] at this
      rw [this, ← not_bits y (by omega)]
      rfl

set_option maxHeartbeats 400000 in
/-- crc.Sum. -/
theorem csum_any (A : Option Addr) (n c : Nat) (l : List UInt8) (B : Nat) (w : World) (hn : Hid (l.length = n)) (h : Bs w B A l) (hl : n ≤ 1099511627776) :
    Calls Try.prog 28 #[.slice A n c] w fun e w' => e = .returned (.int .u32 (sumN l : Nat)) ∧ w = w' := by
  go_enter Try.func28, Try.ntmps28
  go_wp2_with fail
  refine (more_any 0 A n c l B _ (by omega) hn h hl).mono ?_
  rintro e w' ⟨rfl, rfl⟩
  go_wp2_with fail
  go_ret
  exact ⟨rfl, rfl⟩

set_option maxHeartbeats 400000 in
/-- crc.Seal. -/
theorem cseal_any (A : Option Addr) (n c : Nat) (l : List UInt8) (w : World) (hn : Hid (l.length = n)) (h : Bs w w.heap.size A l) (hl : n ≤ 1099511627000) :
    Calls Try.prog 20 #[.slice A n c] w (RetO 5 (l ++ leB 4 (sumN l)) w) := by
  have hb := sumN_lt l
  obtain ⟨s, hs⟩ : ∃ s, sumN l = s := ⟨_, rfl⟩
  rw [hs] at hb
  have HS := Lib.hid hs
  have HP : Hid (putB 4 s = leB 4 s) := by show _ = _; simp [putB, isW]
  go_enter Try.func20, Try.ntmps20
  go_wp2_with fail
  refine (csum_any A n c l _ _ hn h (by omega)).mono ?_
  rintro e w' ⟨rfl, rfl⟩
  rw [HS.out]
  go_wp2_with fail
  refine (put_any A n c l 4 s _ hn.out h (by omega) (by omega)).mono ?_
  rintro e w1 ⟨A', n', c', rfl, hh⟩
  go_wp2_with fail
  go_ret
  rw [HP.out] at hh
  rw [HS.out]
  exact ⟨A', n', c', rfl, hh⟩

/-- ref.Seal. -/
theorem rseal_any (A : Option Addr) (n c : Nat) (l : List UInt8) (w : World) (hn : Hid (l.length = n)) (h : Bs w w.heap.size A l) (hl : n ≤ 1099511627000) :
    Calls Try.prog 21 #[.slice A n c] w (RetO 5 (l ++ leB 4 (sumN l)) w) := by
  have hb := sumN_lt l
  obtain ⟨s, hs⟩ : ∃ s, sumN l = s := ⟨_, rfl⟩
  rw [hs] at hb
  have HS := Lib.hid hs
  have h1 := bv_one l
  have HLM : Hid ((l.map bv).length = n) := by show _ = _; rw [List.length_map]; exact hn.out
  go_enter Try.func21, Try.ntmps21
  go_wp2_with (at_builtin; refine wp_app (w.alloc (.cells #[] 5)) rfl (.tmp 3) (.tmp 4) _ rfl w.heap.size 5 u8E (.slice (some ⟨w.heap.size, 0, none⟩) 0 0) [] rfl (World.ownsRow_made w #[] 0 (Nat.le_refl _) (Nat.zero_le _) rfl) _ _ _ _ _ rfl HLM.out (Bs.alloc h (Nat.le_refl _) _) h1 ?c1 ?c2 ?c3 ?_)
  case c1 => simp [maxLen]; omega
  case c2 => simp; omega
  case c3 => simp
  intro v1 w1 hown1 hg1 _
  have hb1 : Below w.heap.size w w1 := ((Below.refl _ w).alloc (Nat.le_refl _) _).trans (below_app (World.ownsRow_made w #[] 0 (Nat.le_refl _) (Nat.zero_le _) rfl) hg1 (by simp))
  clear hg1
  go_wp2_with fail
  refine (rcsum_any A n c l _ _ hn (h.below hb1 (Nat.le_refl _)) (by omega)).mono ?_
  rintro e w' ⟨rfl, rfl⟩
  rw [HS.out]
  go_wp2_with fail
  refine (bytes_any 4 s _ (by omega) (by omega)).mono ?_
  rintro e w2 ⟨A1, n1, c1, rfl, hn1, -, -, -, hbs1, hb2⟩
  have hn1b : n1 = 4 := by have := hn1.out; simp at this; exact this.symm
  have hn1c : n1 ≤ 4 := by omega
  clear hn1b
  have hown1' := hown1.below hb2 (Nat.le_refl _)
  have h1b := bv_one (leB 4 s)
  have hb12 := hb1.trans (hb2.mono hb1.size)
  have hbs12 := hb12.size
  go_wp2_with (at_builtin; refine wp_app w2 rfl (.tmp 5) (.tmp 9) _ rfl w.heap.size 5 u8E v1 _ rfl hown1' _ _ _ _ _ rfl ((List.length_map _).trans hn1.out) hbs1 h1b ?d1 ?d2 ?d3 ?_)
  case d1 => simp [HLM.out, maxLen]; omega
  case d2 => simp [HLM.out]; omega
  case d3 => exact hbs12
  intro v2 w2b hown2 hg2 _
  have hb22 := hb12.trans (below_app hown1' hg2 hbs12)
  rw [← List.map_append] at hown2
  clear hg2 HLM hown1 hown1' hbs1
  go_wp2_with fail
  go_ret
  rw [HS.out]
  exact RetO.of rfl hown2 hb22
end Go.Proofs.Ytoielghmgjdknaa
