/-
  The walk of BoxSpoilt, over what package box is to do.
-/
import Derived.Test.YtoielghmgjdknaaLBox12
import Derived.Test.YtoielghmgjdknaaArr
import Derived.Test.YtoielghmgjdknaaArrEq
import Derived.StillTailTactics
import Derived.IntWalk
namespace Go.Proofs.Ytoielghmgjdknaa
open Go.RowKit
set_option linter.unusedVariables false

set_option maxRecDepth 100000 in
set_option maxHeartbeats 3200000 in
theorem boxSpoilt_over (hNX : BoxNextLaw) (hA : Awake12) (A : Option Addr) (m c : Nat) (l : List UInt8) (at_ : Int) (x0 x1 x2 x3 : UInt8) (w : World) (hm : Hid (l.length = m)) (hmc : m ≤ c) (hcm : c ≤ maxLen) (hbs0 : Bs w w.heap.size A l) :
    Calls Try.prog 6 #[.slice A m c, .int .i64 at_, .agg #[.int .u8 x0.toNat, .int .u8 x1.toNat, .int .u8 x2.toNat, .int .u8 x3.toNat]] w fun e w' => e = .returned (.bool true) ∧ Below w.heap.size w w' := by
  have HAW := Lib.hid hA
  have HNX := Lib.hid hNX
  clear hA hNX
  by_cases hm0 : m = 0
  · have z0 : ((m : Int) == 0) = true := by rw [beq_iff_eq]; omega
    clear hm0 hbs0 hm
    go_enter Try.func6, Try.ntmps6
    go_wp2_with fail
    refine (HAW.out _).mono ?_
    rintro e w1 ⟨rfl, hb⟩
    go_wp2_with fail
    go_ret
    exact ⟨rfl, ((Below.refl _ w).alloc (Nat.le_refl _) _).trans (hb.mono (by simp))⟩
  have z0 : ((m : Int) == 0) = false := by rw [beq_eq_false_iff_ne]; omega
  by_cases hbig : 300 < m
  · have g1 : decide ((m : Int) > 300) = true := by rw [decide_eq_true_iff]; omega
    clear hbs0 hm
    go_enter Try.func6, Try.ntmps6
    go_wp2_with fail
    refine (HAW.out _).mono ?_
    rintro e w1 ⟨rfl, hb⟩
    go_wp2_with fail
    go_ret
    exact ⟨rfl, ((Below.refl _ w).alloc (Nat.le_refl _) _).trans (hb.mono (by simp))⟩
  have g1 : decide ((m : Int) > 300) = false := by rw [decide_eq_false_iff_not]; omega
  by_cases hat : at_ < 0
  · have g2 : decide (at_ < 0) = true := decide_eq_true hat
    clear hbs0 hm
    go_enter Try.func6, Try.ntmps6
    go_wp2_with fail
    refine (HAW.out _).mono ?_
    rintro e w1 ⟨rfl, hb⟩
    go_wp2_with fail
    go_ret
    exact ⟨rfl, ((Below.refl _ w).alloc (Nat.le_refl _) _).trans (hb.mono (by simp))⟩
  have g2 : decide (at_ < 0) = false := decide_eq_false hat
  by_cases hat2 : (m : Int) < at_
  · have g3 : decide (at_ > (m : Int)) = true := decide_eq_true hat2
    clear hbs0 hm
    go_enter Try.func6, Try.ntmps6
    go_wp2_with fail
    refine (HAW.out _).mono ?_
    rintro e w1 ⟨rfl, hb⟩
    go_wp2_with fail
    go_ret
    exact ⟨rfl, ((Below.refl _ w).alloc (Nat.le_refl _) _).trans (hb.mono (by simp))⟩
  obtain ⟨a, rfl⟩ : ∃ a : Nat, at_ = a := ⟨at_.toNat, by omega⟩
  have ham : a ≤ m := by omega
  have g3 : ¬ m < a := by omega
  clear hat hat2 g2
  have hq := eql_4 x0 x1 x2 x3
  by_cases hx : x0 = 0 ∧ x1 = 0 ∧ x2 = 0 ∧ x3 = 0
  · rw [decide_eq_true hx] at hq
    clear hx hbs0 hm
    go_enter Try.func6, Try.ntmps6
    go_wp2_with fail
    refine (HAW.out _).mono ?_
    rintro e w1 ⟨rfl, hb⟩
    go_wp2_with fail
    go_ret
    exact ⟨rfl, ((Below.refl _ w).alloc (Nat.le_refl _) _).trans (hb.mono (by simp))⟩
  rw [decide_eq_false hx] at hq
  have HNS : Hid (nextL (spoil (boxL l) (2 + a) [x0, x1, x2, x3] 4) 0 = ([], 0, 4)) := by
    show _ = _
    have hsp := boxAt_spoilt (l := l) ⟨by rw [hm.out]; omega, by rw [hm.out]; omega⟩ a (by rw [hm.out]; exact ham) [x0, x1, x2, x3] ?_
    · have h0 := nextL_in (l := spoil (boxL l) (2 + a) [x0, x1, x2, x3] 4) (Nat.zero_le _)
      rw [List.drop_zero, hsp] at h0
      exact h0
    · by_cases e0 : x0 = 0
      · by_cases e1 : x1 = 0
        · by_cases e2 : x2 = 0
          · exact ⟨3, by omega, fun e3 => hx ⟨e0, e1, e2, e3⟩⟩
          · exact ⟨2, by omega, e2⟩
        · exact ⟨1, by omega, e1⟩
      · exact ⟨0, by omega, e0⟩
  clear hx
  go_enter Try.func6, Try.ntmps6
  go_wp2_with fail
  obtain ⟨W, hW⟩ : ∃ W, W = w.alloc (.cells #[.int .u8 x0.toNat, .int .u8 x1.toNat, .int .u8 x2.toNat, .int .u8 x3.toNat] 38) := ⟨_, rfl⟩
  have hbW : Below w.heap.size w W := by rw [hW]; exact (Below.refl _ w).alloc (Nat.le_refl _) _
  have hxs := Bs.new w #[.int .u8 x0.toNat, .int .u8 x1.toNat, .int .u8 x2.toNat, .int .u8 x3.toNat] 38 (0, 0) [x0, x1, x2, x3] rfl
  have hsz : W.heap.size = w.heap.size + 1 := by rw [hW]; simp
  rw [← hW] at hxs ⊢
  clear hW
  have HZ := Lib.hid hsz
  rw [← hsz] at hxs
  clear hsz
  refine (rbox_any A m c l W hm ((hbs0.below hbW (Nat.le_refl _)).more hbW.size) (by omega)).mono ?_
  rintro e w1 ⟨A1, n1, c1, rfl, hn1, hown, hn1c, hc1, hbs1, hb1⟩
  have hn1' : n1 = m + 6 := by rw [← hn1.out, boxL_length, hm.out]
  subst hn1'
  have HC1 := Lib.hid (And.intro hn1c hc1)
  go_wp2_with fail
  go_loopw [8] (fun i wr => ∃ j : Nat, j ≤ 4 ∧ i = .int .i64 j ∧ Own wr W.heap.size 5 (.slice A1 (m + 6) c1) ((spoil (boxL l) (2 + a) [x0, x1, x2, x3] j).map bv) ∧ Below W.heap.size W wr) (fun i _ => 4 - (intOf i).toNat)
  case atStart => exact ⟨0, by omega, rfl, hown, hb1⟩
  case round =>
    clear hown hb1 hbs1
    obtain ⟨j, hj, rfl, hown, hb1⟩ := hrel
    by_cases hlt : j < 4
    · have hxj := hxs.below hb1 (Nat.le_refl _)
      obtain ⟨b, o, hA, -, hcx⟩ := hxj.at_ (by simp)
      simp at hA
      obtain ⟨rfl, rfl⟩ := hA
      have hcj := hcx j hlt
      rw [Nat.zero_add] at hcj
      obtain ⟨g, rfl, hg, hg2⟩ := hown.addr (by omega)
      obtain ⟨L, hL⟩ : ∃ L, spoil (boxL l) (2 + a) [x0, x1, x2, x3] j = L := ⟨_, rfl⟩
      obtain ⟨x, hx⟩ : ∃ x, [x0, x1, x2, x3][j] = x := ⟨_, rfl⟩
      have HX : Hid ([x0, x1, x2, x3].getD j 0 = x) := by show _ = _; rw [← hx]; simp [hlt]
      rw [hx] at hcj
      rw [hL] at hown
      have hlen := hown.length
      rw [List.length_map] at hlen
      have hjl : 2 + a + j < L.length := by omega
      have hcl := hown.cellAt (2 + a + j) (by rw [List.length_map]; exact hjl)
      rw [List.getElem_map, bv] at hcl
      have hfr := hown.frozenAt (2 + a + j)
      have HV : Hid (bits .xor .u8 (L[2 + a + j].toNat : Int) (x.toNat : Int) = ((L[2 + a + j] ^^^ x).toNat : Int)) := by
        show _ = _
        rw [u8_xor_nat _ _ (UInt8.toNat_lt _) (UInt8.toNat_lt _), UInt8.toNat_xor]
      have HM : Hid (spoil (boxL l) (2 + a) [x0, x1, x2, x3] (j + 1) = L.set (2 + a + j) (L[2 + a + j] ^^^ x)) := by
        show _ = _
        rw [spoil, hL, HX.out]
        apply List.ext_getElem?
        intro i
        rw [List.getElem?_modify, List.getElem?_set]
        by_cases hi : 2 + a + j = i
        · subst hi
          simp [hjl]
        · simp [hi]
      obtain ⟨y, hy⟩ : ∃ y, L[2 + a + j] = y := ⟨_, rfl⟩
      rw [hy] at hcl HV HM
      have hst := hown.bstored (2 + a + j) (y ^^^ x)
      obtain ⟨hst1, hst2⟩ := hst
      have hb2 := hb1.grown hst2 hb1.size (fun q hq => by simp at hq; omega)
      have h0 : IntKind.i64.wrap (2 + (a : Int)) = 2 + (a : Int) := IntWalk.i64_in _ (by omega)
      have h1 : IntKind.i64.wrap (2 + (a : Int) + (j : Int)) = 2 + (a : Int) + (j : Int) := IntWalk.i64_in _ (by omega)
      have h2 : (0 : Int) ≤ 2 + (a : Int) + (j : Int) := by omega
      have h3 : (2 + (a : Int) + (j : Int)).toNat = 2 + a + j := by omega
      have h4 : 2 + (a : Int) + (j : Int) < (m : Int) + 6 := by omega
      clear hcx hL hlen hx hy hjl hst2 hq
      go_wp2_with fail
      go_still_tail 17, (by kernel_rfl)
      go_wp2_with fail
      rw [HV.out]
      go_wp2_with fail
      go_roundw
      case rel => exact ⟨j + 1, by omega, by go_num, by rw [HM.out]; exact hst1, below_drewN hb2 1⟩
      case measure => simp [intOf]; omega
    · obtain rfl : j = 4 := by omega
      have hbs4 : Bs wr wr.heap.size A1 (spoil (boxL l) (2 + a) [x0, x1, x2, x3] 4) := by
        obtain ⟨A', n', c', e, -, -, -, hv⟩ := hown.bform
        cases e
        exact hv
      have hb4 := hbW.trans (hb1.mono hbW.size)
      have HN2 := Lib.hid (HNX.out A1 (m + 6) c1 _ 0 wr.heap.size wr (Lib.hid (by rw [spoil_length, boxL_length, hm.out])) HC1.out.1 HC1.out.2 hbs4 (Nat.le_refl _) (by omega) (by decide))
      unfold NextB at HN2
      rw [HNS.out] at HN2
      have HB4 := Lib.hid hb4
      clear hbs4 hb4 hown hb1 hxs hq
      rw [show ((4 : Nat) : Int) = 4 from rfl]
      go_wp2_with fail
      refine HN2.out.mono ?_
      rintro e w5 ⟨A5, n5, c5, rfl, hn5, h51, h52, hbs5, hb5, -⟩
      obtain rfl : 0 = n5 := hn5.out
      have HB5 : Hid (Below w.heap.size w w5) := HB4.out.trans (hb5.mono HB4.out.size)
      clear hbs5 hb5
      go_wp2_with fail
      refine (HAW.out _).mono ?_
      rintro e w6 ⟨rfl, hb6⟩
      go_wp2_with fail
      go_ret
      exact ⟨rfl, HB5.out.trans (hb6.mono HB5.out.size)⟩
end Go.Proofs.Ytoielghmgjdknaa
