import Derived.Test.YtogbcknpnelbgaaLCrcSums
import Derived.Test.YtogbcknpnelbgaaCrcB
import Derived.Test.YtogbcknpnelbgaaArr
import Derived.Test.YtogbcknpnelbgaaArrEq
import Derived.StillTailTactics
import Derived.IntWalk
namespace Go.Proofs.Ytogbcknpnelbgaa
open Go.RowKit
set_option linter.unusedVariables false

theorem not_sealed (l : List UInt8) (a : Nat) (ha : a ≤ l.length) (x : List UInt8) (h : ∃ k, k < 4 ∧ x.getD k 0 ≠ 0) : sealB (spoil (l ++ leB 4 (sumN l)) a x 4) = false := by
  have hlen : (l ++ leB 4 (sumN l)).length = l.length + 4 := by simp
  rw [← Bool.not_eq_true]
  intro hs
  unfold sealB at hs
  rw [decide_eq_true_eq, spoil_length, hlen, Nat.add_sub_cancel] at hs
  have h0 := sealB_seal l
  unfold sealB at h0
  rw [decide_eq_true_eq, hlen, Nat.add_sub_cancel] at h0
  have he := seals_alike l.length a _ _ ha hlen (by rw [spoil_length, hlen]) h0.2 hs.2 (fun j hj => spoil_out _ _ _ _ _ hj)
  obtain ⟨k, hk, hx⟩ := h
  have h1 := spoil_in (l ++ leB 4 (sumN l)) a x 4 k hk
  rw [he, List.getElem?_eq_getElem (by rw [hlen]; omega)] at h1
  simp only [Option.map_some, Option.some.injEq] at h1
  exact hx (xor_same _ _ h1.symm)

theorem eql_4 (x0 x1 x2 x3 : UInt8) (w : World) :
    (binOp .eql 32 (.agg #[.int .u8 x0.toNat, .int .u8 x1.toNat, .int .u8 x2.toNat, .int .u8 x3.toNat]) (.agg #[.int .u8 0, .int .u8 0, .int .u8 0, .int .u8 0])).run Try.prog w =
      .ok (.bool (decide (x0 = 0 ∧ x1 = 0 ∧ x2 = 0 ∧ x3 = 0))) w := by
  have h := run_eql_arrI (P := Try.prog) w Try.underlying32 Try.underlying5 (by kernel_rfl) [x0.toNat, x1.toNat, x2.toNat, x3.toNat] [0, 0, 0, 0] rfl rfl
  have hu : ∀ x : UInt8, (((x.toNat : Nat) : Int) == 0) = decide (x = 0) := fun x => by
    rw [Bool.eq_iff_iff]
    simp [← UInt8.toNat_inj]
  have e : ((List.range 4).all fun i => ([x0.toNat, x1.toNat, x2.toNat, x3.toNat] : List Int).getD i 0 == ([0, 0, 0, 0] : List Int).getD i 0) = decide (x0 = 0 ∧ x1 = 0 ∧ x2 = 0 ∧ x3 = 0) := by
    rw [show List.range 4 = [0, 1, 2, 3] from rfl]
    simp [hu]
  rw [e] at h
  exact h

set_option maxHeartbeats 1000000 in
theorem crcSpoilt_go (A : Option Addr) (m c : Nat) (l : List UInt8) (at_ : Int) (x0 x1 x2 x3 : UInt8) (w : World) (hm : Hid (l.length = m)) (hmc : m ≤ c) (hcm : c ≤ 9223372036854775807) (hbs0 : Bs w w.heap.size A l) :
    Calls Try.prog 5 #[.slice A m c, .int .i64 at_, .agg #[.int .u8 x0.toNat, .int .u8 x1.toNat, .int .u8 x2.toNat, .int .u8 x3.toNat]] w fun e w' => e = .returned (.bool true) ∧ Below w.heap.size w w' := by
  by_cases hbig : 1500 < m
  · have hb : (1500 : Int) < (m : Int) := by omega
    clear hbig
    go_enter Try.func5, Try.ntmps5
    go_wp2_with fail
    refine (awake02_any _).mono ?_
    rintro e w1 ⟨rfl, hb⟩
    go_wp2_with fail
    go_ret
    exact ⟨rfl, ((Below.refl _ w).alloc (Nat.le_refl _) _).trans (hb.mono (by simp))⟩
  have hm' : m ≤ 1500 := by omega
  clear hbig
  by_cases hat : at_ < 0 ∨ (m : Int) < at_
  · have hbb : (at_ < 0) ∨ (¬ at_ < 0 ∧ (m : Int) < at_) := by omega
    clear hat
    rcases hbb with hb | ⟨hb, hb'⟩
    all_goals
      go_enter Try.func5, Try.ntmps5
      go_wp2_with fail
      refine (awake02_any _).mono ?_
      rintro e w1 ⟨rfl, hb⟩
      go_wp2_with fail
      go_ret
      exact ⟨rfl, ((Below.refl _ w).alloc (Nat.le_refl _) _).trans (hb.mono (by simp))⟩
  obtain ⟨a, rfl⟩ : ∃ a : Nat, at_ = a := ⟨at_.toNat, by omega⟩
  have ham : a ≤ m := by omega
  clear hat
  have hq := eql_4 x0 x1 x2 x3
  by_cases hx : x0 = 0 ∧ x1 = 0 ∧ x2 = 0 ∧ x3 = 0
  · rw [decide_eq_true hx] at hq
    clear hx
    go_enter Try.func5, Try.ntmps5
    go_wp2_with fail
    refine (awake02_any _).mono ?_
    rintro e w1 ⟨rfl, hb⟩
    go_wp2_with fail
    go_ret
    exact ⟨rfl, ((Below.refl _ w).alloc (Nat.le_refl _) _).trans (hb.mono (by simp))⟩
  rw [decide_eq_false hx] at hq
  have HNS : Hid (sealB (spoil (l ++ leB 4 (sumN l)) a [x0, x1, x2, x3] 4) = false) := by
    show _ = _
    refine not_sealed l a (by rw [hm.out]; exact ham) _ ?_
    by_cases e0 : x0 = 0
    · by_cases e1 : x1 = 0
      · by_cases e2 : x2 = 0
        · exact ⟨3, by omega, fun e3 => hx ⟨e0, e1, e2, e3⟩⟩
        · exact ⟨2, by omega, e2⟩
      · exact ⟨1, by omega, e1⟩
    · exact ⟨0, by omega, e0⟩
  clear hx
  go_enter Try.func5, Try.ntmps5
  go_wp2_with fail
  obtain ⟨W, hW⟩ : ∃ W, W = w.alloc (.cells #[.int .u8 x0.toNat, .int .u8 x1.toNat, .int .u8 x2.toNat, .int .u8 x3.toNat] 32) := ⟨_, rfl⟩
  have hbW : Below w.heap.size w W := by rw [hW]; exact (Below.refl _ w).alloc (Nat.le_refl _) _
  have hxs := Bs.new w #[.int .u8 x0.toNat, .int .u8 x1.toNat, .int .u8 x2.toNat, .int .u8 x3.toNat] 32 (0, 0) [x0, x1, x2, x3] rfl
  have hsz : W.heap.size = w.heap.size + 1 := by rw [hW]; simp
  rw [← hW] at hxs ⊢
  clear hW
  have HZ := Lib.hid hsz
  rw [← hsz] at hxs
  clear hsz
  refine (rseal_any A m c l W hm ((hbs0.below hbW (Nat.le_refl _)).more hbW.size) (by omega)).mono ?_
  rintro e w1 ⟨A1, n1, c1, rfl, hn1, hown, -, hc1, hbs1, hb1⟩
  have hn1' : n1 = m + 4 := by rw [← hn1.out, List.length_append, hm.out, leB_length]
  subst hn1'
  go_wp2_with fail
  go_loopw [8] (fun i wr => ∃ j : Nat, j ≤ 4 ∧ i = .int .i64 j ∧ Own wr W.heap.size 5 (.slice A1 (m + 4) c1) ((spoil (l ++ leB 4 (sumN l)) a [x0, x1, x2, x3] j).map bv) ∧ Below W.heap.size W wr) (fun i _ => 4 - (intOf i).toNat)
  case atStart => exact ⟨0, by omega, rfl, hown, hb1⟩
  case round =>
    clear hown hb1 hbs1
    obtain ⟨j, hj, rfl, hown, hb1⟩ := hrel
    by_cases hlt : j < 4
    · have hxj := hxs.below hb1 (Nat.le_refl _)
      obtain ⟨b, o, hA, -, hcx⟩ := hxj.at_ (by simp)
      simp at hA
      obtain ⟨rfl, rfl⟩ := hA
      have hcj := hcx j hlt
      rw [Nat.zero_add] at hcj
      obtain ⟨g, rfl, hg, hg2⟩ := hown.addr (by omega)
      obtain ⟨L, hL⟩ : ∃ L, spoil (l ++ leB 4 (sumN l)) a [x0, x1, x2, x3] j = L := ⟨_, rfl⟩
      obtain ⟨x, hx⟩ : ∃ x, [x0, x1, x2, x3][j] = x := ⟨_, rfl⟩
      have HX : Hid ([x0, x1, x2, x3].getD j 0 = x) := by show _ = _; rw [← hx]; simp [hlt]
      rw [hx] at hcj
      rw [hL] at hown
      have hlen := hown.length
      rw [List.length_map] at hlen
      have hjl : a + j < L.length := by omega
      have hcl := hown.cellAt (a + j) (by rw [List.length_map]; exact hjl)
      rw [List.getElem_map, bv] at hcl
      have hfr := hown.frozenAt (a + j)
      have HV : Hid (bits .xor .u8 (L[a + j].toNat : Int) (x.toNat : Int) = ((L[a + j] ^^^ x).toNat : Int)) := by
        show _ = _
        rw [u8_xor_nat _ _ (UInt8.toNat_lt _) (UInt8.toNat_lt _), UInt8.toNat_xor]
      have HM : Hid (spoil (l ++ leB 4 (sumN l)) a [x0, x1, x2, x3] (j + 1) = L.set (a + j) (L[a + j] ^^^ x)) := by
        show _ = _
        rw [spoil, hL, HX.out]
        apply List.ext_getElem?
        intro i
        rw [List.getElem?_modify, List.getElem?_set]
        by_cases hi : a + j = i
        · subst hi
          simp [hjl]
        · simp [hi]
      obtain ⟨y, hy⟩ : ∃ y, L[a + j] = y := ⟨_, rfl⟩
      rw [hy] at hcl HV HM
      have hst := hown.bstored (a + j) (y ^^^ x)
      obtain ⟨hst1, hst2⟩ := hst
      have hb2 := hb1.grown hst2 hb1.size (fun q hq => by simp at hq; omega)
      have h1 : IntKind.i64.wrap ((a : Int) + (j : Int)) = (a : Int) + (j : Int) := IntWalk.i64_in _ (by omega)
      have h2 : (0 : Int) ≤ (a : Int) + (j : Int) := by omega
      have h3 : ((a : Int) + (j : Int)).toNat = a + j := by omega
      have h4 : (a : Int) + (j : Int) < (m : Int) + 4 := by omega
      clear hcx hL hlen hx hy hjl hst2 hq
      go_wp2_with fail
      go_still_tail 15, (by kernel_rfl)
      go_wp2_with fail
      rw [HV.out]
      go_wp2_with fail
      go_roundw
      case rel => exact ⟨j + 1, by omega, by go_num, by rw [HM.out]; exact hst1, below_drewN hb2 1⟩
      case measure => simp [intOf]; omega
    · obtain rfl : j = 4 := by omega
      have hbs4 : Bs wr wr.heap.size A1 (spoil (l ++ leB 4 (sumN l)) a [x0, x1, x2, x3] 4) := by
        obtain ⟨A', n', c', e, -, -, -, hv⟩ := hown.bform
        injection e with e1 _ _
        subst e1
        exact hv
      have hln : Hid ((spoil (l ++ leB 4 (sumN l)) a [x0, x1, x2, x3] 4).length = m + 4) := by
        show _ = _
        have := hown.length
        rwa [List.length_map] at this
      have hmc4 : m + 4 ≤ c1 := by
        obtain ⟨A', c', e, h1, -, -⟩ := hown.form
        injection e with _ e2 e3
        omega
      have hb3 := hbW.trans (hb1.mono hbW.size)
      clear hq
      go_wp2_with fail
      refine (copen_any A1 (m + 4) c1 _ wr hln hmc4 (by unfold maxLen at hc1; omega) hbs4 (by omega)).mono ?_
      rintro e w3 ⟨A3, n3, c3, rfl, -, -, -, -, hb4⟩
      rw [HNS.out]
      go_wp2_with fail
      refine (awake02_any _).mono ?_
      rintro e w4 ⟨rfl, hb5⟩
      go_wp2_with fail
      go_ret
      have hb6 := hb3.trans (hb4.mono hb3.size)
      exact ⟨rfl, hb6.trans (hb5.mono hb6.size)⟩
end Go.Proofs.Ytogbcknpnelbgaa
