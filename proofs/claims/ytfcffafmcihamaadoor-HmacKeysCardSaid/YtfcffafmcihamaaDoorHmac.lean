/-
  Package hmac: a key as a block; its pads; whether two lists of bytes are the same.
-/
import Derived.Test.YtfcffafmcihamaaDoorShaA
import Derived.Laws.CopyOwn
namespace Go.Proofs.YtfcffafmcihamaaDoor
open Go.RowKit
set_option linter.unusedVariables false

/-! ### plain -/
/-- A key of at most a block. -/
def keyN (k : List UInt8) : List UInt8 := if 64 < k.length then shaN k else k
/-- A key's block. -/
def key64 (k : List UInt8) : List UInt8 := keyN k ++ List.replicate (64 - (keyN k).length) 0
/-- A key's pad. -/
def padK (x : UInt8) (k : List UInt8) : List UInt8 := (key64 k).map fun y => y ^^^ x
/-- The tag. -/
def tagN (k b : List UInt8) : List UInt8 := shaN (padK 0x5c k ++ shaN (padK 0x36 k ++ b))
theorem keyN_length (k : List UInt8) : (keyN k).length ≤ 64 := by
  unfold keyN
  split
  · rw [shaN_length]; omega
  · omega
theorem key64_length (k : List UInt8) : (key64 k).length = 64 := by
  have := keyN_length k
  unfold key64
  simp
  omega
theorem padK_length (x : UInt8) (k : List UInt8) : (padK x k).length = 64 := by rw [padK, List.length_map, key64_length]
theorem tagN_length (k b : List UInt8) : (tagN k b).length = 32 := shaN_length _
theorem u8_xorB (a b : UInt8) : bits .xor .u8 (a.toNat : Int) (b.toNat : Int) = (((a ^^^ b).toNat : Nat) : Int) := by
  rw [u8_xor_nat _ _ a.toNat_lt b.toNat_lt, UInt8.toNat_xor]

/-- Bytes of which the first j are xored. -/
def padJ (x : UInt8) (l : List UInt8) (j : Nat) : List UInt8 := (l.take j).map (fun y => y ^^^ x) ++ l.drop j
theorem padJ_zero (x : UInt8) (l : List UInt8) : padJ x l 0 = l := by simp [padJ]
theorem padJ_length (x : UInt8) (l : List UInt8) (j : Nat) : (padJ x l j).length = l.length := by simp [padJ]; omega
theorem padJ_all (x : UInt8) (l : List UInt8) (j : Nat) (h : l.length ≤ j) : padJ x l j = l.map fun y => y ^^^ x := by
  unfold padJ
  rw [List.take_of_length_le h, List.drop_of_length_le h, List.append_nil]
theorem padJ_at (x : UInt8) (l : List UInt8) (j : Nat) (h : j < l.length) : (padJ x l j)[j]? = some l[j] := by
  unfold padJ
  rw [List.getElem?_append_right (by simp; omega)]
  simp
  rw [show j - min j l.length = 0 by omega]
  simp [h]
theorem padJ_step (x : UInt8) (l : List UInt8) (j : Nat) (h : j < l.length) : (padJ x l j).set j (l[j] ^^^ x) = padJ x l (j + 1) := by
  unfold padJ
  rw [List.set_append_right _ _ (by simp; omega)]
  rw [List.take_succ_eq_append_getElem h, List.map_append, List.append_assoc]
  congr 1
  rw [show j - (List.map (fun y => y ^^^ x) (List.take j l)).length = 0 by simp; omega, List.drop_eq_getElem_cons h]
  rfl

/-! ### hmac.Same -/
/-- Do the first j differ? -/
def orN (l1 l2 : List UInt8) (j : Nat) : UInt8 := ((List.range j).map fun i => l1.getD i 0 ^^^ l2.getD i 0).foldl (· ||| ·) 0
theorem orN_succ (l1 l2 : List UInt8) (j : Nat) : orN l1 l2 (j + 1) = orN l1 l2 j ||| (l1.getD j 0 ^^^ l2.getD j 0) := by
  unfold orN
  rw [List.range_succ, List.map_append, List.foldl_append]
  rfl
theorem u8_orB (a b : UInt8) : bits .or .u8 (a.toNat : Int) (b.toNat : Int) = (((a ||| b).toNat : Nat) : Int) := by
  rw [u8_or_nat _ _ a.toNat_lt b.toNat_lt, UInt8.toNat_or]
theorem u8_or_zero (a b : UInt8) : a ||| b = 0 ↔ a = 0 ∧ b = 0 := by
  refine ⟨fun h => ?_, fun ⟨h1, h2⟩ => by subst h1 h2; rfl⟩
  have h' := congrArg UInt8.toBitVec h
  simp at h'
  exact ⟨UInt8.eq_of_toBitVec_eq h'.1, UInt8.eq_of_toBitVec_eq h'.2⟩
theorem u8_xor_zero (a b : UInt8) : a ^^^ b = 0 ↔ a = b := by
  refine ⟨fun h => ?_, fun h => by subst h; exact UInt8.xor_self⟩
  have : (a ^^^ b) ^^^ b = 0 ^^^ b := by rw [h]
  rwa [UInt8.xor_assoc, UInt8.xor_self, UInt8.xor_zero, UInt8.zero_xor] at this
theorem orN_zero (l1 l2 : List UInt8) (j : Nat) : orN l1 l2 j = 0 ↔ ∀ i, i < j → l1.getD i 0 = l2.getD i 0 := by
  induction j with
  | zero => simp [orN]
  | succ j ih =>
    rw [orN_succ, u8_or_zero, ih, u8_xor_zero]
    refine ⟨fun ⟨h1, h2⟩ i hi => ?_, fun h => ⟨fun i hi => h i (by omega), h j (by omega)⟩⟩
    rcases Nat.lt_or_ge i j with h | h
    · exact h1 i h
    · obtain rfl : i = j := by omega
      exact h2
theorem orN_same (l1 l2 : List UInt8) (h : l1.length = l2.length) : decide (orN l1 l2 l1.length = 0) = decide (l1 = l2) := by
  rw [decide_eq_decide, orN_zero]
  refine ⟨fun hh => ?_, fun hh => by subst hh; simp⟩
  apply List.ext_getElem h
  intro i h1 h2
  have := hh i h1
  simpa [h1, h2] using this

set_option maxHeartbeats 800000 in
/-- hmac.Same. -/
theorem hsame_any (A1 A2 : Option Addr) (n1 n2 c1 c2 : Nat) (l1 l2 : List UInt8) (B : Nat) (w : World) (e1 : Hid (l1.length = n1)) (e2 : Hid (l2.length = n2)) (h1 : Bs w B A1 l1) (h2 : Bs w B A2 l2) (m1 : n1 ≤ maxLen) (m2 : n2 ≤ maxLen) :
    Calls Tryd.prog 11 #[.slice A1 n1 c1, .slice A2 n2 c2] w fun e w' => e = .returned (.bool (decide (l1 = l2))) ∧ ∃ n, w' = w.drewN n := by
  obtain rfl : l1.length = n1 := e1.out
  obtain rfl : l2.length = n2 := e2.out
  unfold maxLen at m1 m2
  by_cases hl : l1.length = l2.length
  · have hb : ((l1.length : Int) != (l2.length : Int)) = false := by simp [hl]
    have HS := Lib.hid (orN_same l1 l2 hl)
    have HL := Lib.hid hl
    clear hl
    go_enter Tryd.func11, Tryd.ntmps11
    go_wp2
    go_loopw [5, 15] (fun o i wr => ∃ k n : Nat, k ≤ l1.length ∧ i = .int .i64 k ∧ o = .int .u8 ((orN l1 l2 k).toNat : Int) ∧ wr = w.drewN n) (fun _ i _ => l1.length - (intOf i).toNat)
    case atStart => exact ⟨0, 0, Nat.zero_le _, rfl, rfl, rfl⟩
    case round =>
      obtain ⟨k, n, hk, rfl, rfl, rfl⟩ := hrel
      by_cases hlt : k < l1.length
      · have hlt2 : k < l2.length := by have := HL.out; omega
        obtain ⟨b1, o1, rfl, hb1, hc1⟩ := h1.at_ (by omega)
        obtain ⟨b2, o2, rfl, hb2, hc2⟩ := h2.at_ (by omega)
        have hc1' := hc1 k hlt
        have hc2' := hc2 k hlt2
        clear hc1 hc2
        have HX : Hid (bits .xor .u8 (l1[k].toNat : Int) (l2[k].toNat : Int) = (((l1[k] ^^^ l2[k]).toNat : Nat) : Int)) := by show _ = _; exact u8_xorB _ _
        have HO : Hid (bits .or .u8 ((orN l1 l2 k).toNat : Int) ((l1[k] ^^^ l2[k]).toNat : Int) = (((orN l1 l2 (k + 1)).toNat : Nat) : Int)) := by
          show _ = _
          rw [u8_orB, orN_succ]
          simp [hlt, hlt2]
        obtain ⟨x, hx⟩ : ∃ x, l1[k] = x := ⟨_, rfl⟩
        obtain ⟨y, hy⟩ : ∃ y, l2[k] = y := ⟨_, rfl⟩
        rw [hx] at hc1' HX HO
        rw [hy] at hc2' HX HO
        clear hx hy
        obtain ⟨o, ho⟩ : ∃ o, orN l1 l2 k = o := ⟨_, rfl⟩
        rw [ho] at HO ⊢
        clear ho
        go_wp2
        try go_quiet (fail)
        try go_wp2
        go_roundw
        case rel => exact ⟨k + 1, _, by omega, by go_num, by rw [HX.out, HO.out], by first | rfl | simp⟩
        case measure => simp [intOf]; omega
      · obtain rfl : k = l1.length := by omega
        have hd : (((orN l1 l2 l1.length).toNat : Int) == 0) = decide (l1 = l2) := by
          rw [← HS.out, Bool.eq_iff_iff, beq_iff_eq, decide_eq_true_eq, ← UInt8.toNat_inj]
          simp
        have HD := Lib.hid hd
        obtain ⟨o, ho⟩ : ∃ o, orN l1 l2 l1.length = o := ⟨_, rfl⟩
        rw [ho] at HD ⊢
        clear ho hd
        go_wp2
        go_ret
        exact ⟨by rw [← HD.out]; rfl, n, rfl⟩
  · have hb : ((l1.length : Int) != (l2.length : Int)) = true := by simp; omega
    have hd : decide (l1 = l2) = false := by simp; rintro rfl; exact hl rfl
    go_enter Tryd.func11, Tryd.ntmps11
    go_wp2
    go_ret
    exact ⟨by first | rfl | (rw [hd]; rfl), 0, rfl⟩

/-! ### a key's block, and its pads -/
theorem splice_key (k : List UInt8) (n : Nat) (hk : k.length = n) (hn : n ≤ 64) : splice (List.replicate 64 zb) 0 (k.map bv) = (k ++ List.replicate (64 - n) 0).map bv := by
  subst hk
  unfold splice
  rw [List.take_zero, List.nil_append, Nat.zero_add, List.length_map, List.drop_replicate, List.map_append, List.map_replicate]
  rfl

set_option maxHeartbeats 1600000 in
/-- hmac.filled. -/
theorem filled_any (A : Option Addr) (n c : Nat) (l : List UInt8) (w : World) (hn : Hid (l.length = n)) (hnc : n ≤ c) (hc : c ≤ 9223372036854775807) (hL : Bs w w.heap.size A l) (hK : Kons w) (hs : n ≤ 1099511627000) :
    Calls Tryd.prog 20 #[.slice A n c] w (RetA (.agg ((key64 l).map bv).toArray) w) := by
  obtain ⟨W0, hW⟩ : ∃ W0, W0 = (w.alloc (.cells #[.int .u8 0, .int .u8 0, .int .u8 0, .int .u8 0, .int .u8 0, .int .u8 0, .int .u8 0, .int .u8 0, .int .u8 0, .int .u8 0, .int .u8 0, .int .u8 0, .int .u8 0, .int .u8 0, .int .u8 0, .int .u8 0, .int .u8 0, .int .u8 0, .int .u8 0, .int .u8 0, .int .u8 0, .int .u8 0, .int .u8 0, .int .u8 0, .int .u8 0, .int .u8 0, .int .u8 0, .int .u8 0, .int .u8 0, .int .u8 0, .int .u8 0, .int .u8 0, .int .u8 0, .int .u8 0, .int .u8 0, .int .u8 0, .int .u8 0, .int .u8 0, .int .u8 0, .int .u8 0, .int .u8 0, .int .u8 0, .int .u8 0, .int .u8 0, .int .u8 0, .int .u8 0, .int .u8 0, .int .u8 0, .int .u8 0, .int .u8 0, .int .u8 0, .int .u8 0, .int .u8 0, .int .u8 0, .int .u8 0, .int .u8 0, .int .u8 0, .int .u8 0, .int .u8 0, .int .u8 0, .int .u8 0, .int .u8 0, .int .u8 0, .int .u8 0] 41)).alloc (.cells #[.int .u8 0, .int .u8 0, .int .u8 0, .int .u8 0, .int .u8 0, .int .u8 0, .int .u8 0, .int .u8 0, .int .u8 0, .int .u8 0, .int .u8 0, .int .u8 0, .int .u8 0, .int .u8 0, .int .u8 0, .int .u8 0, .int .u8 0, .int .u8 0, .int .u8 0, .int .u8 0, .int .u8 0, .int .u8 0, .int .u8 0, .int .u8 0, .int .u8 0, .int .u8 0, .int .u8 0, .int .u8 0, .int .u8 0, .int .u8 0, .int .u8 0, .int .u8 0, .int .u8 0, .int .u8 0, .int .u8 0, .int .u8 0, .int .u8 0, .int .u8 0, .int .u8 0, .int .u8 0, .int .u8 0, .int .u8 0, .int .u8 0, .int .u8 0, .int .u8 0, .int .u8 0, .int .u8 0, .int .u8 0, .int .u8 0, .int .u8 0, .int .u8 0, .int .u8 0, .int .u8 0, .int .u8 0, .int .u8 0, .int .u8 0, .int .u8 0, .int .u8 0, .int .u8 0, .int .u8 0, .int .u8 0, .int .u8 0, .int .u8 0, .int .u8 0] 41) := ⟨_, rfl⟩
  have hR : Bk W0 w.heap.size 41 (List.replicate 64 zb) := by rw [hW]; exact (Bk.newL _ _ _ _ rfl).alloc _
  have hV : Bk W0 (w.heap.size + 1) 41 (List.replicate 64 zb) := by rw [hW]; exact Bk.new' _ _ _ _ _ (by simp) rfl
  have hb : Below w.heap.size w W0 := by rw [hW]; exact ((Below.refl _ _).alloc (Nat.le_refl _) _).alloc (by simp) _
  have hsz : W0.heap.size = w.heap.size + 2 := by rw [hW]; simp
  have HSZ := Lib.hid hsz
  clear hsz
  have hKL := key64_length l
  have HKL : Hid (((key64 l).map bv).length = 64) := by show _ = _; rw [List.length_map]; exact hKL
  have HK1 := Lib.hid (bv_one (key64 l))
  have HR64 : Hid ((List.replicate 64 zb).length = 64) := Lib.hid rfl
  clear hKL
  by_cases hbig : 64 < n
  · have hgt : (64 : Int) < (n : Int) := by omega
    have HO1 := Lib.hid (bv_one (shaN l))
    have HO2 : Hid (((shaN l).map bv).length = 32) := by show _ = _; rw [List.length_map]; exact shaN_length l
    have HSP : Hid (splice (List.replicate 64 zb) 0 ((shaN l).map bv) = (key64 l).map bv) := by
      show _ = _
      rw [splice_key (shaN l) 32 (shaN_length l) (by omega), key64, keyN, if_pos (by rw [hn.out]; exact hbig), shaN_length]
    go_enter Tryd.func20, Tryd.ntmps20
    go_wp2_with fail
    rw [← hW]
    clear hW hbig
    refine (sum_any A n c l W0 hn hnc hc ((hL.below hb (Nat.le_refl _)).more hb.size) (hK.below hb) hs).mono ?_
    rintro e w1 ⟨rfl, hb1⟩
    replace hR := hR.below hb1 (by have := HSZ.out; omega)
    replace hV := hV.below hb1 (by have := HSZ.out; omega)
    have hsz1 : w.heap.size + 2 ≤ w1.heap.size := by have := hb1.size; have := HSZ.out; omega
    replace hb := hb.trans (hb1.mono hb.size)
    clear hb1 hL
    have hD : Bk ((w1.alloc (.cells #[.int .u8 0, .int .u8 0, .int .u8 0, .int .u8 0, .int .u8 0, .int .u8 0, .int .u8 0, .int .u8 0, .int .u8 0, .int .u8 0, .int .u8 0, .int .u8 0, .int .u8 0, .int .u8 0, .int .u8 0, .int .u8 0, .int .u8 0, .int .u8 0, .int .u8 0, .int .u8 0, .int .u8 0, .int .u8 0, .int .u8 0, .int .u8 0, .int .u8 0, .int .u8 0, .int .u8 0, .int .u8 0, .int .u8 0, .int .u8 0, .int .u8 0, .int .u8 0] 24)).setRow w1.heap.size ((shaN l).map bv).toArray) w1.heap.size 24 ((shaN l).map bv) := by
      have := (Bk.new w1 #[.int .u8 0, .int .u8 0, .int .u8 0, .int .u8 0, .int .u8 0, .int .u8 0, .int .u8 0, .int .u8 0, .int .u8 0, .int .u8 0, .int .u8 0, .int .u8 0, .int .u8 0, .int .u8 0, .int .u8 0, .int .u8 0, .int .u8 0, .int .u8 0, .int .u8 0, .int .u8 0, .int .u8 0, .int .u8 0, .int .u8 0, .int .u8 0, .int .u8 0, .int .u8 0, .int .u8 0, .int .u8 0, .int .u8 0, .int .u8 0, .int .u8 0, .int .u8 0] 24).row ((shaN l).map bv).toArray
      rwa [List.toList_toArray] at this
    have hb2 : Below w1.heap.size w1 ((w1.alloc (.cells #[.int .u8 0, .int .u8 0, .int .u8 0, .int .u8 0, .int .u8 0, .int .u8 0, .int .u8 0, .int .u8 0, .int .u8 0, .int .u8 0, .int .u8 0, .int .u8 0, .int .u8 0, .int .u8 0, .int .u8 0, .int .u8 0, .int .u8 0, .int .u8 0, .int .u8 0, .int .u8 0, .int .u8 0, .int .u8 0, .int .u8 0, .int .u8 0, .int .u8 0, .int .u8 0, .int .u8 0, .int .u8 0, .int .u8 0, .int .u8 0, .int .u8 0, .int .u8 0] 24)).setRow w1.heap.size ((shaN l).map bv).toArray) := below_row ((Below.refl _ _).alloc (Nat.le_refl _) _) (Nat.le_refl _) _
    have hq1 : ∀ j v, ((shaN l).map bv)[j]? = some v → ((w1.alloc (.cells #[.int .u8 0, .int .u8 0, .int .u8 0, .int .u8 0, .int .u8 0, .int .u8 0, .int .u8 0, .int .u8 0, .int .u8 0, .int .u8 0, .int .u8 0, .int .u8 0, .int .u8 0, .int .u8 0, .int .u8 0, .int .u8 0, .int .u8 0, .int .u8 0, .int .u8 0, .int .u8 0, .int .u8 0, .int .u8 0, .int .u8 0, .int .u8 0, .int .u8 0, .int .u8 0, .int .u8 0, .int .u8 0, .int .u8 0, .int .u8 0, .int .u8 0, .int .u8 0] 24)).setRow w1.heap.size ((shaN l).map bv).toArray).cell? (({ block := w1.heap.size, off := 0, spot := none } : Addr).add j) = some v := fun j v hv => by
      have he : ({ block := w1.heap.size, off := 0, spot := none } : Addr).add j = ⟨w1.heap.size, j, none⟩ := by unfold Addr.add; split <;> simp_all
      rw [he, hD.cell, hv]
    go_wp2_with (first
      | (refine by32.wpStore (by rfl) (.tmp 4) (.tmp 9) (by rfl) (by rfl) (Bk.new w1 _ _) (by rfl) ((shaN l).map bv) (by rfl) HO2.out HO1.out ?_)
      | (refine wpList_copy_splice (by rfl) (.tmp 11) (.tmp 12) _ _ (by rfl) 5 Tryd.underlying22 (by kernel_rfl) _ _ 64 64 32 32 (by rfl) (by rfl) (w.heap.size + 1) 0 (List.replicate 64 zb) 41 (hV.below hb2 (by omega)) ((shaN l).map bv) HO2.out (fun _ => ⟨rfl, _, rfl, hq1⟩) (by rw [HO2.out, HR64.out]; omega) HO1.out (w.heap.size + 1) w1 (hb2.mono (by omega)) (Nat.le_refl _) ?_; intro w2 HG2 hb3; rw [HSP.out] at HG2)
      | (refine by64.wpLoad (by rfl) (.tmp 3) (by rfl) (by rfl) HG2.out HKL.out ?_)
      | (refine by64.wpStore (by rfl) (.tmp 2) (.tmp 14) (by rfl) (by rfl) (hR.below hb3 (by omega)) HR64.out ((key64 l).map bv) (by rfl) HKL.out HK1.out ?_))
    exact bodyPost_ret (by64.result rfl _ ((hR.below hb3 (by omega)).row _) (by rw [List.toList_toArray]; exact HKL.out) rfl) rfl ⟨by rw [List.toList_toArray], below_row (hb.trans (hb3.mono (by omega))) (Nat.le_refl _) _⟩
  · have hgt : ¬ (64 : Int) < (n : Int) := by omega
    have HO1 := Lib.hid (bv_one l)
    have HO2 : Hid ((l.map bv).length = n) := by show _ = _; rw [List.length_map]; exact hn.out
    have HSP : Hid (splice (List.replicate 64 zb) 0 (l.map bv) = (key64 l).map bv) := by
      show _ = _
      rw [splice_key l n hn.out (by omega), key64, keyN, if_neg (by rw [hn.out]; exact hbig), hn.out]
    have hn64 : n ≤ 64 := by omega
    have hLW := hL.below hb (Nat.le_refl _)
    have hq1 : 0 < (l.map bv).length → ∃ ad, A = some ad ∧ ∀ j v, (l.map bv)[j]? = some v → W0.cell? (ad.add j) = some v := fun hp => by
      obtain ⟨b, o, rfl, -, hc⟩ := hLW.at_ (by simpa using hp)
      refine ⟨_, rfl, fun j v hv => ?_⟩
      have he : ({ block := b, off := o, spot := none } : Addr).add j = ⟨b, o + j, none⟩ := by unfold Addr.add; split <;> simp_all
      obtain ⟨hj, rfl⟩ := List.getElem?_eq_some_iff.1 hv
      rw [he, hc j (by simpa using hj), List.getElem_map]
      rfl
    go_enter Tryd.func20, Tryd.ntmps20
    go_wp2_with (first
      | (refine wpList_copy_splice (by rfl) (.tmp 11) (.tmp 12) _ _ (by rfl) 5 Tryd.underlying22 (by kernel_rfl) _ A 64 64 n c (by rfl) (by rfl) (w.heap.size + 1) 0 (List.replicate 64 zb) 41 (by rw [← hW]; exact hV) (l.map bv) (by rw [HO2.out]; show n = min n 64; omega) (fun hp => ⟨rfl, by rw [← hW]; exact hq1 hp⟩) (by rw [HO2.out, HR64.out]; omega) HO1.out (w.heap.size + 1) W0 (by rw [← hW]; exact Below.refl _ _) (Nat.le_refl _) ?_; intro w2 HG2 hb3; rw [HSP.out] at HG2)
      | (refine by64.wpLoad (by rfl) (.tmp 3) (by rfl) (by rfl) HG2.out HKL.out ?_)
      | (refine by64.wpStore (by rfl) (.tmp 2) (.tmp 14) (by rfl) (by rfl) (hR.below hb3 (by omega)) HR64.out ((key64 l).map bv) (by rfl) HKL.out HK1.out ?_))
    exact bodyPost_ret (by64.result rfl _ ((hR.below hb3 (by omega)).row _) (by rw [List.toList_toArray]; exact HKL.out) rfl) rfl ⟨by rw [List.toList_toArray], below_row (hb.trans (hb3.mono (by omega))) (Nat.le_refl _) _⟩

set_option maxHeartbeats 1600000 in
/-- The function that makes a pad of a block. -/
theorem pad_fn_any (x : UInt8) (g : Nat) (l : List UInt8) (w : World) (hl : Hid (l.length = 64)) (hg : Bk w g 41 (l.map bv)) :
    Calls Tryd.prog 21 #[.int .u8 (x.toNat : Int), .pointer (some ⟨g, 0, none⟩)] w (RetB (l.map fun y => y ^^^ x) w) := by
  have HL : Hid ((l.map bv).length = 64) := by show _ = _; rw [List.length_map]; exact hl.out
  have HO1 := Lib.hid (bv_one l)
  go_enter Tryd.func21, Tryd.ntmps21
  go_wp2_with (first
      | (refine by64.wpLoad (by rfl) (.tmp 1) (by rfl) (by rfl) hg HL.out ?_)
      | (refine by64.wpLoad (by rfl) (.tmp 1) (by rfl) (by rfl) (hg.alloc _) HL.out ?_)
      | (refine by64.wpStore (by rfl) (.tmp 4) (.tmp 6) (by rfl) (by rfl) (Bk.new w _ _) (by rfl) (l.map bv) (by rfl) HL.out HO1.out ?_))
  go_loopw [7] (fun i wr => ∃ j : Nat, j ≤ 64 ∧ i = .int .i64 j ∧ Bk wr w.heap.size 41 ((padJ x l j).map bv) ∧ Below w.heap.size w wr) (fun i _ => 64 - (intOf i).toNat)
  case atStart => exact ⟨0, Nat.zero_le _, rfl, by rw [padJ_zero]; have := (Bk.new w #[.int .u8 0, .int .u8 0, .int .u8 0, .int .u8 0, .int .u8 0, .int .u8 0, .int .u8 0, .int .u8 0, .int .u8 0, .int .u8 0, .int .u8 0, .int .u8 0, .int .u8 0, .int .u8 0, .int .u8 0, .int .u8 0, .int .u8 0, .int .u8 0, .int .u8 0, .int .u8 0, .int .u8 0, .int .u8 0, .int .u8 0, .int .u8 0, .int .u8 0, .int .u8 0, .int .u8 0, .int .u8 0, .int .u8 0, .int .u8 0, .int .u8 0, .int .u8 0, .int .u8 0, .int .u8 0, .int .u8 0, .int .u8 0, .int .u8 0, .int .u8 0, .int .u8 0, .int .u8 0, .int .u8 0, .int .u8 0, .int .u8 0, .int .u8 0, .int .u8 0, .int .u8 0, .int .u8 0, .int .u8 0, .int .u8 0, .int .u8 0, .int .u8 0, .int .u8 0, .int .u8 0, .int .u8 0, .int .u8 0, .int .u8 0, .int .u8 0, .int .u8 0, .int .u8 0, .int .u8 0, .int .u8 0, .int .u8 0, .int .u8 0, .int .u8 0] 41).row (l.map bv).toArray; rwa [List.toList_toArray] at this, below_row ((Below.refl _ _).alloc (Nat.le_refl _) _) (Nat.le_refl _) _⟩
  case round =>
    obtain ⟨j, hj, rfl, hB, hb⟩ := hrel
    by_cases hlt : j < 64
    · have hjl : j < l.length := by rw [hl.out]; exact hlt
      have hc := (hB.cell j).trans (show ((padJ x l j).map bv)[j]? = some (bv l[j]) by rw [List.getElem?_map, padJ_at x l j hjl]; rfl)
      have hf := hB.frozen j
      have HX : Hid (bits .xor .u8 (l[j].toNat : Int) (x.toNat : Int) = (((l[j] ^^^ x).toNat : Nat) : Int)) := by show _ = _; exact u8_xorB _ _
      have HS : Hid (((padJ x l j).map bv).set j (.int .u8 ((l[j] ^^^ x).toNat : Int)) = (padJ x l (j + 1)).map bv) := by
        show _ = _
        rw [← padJ_step x l j hjl, List.map_set]
        rfl
      unfold bv at hc
      obtain ⟨y, hy⟩ : ∃ y, l[j] = y := ⟨_, rfl⟩
      rw [hy] at hc HX HS
      clear hy hjl
      have j0 : (0 : Int) ≤ (j : Int) := by omega
      have j1 : (j : Int) < 64 := by omega
      have hB2 := hB.set_ j (.int .u8 ((y ^^^ x).toNat : Int))
      rw [HS.out] at hB2
      have hb2 := hb.setCell (p := ⟨w.heap.size, j, none⟩) (Nat.le_refl _) (.int .u8 ((y ^^^ x).toNat : Int))
      rw [← HX.out] at hB2 hb2
      clear hB hb
      go_wp2_with fail
      go_roundw
      case rel => exact ⟨j + 1, by omega, by go_num, hB2, hb2⟩
      case measure => simp [intOf]; omega
    · obtain rfl : j = 64 := by omega
      rw [padJ_all x l 64 (by rw [hl.out]; omega)] at hB
      have HP : Hid ((l.map fun y => y ^^^ x).length = 64) := by show _ = _; rw [List.length_map]; exact hl.out
      have hv := hB.part 0 64
      rw [List.drop_zero, List.take_of_length_le (by rw [List.length_map, HP.out]; omega)] at hv
      clear hB
      obtain ⟨L, hL⟩ : ∃ L, (l.map fun y => y ^^^ x) = L := ⟨_, rfl⟩
      rw [hL] at hv HP
      have HLL := Lib.hid hL
      clear hL
      rw [show ((64 : Nat) : Int) = 64 from rfl]
      go_wp2_with fail
      go_ret
      exact ⟨_, _, _, rfl, by rw [HLL.out]; exact HP, Nat.le_refl _, by unfold maxLen; omega, by rw [HLL.out]; exact hv, hb⟩

set_option maxHeartbeats 1600000 in
/-- hmac.pads. -/
theorem pads_any (A : Option Addr) (n c : Nat) (l : List UInt8) (w : World) (hn : Hid (l.length = n)) (hnc : n ≤ c) (hc : c ≤ 9223372036854775807) (hL : Bs w w.heap.size A l) (hK : Kons w) (hs : n ≤ 1099511627000) :
    Calls Tryd.prog 13 #[.slice A n c] w fun e w' => ∃ g, e = .returned (.func (.func 21) #[] #[.pointer (some ⟨g, 0, none⟩)]) ∧ w.heap.size ≤ g ∧ Bk w' g 41 ((key64 l).map bv) ∧ Below w.heap.size w w' := by
  have hmf : ∀ (fn : Fn) (first cap : Array Value) (w : World), (Instr.makeFunc fn first cap).run Tryd.prog w = .ok (.func fn first cap) w := fun _ _ _ _ => rfl
  have HKL : Hid (((key64 l).map bv).length = 64) := by show _ = _; rw [List.length_map]; exact key64_length l
  have HK1 := Lib.hid (bv_one (key64 l))
  go_enter Tryd.func13, Tryd.ntmps13
  go_wp2_with fail
  refine (filled_any A n c l w hn hnc hc hL hK hs).mono ?_
  rintro e w1 ⟨rfl, hb⟩
  go_wp2_with (refine by64.wpStore (by rfl) (.tmp 3) (.tmp 5) (by rfl) (by rfl) (Bk.new w1 _ _) (by rfl) ((key64 l).map bv) (by rfl) HKL.out HK1.out ?_)
  go_ret
  exact ⟨_, rfl, hb.size, by have := (Bk.new w1 #[.int .u8 0, .int .u8 0, .int .u8 0, .int .u8 0, .int .u8 0, .int .u8 0, .int .u8 0, .int .u8 0, .int .u8 0, .int .u8 0, .int .u8 0, .int .u8 0, .int .u8 0, .int .u8 0, .int .u8 0, .int .u8 0, .int .u8 0, .int .u8 0, .int .u8 0, .int .u8 0, .int .u8 0, .int .u8 0, .int .u8 0, .int .u8 0, .int .u8 0, .int .u8 0, .int .u8 0, .int .u8 0, .int .u8 0, .int .u8 0, .int .u8 0, .int .u8 0, .int .u8 0, .int .u8 0, .int .u8 0, .int .u8 0, .int .u8 0, .int .u8 0, .int .u8 0, .int .u8 0, .int .u8 0, .int .u8 0, .int .u8 0, .int .u8 0, .int .u8 0, .int .u8 0, .int .u8 0, .int .u8 0, .int .u8 0, .int .u8 0, .int .u8 0, .int .u8 0, .int .u8 0, .int .u8 0, .int .u8 0, .int .u8 0, .int .u8 0, .int .u8 0, .int .u8 0, .int .u8 0, .int .u8 0, .int .u8 0, .int .u8 0, .int .u8 0] 41).row ((key64 l).map bv).toArray; rwa [List.toList_toArray] at this, below_row (hb.alloc hb.size _) hb.size _⟩
end Go.Proofs.YtfcffafmcihamaaDoor
