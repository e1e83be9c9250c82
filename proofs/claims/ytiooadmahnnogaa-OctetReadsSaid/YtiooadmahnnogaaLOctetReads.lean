import Derived.Test.YtiooadmahnnogaaAwake01
import Derived.Test.YtiooadmahnnogaaCur3
import Derived.Test.YtiooadmahnnogaaLOctetTexts
namespace Go.Proofs.Ytiooadmahnnogaa
open Go.RowKit
set_option linter.unusedVariables false

/-- The cursor, as the law sees it: at place a, or behind an error. -/
def CurB (w : World) (g : Nat) (l : List UInt8) (a : Nat) (b : Bool) : Prop := (b = false ∧ Cur w g l a 0) ∨ (b = true ∧ ∃ k, Cur w g l k 1)

theorem takeF_bad (l : List UInt8) (k : Nat) (n : Int) : takeF l k 1 n = ([], k, 1) := by simp [takeF]
theorem takeF_none (l : List UInt8) (k e : Nat) : takeF l k e 0 = ([], k, e) := by simp [takeF]

set_option maxHeartbeats 800000 in
set_option maxRecDepth 100000 in
theorem octetReads_go (A : Option Addr) (m c : Nat) (l : List UInt8) (A1 : Option Addr) (r c1 : Nat) (rs : List Int) (w : World) (hm : Hid (l.length = m)) (hmc : m ≤ c) (hcm : c ≤ 9223372036854775807) (h : Bs w w.heap.size A l)
    (hr : Hid (rs.length = r)) (h1 : Vs w w.heap.size A1 (rs.map (Value.int .i8))) (hrs : Hid (∀ x ∈ rs, -128 ≤ x ∧ x ≤ 127)) :
    Calls Try.prog 4 #[.slice A m c, .slice A1 r c1] w fun e w' => e = .returned (.bool true) ∧ Below w.heap.size w w' := by
  by_cases hbig : 500 < m ∨ 60 < r
  · have hbb : (500 : Int) < (m : Int) ∨ (¬ (500 : Int) < (m : Int) ∧ (60 : Int) < (r : Int)) := by omega
    clear hbig
    rcases hbb with hb | ⟨hb, hb'⟩
    all_goals
      go_enter Try.func4, Try.ntmps4
      go_wp2_with fail
      refine (awake_any _).mono ?_
      rintro e w1 ⟨rfl, hb⟩
      go_wp2_with fail
      go_ret
      exact ⟨rfl, hb⟩
  have hm' : ¬ (500 : Int) < (m : Int) := by omega
  have hr' : ¬ (60 : Int) < (r : Int) := by omega
  clear hbig
  go_enter Try.func4, Try.ntmps4
  go_wp2_with fail
  refine (newCursor_any A m c l _ _ hm h (Nat.le_refl _) (by omega)).mono ?_
  rintro e w1 ⟨g, rfl, hg, hcur, hb⟩
  go_wp2_with fail
  go_loopw [6, 7, 8] (fun at_ bd i wr => ∃ (j a : Nat) (b : Bool), j ≤ r ∧ i = .int .i64 j ∧ a ≤ m ∧ at_ = .int .i64 a ∧ bd = .bool b ∧ CurB wr g l a b ∧ Below w.heap.size w wr) (fun _ _ i _ => r - (intOf i).toNat)
  case atStart => exact ⟨0, 0, false, Nat.zero_le _, rfl, Nat.zero_le _, rfl, rfl, .inl ⟨rfl, hcur⟩, hb⟩
  case round =>
    clear hcur hb
    obtain ⟨j, a, b, hj, rfl, ha, rfl, rfl, hcur, hb⟩ := hrel
    by_cases hlt : j < r
    · obtain ⟨rb, ro, rfl, hrb, hrc⟩ := h1.at_ (by rw [List.length_map, hr.out]; omega)
      have hjl : j < rs.length := by rw [hr.out]; exact hlt
      have hc0 := hrc j (by simpa using hjl)
      rw [List.getElem_map] at hc0
      have hbnd := hrs.out _ (List.getElem_mem hjl)
      obtain ⟨x, hx⟩ : ∃ x, rs[j] = x := ⟨_, rfl⟩
      rw [hx] at hc0 hbnd
      have hc1 := (hb.cell (p := ⟨rb, ro + j, none⟩) hrb).trans hc0
      clear hx hc0 hrc
      by_cases hx9 : x < -9
      · go_wp2_with fail
        go_roundw
        case rel => exact ⟨j + 1, a, b, by omega, by go_num, ha, rfl, rfl, hcur, hb⟩
        case measure => simp [intOf]; omega
      by_cases hx0 : 0 < x
      · rcases hw : isW x with _ | _
        · have HW := Lib.hid hw
          have HS : Hid (sizeI x = 0) := by show _ = _; simp [sizeI, hw]
          clear hw
          have hcc : ∃ k e, Cur wr g l k e ∧ (∀ w', Cur w' g l k e → CurB w' g l a b) := by
            rcases hcur with ⟨rfl, hc⟩ | ⟨rfl, k, hc⟩
            · exact ⟨a, 0, hc, fun w' h => .inl ⟨rfl, h⟩⟩
            · exact ⟨k, 1, hc, fun w' h => .inr ⟨rfl, k, h⟩⟩
          obtain ⟨k, e, hcu, hback⟩ := hcc
          go_wp2_with fail
          refine (width_any _ _).mono ?_
          rintro e w' ⟨rfl, rfl⟩
          rw [HW.out]
          go_wp2_with fail
          refine (cnumber_any x hcu).mono ?_
          rw [HS.out, takeF_none]
          rintro e w2 ⟨rfl, hcur2, hg2, hs2⟩
          have hb2 := hb.grown hg2 hb.size (fun q hq => by simp at hq; omega)
          go_wp2_with fail
          go_roundw
          case rel => exact ⟨j + 1, a, b, by omega, by go_num, ha, rfl, rfl, hback _ hcur2, hb2⟩
          case measure => simp [intOf]; omega
        · obtain ⟨kn, rfl, hk8, hk1, hs⟩ := isW_parts hw
          have HW := Lib.hid hw
          have HS := Lib.hid hs
          clear hw hs
          rcases hcur with ⟨rfl, hcu⟩ | ⟨rfl, k, hcu⟩
          · by_cases hsh : m - a < kn
            · have HT := Lib.hid (takeF_short l a kn (by rw [hm.out]; exact hsh))
              have hsi : decide ((m : Int) - (a : Int) < (kn : Int)) = true := by rw [decide_eq_true_iff]; omega
              clear hsh
              go_wp2_with fail
              refine (width_any _ _).mono ?_
              rintro e w' ⟨rfl, rfl⟩
              rw [HW.out]
              go_wp2_with fail
              refine (cnumber_any kn hcu).mono ?_
              rw [HS.out, HT.out]
              rintro e w2 ⟨rfl, hcur2, hg2, hs2⟩
              have hb2 := hb.grown hg2 hb.size (fun q hq => by simp at hq; omega)
              go_wp2_with fail
              refine (number_any none 0 0 [] 0 _ rfl (Bs.nil _ _ _) (by omega)).mono ?_
              rintro e w' ⟨rfl, rfl⟩
              go_wp2_with fail
              refine (err_any hcur2).mono ?_
              rintro e w' ⟨rfl, rfl⟩
              go_wp2_with fail
              go_roundw
              case rel => exact ⟨j + 1, a, true, by omega, by go_num, ha, rfl, rfl, .inr ⟨rfl, _, hcur2⟩, hb2⟩
              case measure => simp [intOf]; omega
            · have HT := Lib.hid (takeF_ok l a kn (by rw [hm.out]; omega))
              have hsi : decide ((m : Int) - (a : Int) < (kn : Int)) = false := by rw [decide_eq_false_iff_not]; omega
              obtain ⟨ab, ao, rfl, -, -⟩ := h.at_ (by rw [hm.out]; omega)
              have hdt := (h.drop a rfl).take kn
              have HL : Hid (((l.drop a).take kn).length = kn) := by show _ = _; have := hm.out; simp; omega
              have HLe : Hid (l.length - (a + kn) = m - (a + kn)) := by show _ = _; rw [hm.out]
              have hac : a < c := by omega
              have hkm : a + kn ≤ m := by omega
              clear hsh
              go_wp2_with fail
              refine (width_any _ _).mono ?_
              rintro e w' ⟨rfl, rfl⟩
              rw [HW.out]
              go_wp2_with fail
              refine (cnumber_any kn hcu).mono ?_
              rw [HS.out, HT.out]
              rintro e w2 ⟨rfl, hcur2, hg2, hs2⟩
              have hb2 := hb.grown hg2 hb.size (fun q hq => by simp at hq; omega)
              go_wp2_with fail
              refine (number_any _ kn (c - a) _ _ _ HL.out (hdt.below hb2 (Nat.le_refl _)) hk8).mono ?_
              rintro e w' ⟨rfl, rfl⟩
              go_wp2_with fail
              refine (err_any hcur2).mono ?_
              rintro e w' ⟨rfl, rfl⟩
              go_wp2_with fail
              refine (left_any hcur2).mono ?_
              rw [HLe.out]
              rintro e w' ⟨rfl, nq, rfl⟩
              have hb2 := below_drewN hb2 nq
              have hcur2 := hcur2.drewN nq
              have hle : ((m - (a + kn) : Nat) : Int) = (m : Int) - ((a : Int) + (kn : Int)) := by omega
              have HLE := Lib.hid hle
              clear hle
              rw [HLE.out]
              go_wp2_with fail
              go_roundw
              case rel => exact ⟨j + 1, a + kn, false, by omega, by go_num, by omega, by go_num, rfl, .inl ⟨rfl, hcur2⟩, hb2⟩
              case measure => simp [intOf]; omega
          · have HT := Lib.hid (takeF_bad l k kn)
            go_wp2_with fail
            refine (width_any _ _).mono ?_
            rintro e w' ⟨rfl, rfl⟩
            rw [HW.out]
            go_wp2_with fail
            refine (cnumber_any kn hcu).mono ?_
            rw [HS.out, HT.out]
            rintro e w2 ⟨rfl, hcur2, hg2, hs2⟩
            have hb2 := hb.grown hg2 hb.size (fun q hq => by simp at hq; omega)
            go_wp2_with fail
            refine (number_any none 0 0 [] 0 _ rfl (Bs.nil _ _ _) (by omega)).mono ?_
            rintro e w' ⟨rfl, rfl⟩
            go_wp2_with fail
            refine (err_any hcur2).mono ?_
            rintro e w' ⟨rfl, rfl⟩
            go_wp2_with fail
            go_roundw
            case rel => exact ⟨j + 1, a, true, by omega, by go_num, ha, rfl, rfl, .inr ⟨rfl, _, hcur2⟩, hb2⟩
            case measure => simp [intOf]; omega
      · by_cases hz : x = 0
        · subst hz
          rcases hcur with ⟨rfl, hcu⟩ | ⟨rfl, k, hcu⟩
          · have HT := Lib.hid (takeF_none l a 0)
            have HLe : Hid (l.length - a = m - a) := by show _ = _; rw [hm.out]
            have hsi : decide ((m : Int) - (a : Int) < 0) = false := by rw [decide_eq_false_iff_not]; omega
            have hle : ((m - a : Nat) : Int) = (m : Int) - (a : Int) := by omega
            have HLE := Lib.hid hle
            clear hle
            have hca : a < c ∨ a = c := by omega
            rcases hca with hca | rfl
            all_goals
              go_wp2_with fail
              refine (cbytes_any 0 hcu (by omega) (by rw [hm.out]; omega)).mono ?_
              rw [HT.out]
              rintro e w2 ⟨Ab, mb, cb, rfl, hmb, hbsb, hcur2, hg2⟩
              have hb2 := hb.grown hg2 hb.size (fun q hq => by simp at hq; omega)
              go_wp2_with fail
              refine (same_any Ab _ mb 0 cb (_) _ [] _ _ hmb.out (rfl : ([] : List UInt8).length = 0) hbsb (Bs.nil _ _ _) (Nat.zero_le _) (Nat.zero_le _)).mono ?_
              rintro e w' ⟨rfl, nq, rfl⟩
              rw [decide_eq_true rfl]
              have hb2 := below_drewN hb2 nq
              have hcur2 := hcur2.drewN nq
              go_wp2_with fail
              refine (err_any hcur2).mono ?_
              rintro e w' ⟨rfl, rfl⟩
              go_wp2_with fail
              refine (left_any hcur2).mono ?_
              rw [HLe.out]
              rintro e w' ⟨rfl, nq2, rfl⟩
              have hb2 := below_drewN hb2 nq2
              rw [World.drewN_drewN] at hb2
              have hcur2 := hcur2.drewN nq2
              rw [HLE.out]
              go_wp2_with fail
              go_roundw
              case rel => exact ⟨j + 1, a, false, by omega, by go_num, ha, rfl, rfl, .inl ⟨rfl, hcur2⟩, hb2⟩
              case measure => simp [intOf]; omega
          · have HT := Lib.hid (takeF_none l k 1)
            go_wp2_with fail
            refine (cbytes_any 0 hcu (by omega) (by rw [hm.out]; omega)).mono ?_
            rw [HT.out]
            rintro e w2 ⟨Ab, mb, cb, rfl, hmb, hbsb, hcur2, hg2⟩
            have hb2 := hb.grown hg2 hb.size (fun q hq => by simp at hq; omega)
            go_wp2_with fail
            refine (same_any Ab none mb 0 cb (0) _ [] _ _ hmb.out (rfl : ([] : List UInt8).length = 0) hbsb (Bs.nil _ _ _) (Nat.zero_le _) (Nat.zero_le _)).mono ?_
            rintro e w' ⟨rfl, nq, rfl⟩
            rw [decide_eq_true rfl]
            have hb2 := below_drewN hb2 nq
            have hcur2 := hcur2.drewN nq
            go_wp2_with fail
            refine (err_any hcur2).mono ?_
            rintro e w' ⟨rfl, rfl⟩
            go_wp2_with fail
            go_roundw
            case rel => exact ⟨j + 1, a, true, by omega, by go_num, ha, rfl, rfl, .inr ⟨rfl, _, hcur2⟩, hb2⟩
            case measure => simp [intOf]; omega
        obtain ⟨nd, rfl⟩ : ∃ nd : Nat, x = -(nd : Int) := ⟨(-x).toNat, by omega⟩
        have hnd : nd ≤ 9 := by omega
        have hnp : 0 < nd := by omega
        clear hz
        rcases hcur with ⟨rfl, hcu⟩ | ⟨rfl, k, hcu⟩
        · by_cases hsh : m - a < nd
          · have HT := Lib.hid (takeF_short l a nd (by rw [hm.out]; exact hsh))
            have hsi : decide ((m : Int) - (a : Int) < (nd : Int)) = true := by rw [decide_eq_true_iff]; omega
            clear hsh
            go_wp2_with fail
            refine (cbytes_any nd hcu (by omega) (by rw [hm.out]; omega)).mono ?_
            rw [HT.out]
            rintro e w2 ⟨Ab, mb, cb, rfl, hmb, hbsb, hcur2, hg2⟩
            have hb2 := hb.grown hg2 hb.size (fun q hq => by simp at hq; omega)
            go_wp2_with fail
            refine (same_any Ab none mb 0 cb (0) _ [] _ _ hmb.out (rfl : ([] : List UInt8).length = 0) hbsb (Bs.nil _ _ _) (Nat.zero_le _) (Nat.zero_le _)).mono ?_
            rintro e w' ⟨rfl, nq, rfl⟩
            rw [decide_eq_true rfl]
            have hb2 := below_drewN hb2 nq
            have hcur2 := hcur2.drewN nq
            go_wp2_with fail
            refine (err_any hcur2).mono ?_
            rintro e w' ⟨rfl, rfl⟩
            go_wp2_with fail
            go_roundw
            case rel => exact ⟨j + 1, a, true, by omega, by go_num, ha, rfl, rfl, .inr ⟨rfl, _, hcur2⟩, hb2⟩
            case measure => simp [intOf]; omega
          · have HT := Lib.hid (takeF_ok l a nd (by rw [hm.out]; omega))
            have hsi : decide ((m : Int) - (a : Int) < (nd : Int)) = false := by rw [decide_eq_false_iff_not]; omega
            have HL : Hid (((l.drop a).take nd).length = nd) := by show _ = _; have := hm.out; simp; omega
            have HLe : Hid (l.length - (a + nd) = m - (a + nd)) := by show _ = _; rw [hm.out]
            have hkm : a + nd ≤ m := by omega
            clear hsh
            obtain ⟨ab, ao, rfl, -, -⟩ := h.at_ (by rw [hm.out]; omega)
            have hdt := (h.drop a rfl).take nd
            have hac : a < c := by omega
            go_wp2_with fail
            refine (cbytes_any nd hcu (by omega) (by rw [hm.out]; omega)).mono ?_
            rw [HT.out]
            rintro e w2 ⟨Ab, mb, cb, rfl, hmb, hbsb, hcur2, hg2⟩
            have hb2 := hb.grown hg2 hb.size (fun q hq => by simp at hq; omega)
            go_wp2_with fail
            refine (same_any Ab _ mb nd cb (c - a) _ _ _ _ hmb.out HL.out hbsb ((hdt.below hb2 (Nat.le_refl _)).more hb2.size) (by rw [HL.out]; unfold maxLen; omega) (by rw [HL.out]; unfold maxLen; omega)).mono ?_
            rintro e w' ⟨rfl, nq, rfl⟩
            rw [decide_eq_true rfl]
            have hb2 := below_drewN hb2 nq
            have hcur2 := hcur2.drewN nq
            go_wp2_with fail
            refine (err_any hcur2).mono ?_
            rintro e w' ⟨rfl, rfl⟩
            go_wp2_with fail
            refine (left_any hcur2).mono ?_
            rw [HLe.out]
            rintro e w' ⟨rfl, nq2, rfl⟩
            have hb2 := below_drewN hb2 nq2
            rw [World.drewN_drewN] at hb2
            have hcur2 := hcur2.drewN nq2
            have hle : ((m - (a + nd) : Nat) : Int) = (m : Int) - ((a : Int) + (nd : Int)) := by omega
            have HLE := Lib.hid hle
            clear hle
            rw [HLE.out]
            go_wp2_with fail
            go_roundw
            case rel => exact ⟨j + 1, a + nd, false, by omega, by go_num, by omega, by go_num, rfl, .inl ⟨rfl, hcur2⟩, hb2⟩
            case measure => simp [intOf]; omega
        · have HT := Lib.hid (takeF_bad l k nd)
          go_wp2_with fail
          refine (cbytes_any nd hcu (by omega) (by rw [hm.out]; omega)).mono ?_
          rw [HT.out]
          rintro e w2 ⟨Ab, mb, cb, rfl, hmb, hbsb, hcur2, hg2⟩
          have hb2 := hb.grown hg2 hb.size (fun q hq => by simp at hq; omega)
          go_wp2_with fail
          refine (same_any Ab none mb 0 cb (0) _ [] _ _ hmb.out (rfl : ([] : List UInt8).length = 0) hbsb (Bs.nil _ _ _) (Nat.zero_le _) (Nat.zero_le _)).mono ?_
          rintro e w' ⟨rfl, nq, rfl⟩
          rw [decide_eq_true rfl]
          have hb2 := below_drewN hb2 nq
          have hcur2 := hcur2.drewN nq
          go_wp2_with fail
          refine (err_any hcur2).mono ?_
          rintro e w' ⟨rfl, rfl⟩
          go_wp2_with fail
          go_roundw
          case rel => exact ⟨j + 1, a, true, by omega, by go_num, ha, rfl, rfl, .inr ⟨rfl, _, hcur2⟩, hb2⟩
          case measure => simp [intOf]; omega
    · obtain rfl : j = r := by omega
      rcases hcur with ⟨rfl, hcu⟩ | ⟨rfl, k, hcu⟩
      · by_cases ham : a < m
        · have HD : Hid (doneE l a 0 = 2) := by show _ = _; simp [doneE, hm.out, ham]
          go_wp2_with fail
          refine (done_any hcu).mono ?_
          rw [HD.out]
          rintro e w' ⟨rfl, nq, rfl⟩
          go_wp2_with fail
          refine (awake_any _).mono ?_
          rintro e w3 ⟨rfl, hb3⟩
          go_wp2_with fail
          go_ret
          have hbq := below_drewN hb nq
          exact ⟨rfl, hbq.trans (hb3.mono hbq.size)⟩
        · have HD : Hid (doneE l a 0 = 0) := by show _ = _; simp [doneE, hm.out, ham]
          go_wp2_with fail
          refine (done_any hcu).mono ?_
          rw [HD.out]
          rintro e w' ⟨rfl, nq, rfl⟩
          go_wp2_with fail
          refine (awake_any _).mono ?_
          rintro e w3 ⟨rfl, hb3⟩
          go_wp2_with fail
          go_ret
          have hbq := below_drewN hb nq
          exact ⟨rfl, hbq.trans (hb3.mono hbq.size)⟩
      · have HD : Hid (doneE l k 1 = 1) := by show _ = _; simp [doneE]
        by_cases ham : a < m
        all_goals
          go_wp2_with fail
          refine (done_any hcu).mono ?_
          rw [HD.out]
          rintro e w' ⟨rfl, nq, rfl⟩
          go_wp2_with fail
          refine (awake_any _).mono ?_
          rintro e w3 ⟨rfl, hb3⟩
          go_wp2_with fail
          go_ret
          have hbq := below_drewN hb nq
          exact ⟨rfl, hbq.trans (hb3.mono hbq.size)⟩
end Go.Proofs.Ytiooadmahnnogaa
