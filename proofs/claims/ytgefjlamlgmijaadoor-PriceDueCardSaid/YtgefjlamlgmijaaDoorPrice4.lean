/-
  The reference's Due.
-/
import Derived.Test.YtgefjlamlgmijaaDoorPrice3
namespace Go.Proofs.YtgefjlamlgmijaaDoor
open Go.RowKit
set_option linter.unusedVariables false

theorem sum_end (v a : Nat) (h : v + 2 ^ a < 18446744073709551616) : IntKind.u64.wrap ((v : Int) + IntKind.u64.wrap (2 ^ a)) = ((v + 2 ^ a : Nat) : Int) := by
  rw [show (2 : Int) ^ a = ((2 ^ a : Nat) : Int) by norm_cast]
  generalize 2 ^ a = J at *
  rw [IntKind.wrap_u64, IntKind.wrap_u64]
  omega
set_option maxHeartbeats 800000 in
/-- ref.Due -/
theorem rdue_any (n b : Nat) (w : World) (hn : n < 18446744073709551616) (hb : b < 18446744073709551616) : Calls Tryd.prog 8 #[.int .u64 (n : Int), .int .u64 (b : Int)] w fun e w' => e = .returned (.tuple #[.int .u64 (dueOf n b : Int), .bool (partsI b)]) ∧ Below w.heap.size w w' := by
  have HP := Lib.hid (rparts_any b w hb)
  cases hI : partsI b with
  | false =>
    have HD : Hid (dueOf n b = 0) := by show _ = _; unfold dueOf; rw [hI]; rfl
    rw [hI] at HP
    clear hI
    go_enter Tryd.func8, Tryd.ntmps8
    go_wp2_with fail
    refine (HP.out).mono ?_
    rintro e' w1 ⟨rfl, rfl⟩
    go_wp2_with fail
    go_ret2
    exact ⟨by rw [HD.out]; rfl, Below.refl _ _⟩
  | true =>
    have HD : Hid (dueOf n b = dueN (n * partsM b) (partsE b)) := by show _ = _; unfold dueOf; rw [hI]; rfl
    rw [hI] at HP
    have hm := partsM_lt b
    obtain ⟨he1, he2⟩ := partsE_in b
    obtain ⟨M, hM⟩ : ∃ M, partsM b = M := ⟨_, rfl⟩
    obtain ⟨E, hE⟩ : ∃ E, partsE b = E := ⟨_, rfl⟩
    rw [hM] at HP HD hm
    rw [hE] at HP HD he1 he2
    clear hI hM hE
    go_enter Tryd.func8, Tryd.ntmps8
    go_wp2_with fail
    refine (HP.out).mono ?_
    rintro e' w1 ⟨rfl, rfl⟩
    go_wp2_with fail
    refine (rbits_any n w hn).mono ?_
    rintro e' w1 ⟨l1, A1, n1, c1, rfl, ⟨hw1, hone1, hlen1⟩, HL1, hc1, -, hv1, hb1⟩
    go_wp2_with fail
    refine (rbits_any M w1 hm).mono ?_
    rintro e' w2 ⟨l2, A2, n2, c2, rfl, ⟨hw2, hone2, hlen2⟩, HL2, hc2, -, hv2, hb2⟩
    have hv1' := (hv1.below hb2 (Nat.le_refl _)).more hb2.size
    have h1l : n1 ≤ 64 := by rw [← HL1.out]; exact hlen1
    have h2l : n2 ≤ 64 := by rw [← HL2.out]; exact hlen2
    go_wp2_with fail
    refine (product_any A1 A2 n1 c1 n2 c2 l1 l2 w2 hv1' hv2 HL1 HL2 h1l h2l hone1 hone2 hc1 hc2).mono ?_
    rintro e' w3 ⟨l, A, N, c, rfl, ⟨hw, hone, hlen, hl129⟩, HL, hc, -, hv, hb3⟩
    have hB : Below w.heap.size w w3 := (hb1.trans (hb2.mono hb1.size)).trans (hb3.mono (Nat.le_trans hb1.size hb2.size))
    have hN : N ≤ 129 := by rw [← HL.out, hlen]; exact hl129
    have HPP : Hid (wt l = n * M) := by show _ = _; rw [hw, hw1, hw2]
    clear hv1 hv1' hv2 hb1 hb2 hb3 hw hw1 hw2 hlen hl129 hone1 hone2 hlen1 hlen2
    have htop : part (n * M) N E = 0 := part_top _ _ _ (by rw [← HPP.out, ← HL.out]; exact wt_lt l hone)
    go_wp2_with fail
    have hpl : Hid (part (n * M) 0 E = scale (n * M) E) := Lib.hid (part_all _ _)
    have hbit : ∀ (i : Nat) (hi : i < l.length), n * M / 2 ^ i % 2 = l[i] := fun i hi => by rw [← HPP.out]; exact wt_bit l hone i hi
    obtain ⟨P, hP⟩ : ∃ P, n * M = P := ⟨_, rfl⟩
    have HPe := Lib.hid hP
    rw [hP] at HD HPP htop hpl hbit
    clear hP
    go_loop [10, 11, 12] (fun x i _ => ∃ s : Nat, s ≤ N ∧ i = .int .i64 ((s : Int) - 1) ∧ x = .int .u64 (part P s E : Int) ∧ part P s E < 18446744073709551616) (fun _ i _ => (intOf i + 1).toNat)
    case atStart => exact ⟨N, Nat.le_refl _, rfl, by rw [htop]; rfl, by rw [htop]; omega⟩
    case round =>
      clear htop
      obtain ⟨s, hs, rfl, rfl, hlt⟩ := hrel
      rcases s with _ | i
      · have HF : Hid (dueOf n b = part P 0 E) := by
          show _ = _
          rw [HD.out]
          exact due_of hpl.out.symm hlt
        obtain ⟨x, hx⟩ : ∃ x, part P 0 E = x := ⟨_, rfl⟩
        rw [hx] at HF hlt ⊢
        rw [show (((0 : Nat) : Int) - 1) = -1 from rfl]
        clear hx hpl
        go_wp2_with fail
        go_ret2
        exact ⟨by rw [HF.out]; rfl, hB⟩
      · rw [show (((i + 1 : Nat) : Int) - 1) = (i : Int) by omega]
        have hil : i < l.length := by rw [HL.out]; omega
        obtain ⟨bl, ol, rfl, -, -⟩ := hv.at_ (by rw [List.length_map]; omega)
        have c1 := vs_at hv i hil
        have hbi := hbit i hil
        have h1 : IntKind.i64.wrap ((i : Int) + E) = (i : Int) + E := IntWalk.i64_in _ (by omega)
        have h2 : (i : Int) < (N : Int) := by omega
        have hx1 := hone _ (List.getElem_mem hil)
        obtain ⟨x, hx⟩ : ∃ x, l[i] = x := ⟨_, rfl⟩
        rw [hx] at c1 hbi hx1
        clear hx
        obtain ⟨v, hv1⟩ : ∃ v, part P (i + 1) E = v := ⟨_, rfl⟩
        rw [hv1] at hlt ⊢
        by_cases hx0 : x = 0
        · subst hx0
          have HS : Hid (part P i E = v) := by show _ = _; rw [part_zero P i E hbi, hv1]
          clear hv1 hbi
          go_wp2_with fail
          go_round
          case rel => exact ⟨i, by omega, by go_num, by rw [HS.out], by rw [HS.out]; exact hlt⟩
          case measure => simp [intOf]
        · obtain rfl : x = 1 := by omega
          rcases Int.lt_or_le ((i : Int) + E) 0 with h3 | h3
          · have HS : Hid (part P i E = v) := by show _ = _; rw [part_below P i E h3, hv1]
            clear hv1 hbi
            go_wp2_with fail
            go_round
            case rel => exact ⟨i, by omega, by go_num, by rw [HS.out], by rw [HS.out]; exact hlt⟩
            case measure => simp [intOf]
          · obtain ⟨a, ha⟩ := Int.eq_ofNat_of_zero_le h3
            by_cases h63 : 63 < a
            · have HF : Hid (dueOf n b = 18446744073709551615) := by show _ = _; rw [HD.out]; exact part_over P i a E ha hbi h63
              clear hv1 hbi
              have h4 : (63 : Int) < (i : Int) + E := by omega
              go_wp2_with fail
              go_ret2
              exact ⟨by rw [HF.out]; rfl, hB⟩
            · rw [← hv1] at hlt
              obtain ⟨p1, p2⟩ := part_one P i a E ha hbi (by omega) hlt
              rw [hv1] at p1 p2 hlt
              have HS := Lib.hid p1
              clear p1 hv1 hbi
              have h4 : (i : Int) + E ≤ 63 := by omega
              go_wp2_with fail
              go_round
              case rel => exact ⟨i, by omega, by go_num, by rw [HS.out]; exact congrArg (Value.int .u64) (sum_end v a p2), by rw [HS.out]; exact p2⟩
              case measure => simp [intOf]
end Go.Proofs.YtgefjlamlgmijaaDoor
