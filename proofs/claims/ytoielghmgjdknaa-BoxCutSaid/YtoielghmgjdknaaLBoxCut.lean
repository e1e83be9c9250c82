/-
  The walk of BoxCut, over what package box is to do.
-/
import Derived.Test.YtoielghmgjdknaaLBox12
namespace Go.Proofs.Ytoielghmgjdknaa
open Go.RowKit
set_option linter.unusedVariables false

theorem putAll_le : ∀ (ls : List (List UInt8)), (∀ l ∈ ls, l.length ≤ 200) → (putAll ls).length ≤ 206 * ls.length
  | [], _ => Nat.le_refl _
  | x :: r, h => by
    have e : (putAll (x :: r)).length = x.length + 6 + (putAll r).length := by
      show (boxL x ++ putAll r).length = _
      rw [List.length_append, boxL_length]
    have h1 := h x (List.mem_cons_self ..)
    have h2 := putAll_le r fun l hl => h l (List.mem_cons_of_mem _ hl)
    rw [e, List.length_cons]
    omega
theorem want_le : ∀ (ls : List (List UInt8)) (n : Nat), (wantL ls n).1.length ≤ ls.length
  | [], _ => Nat.le_refl _
  | x :: r, n => by
    unfold wantL
    split
    · simp only [List.length_cons]
      have := want_le r (n - (x.length + 6))
      omega
    · exact Nat.zero_le _

set_option maxRecDepth 100000 in
set_option maxHeartbeats 6400000 in
theorem boxCut_over (hP : BoxPutLaw) (hV : BoxValidLaw) (hA : Awake12) (A : Option Addr) (m c : Nat) (ls : List (List UInt8)) (p : Int) (w : World) (hm : Hid (ls.length = m)) (hls : Ls w w.heap.size A ls) (hp : (Lit.int .i64 p).wf = true) :
    Calls Try.prog 5 #[.slice A m c, .int .i64 p] w fun e w' => e = .returned (.bool true) ∧ Below w.heap.size w w' := by
  have HAW := Lib.hid hA
  by_cases hbig : 20 < m ∨ p < 0
  · have hbb : 20 < m ∨ (¬ 20 < m ∧ p < 0) := by omega
    clear hbig hls hm hP hV hA
    rcases hbb with h1 | ⟨h1, h2⟩
    all_goals
      go_enter Try.func5, Try.ntmps5
      go_wp2_with fail
      refine (HAW.out _).mono ?_
      rintro e w1 ⟨rfl, hb⟩
      go_wp2_with fail
      go_ret
      exact ⟨rfl, hb⟩
  obtain ⟨n, rfl⟩ : ∃ n : Nat, p = (n : Int) := ⟨p.toNat, by omega⟩
  have q1 : ¬ 20 < m := by omega
  have q2 : ¬ (n : Int) < 0 := by omega
  have hpb := Go.bounds_i64 hp
  have HP := Lib.hid hP
  have HV := Lib.hid hV
  have HM := Lib.hid hm.out
  have HL := Lib.hid hls
  clear hbig hP hV hA hm hls hp
  go_enter Try.func5, Try.ntmps5
  go_wp2_with fail
  go_loopw [5, 6, 7, 8, 9, 10] (fun bvv wv av iv _ _ wr => ∃ (i a : Nat) (Ab : Option Addr) (nb cb : Nat) (vs : List Value), iv = .int .i64 (i : Int) ∧ av = .int .i64 (a : Int) ∧ bvv = .slice Ab nb cb ∧ i ≤ m ∧ nb ≤ 206 * i ∧ nb ≤ cb ∧
    Hid (Bs wr wr.heap.size Ab (putAll (ls.take i)) ∧ (putAll (ls.take i)).length = nb ∧ cb ≤ maxLen ∧ (∀ x ∈ ls.take i, fitL x) ∧ Own wr w.heap.size 22 wv vs ∧ Vl wr w.heap.size vs (wantL (ls.take i) n).1 ∧ (wantL (ls.take i) n).2 = a ∧ Below w.heap.size w wr)) (fun _ _ _ iv _ _ _ => m - (intOf iv).toNat)
  case atStart => exact ⟨0, 0, none, 0, 0, [], rfl, rfl, rfl, Nat.zero_le _, Nat.zero_le _, Nat.le_refl _, Bs.nil _ _ _, rfl, Nat.zero_le _, by simp, Own.nil _ _ _, Vl.nil _ _, rfl, Below.refl _ _⟩
  case round =>
    obtain ⟨i, a, Ab, nb, cb, vs, rfl, rfl, rfl, hi, hnb, hnc, HR⟩ := hrel
    by_cases hlt : i < m
    · obtain ⟨b, o, rfl, hbw, A3, n3, c3, x, hcx, hx, hxl, hxc, hxm, hbx⟩ := (HL.out.below HR.out.2.2.2.2.2.2.2 (Nat.le_refl _)).at_ (k := i) (by rw [HM.out]; exact hlt)
      have HCX : Hid (∀ V : World, Below w.heap.size wr V → V.cell? ⟨b, o + i, none⟩ = some (.slice A3 n3 c3)) := fun V hV => by rw [hV.cell (p := ⟨b, o + i, none⟩) hbw]; exact hcx
      have HX := Lib.hid hx
      have HXL := Lib.hid hxl.out
      have HXB := Lib.hid hbx
      have HXC := Lib.hid (And.intro hxc hxm)
      clear hx hxl hbx hxc hxm hbw
      by_cases hfit : 200 < n3 ∨ n3 = 0
      · have hbb : 200 < n3 ∨ (¬ 200 < n3 ∧ n3 = 0) := by omega
        clear hfit
        rcases hbb with h1 | ⟨h1, h2⟩
        · go_wp2_with fail
          refine (HAW.out _).mono ?_
          rintro e w1 ⟨rfl, hb⟩
          go_wp2_with fail
          go_ret
          exact ⟨rfl, HR.out.2.2.2.2.2.2.2.trans (hb.mono HR.out.2.2.2.2.2.2.2.size)⟩
        · subst h2
          go_wp2_with fail
          refine (HAW.out _).mono ?_
          rintro e w1 ⟨rfl, hb⟩
          go_wp2_with fail
          go_ret
          exact ⟨rfl, HR.out.2.2.2.2.2.2.2.trans (hb.mono HR.out.2.2.2.2.2.2.2.size)⟩
      have h1 : ¬ 200 < n3 := by omega
      have h2 : ((n3 : Int) == 0) = false := by rw [beq_eq_false_iff_ne]; omega
      have hn0 : 0 < n3 := by omega
      have HPU := Lib.hid (HP.out Ab A3 nb n3 cb c3 (putAll (ls.take i)) x wr (Lib.hid HR.out.2.1) (Lib.hid HXL.out) hnc HR.out.2.2.1 HXC.out.1 HXC.out.2 (by omega) (by omega) HR.out.1 (HXB.out.more HR.out.2.2.2.2.2.2.2.size))
      have e1 : putV (putAll (ls.take i)) x = putAll (ls.take (i + 1)) := by
        unfold putV
        rw [if_neg (by rw [HXL.out]; omega), List.take_add_one, HX.out]
        exact (putAll_snoc _ _).symm
      have e2 : putX x = 0 := by unfold putX; rw [if_neg (by rw [HXL.out]; omega), if_neg (by rw [HXL.out]; omega)]
      rw [e1, e2] at HPU
      have HLN : Hid ((putAll (ls.take (i + 1))).length = nb + (n3 + 6)) := by
        show _ = _
        rw [List.take_add_one, HX.out]
        show (putAll (ls.take i ++ [x])).length = _
        rw [putAll_snoc, List.length_append, boxL_length, HR.out.2.1, HXL.out]
      have HWN : Hid (wantL (ls.take (i + 1)) n = if nb + (n3 + 6) ≤ n then ((wantL (ls.take i) n).1 ++ [x], nb + (n3 + 6)) else wantL (ls.take i) n) := by
        show _ = _
        have h := want_snoc (ls.take i) x n
        rw [HR.out.2.1, HXL.out] at h
        rw [List.take_add_one, HX.out]
        exact h
      have HFT : Hid (∀ y ∈ ls.take (i + 1), fitL y) := fun y hy => by
        rw [List.take_add_one, HX.out] at hy
        rcases List.mem_append.1 hy with h | h
        · exact HR.out.2.2.2.1 y h
        · have : y = x := by simpa using h
          rw [this]
          exact ⟨by rw [HXL.out]; exact hn0, by rw [HXL.out]; omega⟩
      clear e1 e2 hfit
      go_wp2_with fail
      refine HPU.out.mono ?_
      rintro e w1 ⟨A4, n4, c4, rfl, hn4, ho4, h41, h42, hbs4, hb4⟩
      have HO4 := Lib.hid ho4
      have HLT : Hid (∀ k, u6.ownBlock = some k → k < wr.heap.size) := fun k hk => (HR.out.2.2.2.2.1.lt k hk).2
      have hn46 : n4 = nb + (n3 + 6) := hn4.out.symm.trans HLN.out
      have HS4 := Lib.hid hbs4
      have HB4 : Hid (Below w.heap.size w w1) := HR.out.2.2.2.2.2.2.2.trans (hb4.mono HR.out.2.2.2.2.2.2.2.size)
      have hown4 := HR.out.2.2.2.2.1.below hb4 (Nat.le_refl _)
      have HVL4 : Hid (Vl w1 w.heap.size vs (wantL (ls.take i) n).1) := HR.out.2.2.2.2.2.1.below hb4 HR.out.2.2.2.2.2.2.2.size
      have hcx1 : w1.cell? ⟨b, o + i, none⟩ = some (.slice A3 n3 c3) := HCX.out w1 (hb4.mono HR.out.2.2.2.2.2.2.2.size)
      have HX1 : Hid (Bl w1 w.heap.size (.slice A3 n3 c3) x) := ⟨A3, n3, c3, rfl, Lib.hid HXL.out, HXC.out.1, HXC.out.2, HXB.out.below (hb4.mono HR.out.2.2.2.2.2.2.2.size) (Nat.le_refl _)⟩
      have HM4 := Lib.hid h42
      have HNA : Hid ((wantL (ls.take i) n).2 = a) := HR.out.2.2.2.2.2.2.1
      have hgt : ¬ n4 ≤ nb := by omega
      have hn4s : n4 ≤ 206 * (i + 1) := by omega
      have HN46 := Lib.hid hn46
      have HVS : Hid (vs.length ≤ 20) := by
        show _ ≤ _
        rw [HR.out.2.2.2.2.2.1.1]
        have h9 := want_le (ls.take i) n
        rw [List.length_take] at h9
        omega
      have hbz := HB4.out.size
      clear hn4 ho4 hbs4 hb4 hcx hn46
      by_cases hin : n4 ≤ n
      · have h63 : vs.length + 1 ≤ maxLen := by have := HVS.out; unfold maxLen; omega
        have hby : (vs.length + 1) * 24 ≤ 140737488355328 := by have := HVS.out; omega
        go_wp2_with (at_builtin; refine wp_app1 w1 rfl (.tmp 65) (.tmp 70) 32 rfl w.heap.size 22 lE u6 vs rfl hown4 (.slice A3 n3 c3) 22 1 rfl rfl h63 hby hbz ?_; intro v2 w2 ho2 hg2)
        have hbb := below_app hown4 hg2 hbz
        have hown4' := hown4
        have HR2 : Hid (Bs w2 w2.heap.size A4 (putAll (ls.take (i + 1))) ∧ (putAll (ls.take (i + 1))).length = n4 ∧ c4 ≤ maxLen ∧ (∀ y ∈ ls.take (i + 1), fitL y) ∧ Own w2 w.heap.size 22 v2 (vs ++ [.slice A3 n3 c3]) ∧ Vl w2 w.heap.size (vs ++ [.slice A3 n3 c3]) (wantL (ls.take (i + 1)) n).1 ∧ (wantL (ls.take (i + 1)) n).2 = n4 ∧ Below w.heap.size w w2) := by
          have e : wantL (ls.take (i + 1)) n = ((wantL (ls.take i) n).1 ++ [x], nb + (n3 + 6)) := by rw [HWN.out, if_pos (by have := HN46.out; omega)]
          have hne : (Value.slice A4 n4 c4).ownBlock = none ∨ (Value.slice A4 n4 c4).ownBlock ≠ u6.ownBlock := by
            cases hu : (Value.slice A4 n4 c4).ownBlock with
            | none => exact .inl rfl
            | some k =>
              refine .inr fun e => ?_
              have h1 := HLT.out k e.symm
              have h2 := (HO4.out.lt k hu).1
              omega
          have hk4 := HO4.out.kept hg2 hne
          obtain ⟨A', n', c', ee, -, -, -, hbs⟩ := hk4.bform
          cases ee
          refine ⟨hbs, HLN.out.trans HN46.out.symm, HM4.out, HFT.out, ho2, by rw [e]; exact (HVL4.out.snoc HX1.out).below hbb (Nat.le_refl _), by rw [e]; exact HN46.out.symm, HB4.out.trans hbb⟩
        clear ho2 hg2 hbb hown4 hown4'
        try go_wp2_with fail
        go_roundw
        case rel => exact ⟨i + 1, n4, A4, n4, c4, vs ++ [.slice A3 n3 c3], by go_num, rfl, rfl, by omega, hn4s, h41, HR2⟩
        case measure => simp [intOf]; omega
      · have HR2 : Hid (Bs w1 w1.heap.size A4 (putAll (ls.take (i + 1))) ∧ (putAll (ls.take (i + 1))).length = n4 ∧ c4 ≤ maxLen ∧ (∀ y ∈ ls.take (i + 1), fitL y) ∧ Own w1 w.heap.size 22 u6 vs ∧ Vl w1 w.heap.size vs (wantL (ls.take (i + 1)) n).1 ∧ (wantL (ls.take (i + 1)) n).2 = a ∧ Below w.heap.size w w1) := by
          have e : wantL (ls.take (i + 1)) n = wantL (ls.take i) n := by rw [HWN.out, if_neg (by have := HN46.out; omega)]
          exact ⟨HS4.out, HLN.out.trans HN46.out.symm, HM4.out, HFT.out, hown4, by rw [e]; exact HVL4.out, by rw [e]; exact HNA.out, HB4.out⟩
        clear hown4
        go_wp2_with fail
        go_roundw
        case rel => exact ⟨i + 1, a, A4, n4, c4, vs, by go_num, rfl, rfl, by omega, hn4s, h41, HR2⟩
        case measure => simp [intOf]; omega
    · have him : i = m := by omega
      have hte : ls.take i = ls := List.take_of_length_le (by rw [HM.out]; omega)
      have HRE := HR.out
      rw [hte] at HRE
      have HE := Lib.hid HRE
      have HF200 : Hid (206 * i ≤ 4120) := by show _ ≤ _; omega
      subst him
      clear hte HRE
      by_cases hgt : nb < n
      · have g1 : decide ((n : Int) > (nb : Int)) = true := by rw [decide_eq_true_iff]; omega
        go_wp2_with fail
        refine (HAW.out _).mono ?_
        rintro e w1 ⟨rfl, hb⟩
        go_wp2_with fail
        go_ret
        exact ⟨rfl, HE.out.2.2.2.2.2.2.2.trans (hb.mono HE.out.2.2.2.2.2.2.2.size)⟩
      have g1 : decide ((n : Int) > (nb : Int)) = false := by rw [decide_eq_false_iff_not]; omega
      have hsl : ∀ W : World, (Instr.slice 22 (.slice Ab nb cb) none (some (.int .i64 (n : Int))) none).run Try.prog W = .ok (.slice Ab n cb) W := fun W => slice_to u8E W Ab nb cb n (by omega)
      have hcv := cut_valid ls n HE.out.2.2.2.1 (by rw [HE.out.2.1]; omega)
      have HVA := Lib.hid (HV.out Ab n cb ((putAll ls).take n) wr (Lib.hid (by rw [List.length_take, HE.out.2.1]; omega)) (by omega) HE.out.2.2.1 (HE.out.1.take n) (by have := HF200.out; omega))
      unfold ValidA at HVA
      rw [hcv, HE.out.2.2.2.2.2.2.1] at HVA
      have HWL : Hid ((wantL ls n).1.length ≤ 65536) := by
        have h := want_le ls n
        rw [HM.out] at h
        show _ ≤ _
        have := HF200.out
        omega
      have HWS : Hid (∃ A5 c5, u6 = .slice A5 (wantL ls n).1.length c5 ∧ Ls wr wr.heap.size A5 (wantL ls n).1) := by
        obtain ⟨A5, c5, e5, -, -, h5⟩ := HE.out.2.2.2.2.1.form
        have hv := HE.out.2.2.2.2.2.1
        exact ⟨A5, c5, by rw [e5, hv.1], vs, h5, hv.more HE.out.2.2.2.2.2.2.2.size⟩
      obtain ⟨A5, c5, rfl, hws⟩ := HWS.out
      have HW5 := Lib.hid hws
      obtain ⟨n5, hn5⟩ : ∃ x, (wantL ls n).1.length = x := ⟨_, rfl⟩
      rw [hn5] at HE HWL ⊢
      have HN5 := Lib.hid hn5
      have haa : ((a : Int) == (a : Int)) = true := by simp
      clear hcv hws HWS hn5
      go_wp2_with fail
      refine HVA.out.mono ?_
      rintro e w1 ⟨A6, n6, c6, rfl, hn6, h61, h62, hl6, hb6⟩
      have HB6 : Hid (Below w.heap.size w w1) := HE.out.2.2.2.2.2.2.2.trans (hb6.mono HE.out.2.2.2.2.2.2.2.size)
      have HLS : Hid (Calls Try.prog 16 #[.slice A6 n6 c6, .slice A5 n5 c5] w1 fun e w' => e = .returned (.bool true) ∧ ∃ q, w' = w1.drewN q) := by
        have h := rlists_any A6 A5 n6 n5 c6 c5 (wantL ls n).1 (wantL ls n).1 w1.heap.size w1 hn6 (Lib.hid HN5.out) hl6 ((HW5.out.below hb6 (Nat.le_refl _)).more hb6.size) (by rw [← hn6.out, HN5.out]; exact HWL.out) HWL.out
        rw [decide_eq_true rfl] at h
        exact h
      clear hn6 h61 h62 hl6 hb6
      go_wp2_with fail
      refine HLS.out.mono ?_
      rintro e w2 ⟨rfl, q2, hw2⟩
      have HB7 : Hid (Below w.heap.size w w2) := by show Below _ _ _; rw [hw2]; exact below_drewN HB6.out q2
      clear hw2
      go_wp2_with fail
      refine (HAW.out _).mono ?_
      rintro e w3 ⟨rfl, hb8⟩
      go_wp2_with fail
      go_ret
      exact ⟨rfl, HB7.out.trans (hb8.mono HB7.out.size)⟩
end Go.Proofs.Ytoielghmgjdknaa
