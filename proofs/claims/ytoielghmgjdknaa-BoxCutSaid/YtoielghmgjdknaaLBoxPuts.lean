/-
  The walk of BoxPuts, over what package box is to do.
-/
import Derived.Test.YtoielghmgjdknaaLBox12
namespace Go.Proofs.Ytoielghmgjdknaa
open Go.RowKit
set_option linter.unusedVariables false

set_option maxRecDepth 100000 in
set_option maxHeartbeats 6400000 in
theorem boxPuts_over (hP : BoxPutLaw) (hS : BoxSizeLaw) (hA : Awake12) (A1 A2 : Option Addr) (n1 n2 c1 c2 : Nat) (b body : List UInt8) (w : World) (hn1 : Hid (b.length = n1)) (hn2 : Hid (body.length = n2)) (hc1 : n1 ≤ c1) (hm1 : c1 ≤ maxLen) (hc2 : n2 ≤ c2) (hm2 : c2 ≤ maxLen)
    (hb1 : Bs w w.heap.size A1 b) (hb2 : Bs w w.heap.size A2 body) :
    Calls Try.prog 3 #[.slice A1 n1 c1, .slice A2 n2 c2] w fun e w' => e = .returned (.bool true) ∧ Below w.heap.size w w' := by
  have HAW := Lib.hid hA
  by_cases hbig : 300 < n1 ∨ (300 < n2 ∧ n2 < 4090) ∨ 4100 < n2
  · have hbb : (300 < n1) ∨ (¬ 300 < n1 ∧ 300 < n2 ∧ n2 < 4090) ∨ (¬ 300 < n1 ∧ 300 < n2 ∧ ¬ n2 < 4090 ∧ 4100 < n2) := by omega
    clear hbig hb1 hb2 hP hS hA hn1 hn2
    rcases hbb with h1 | ⟨h1, h2, h3⟩ | ⟨h1, h2, h3, h4⟩
    · have g1 : decide ((n1 : Int) > 300) = true := by rw [decide_eq_true_iff]; omega
      go_enter Try.func3, Try.ntmps3
      go_wp2_with fail
      refine (HAW.out _).mono ?_
      rintro e w1 ⟨rfl, hb⟩
      go_wp2_with fail
      go_ret
      exact ⟨rfl, hb⟩
    · have g1 : decide ((n1 : Int) > 300) = false := by rw [decide_eq_false_iff_not]; omega
      have g2 : decide ((n2 : Int) > 300) = true := by rw [decide_eq_true_iff]; omega
      have g3 : decide ((n2 : Int) < 4090) = true := by rw [decide_eq_true_iff]; omega
      go_enter Try.func3, Try.ntmps3
      go_wp2_with fail
      refine (HAW.out _).mono ?_
      rintro e w1 ⟨rfl, hb⟩
      go_wp2_with fail
      go_ret
      exact ⟨rfl, hb⟩
    · have g1 : decide ((n1 : Int) > 300) = false := by rw [decide_eq_false_iff_not]; omega
      have g2 : decide ((n2 : Int) > 300) = true := by rw [decide_eq_true_iff]; omega
      have g3 : decide ((n2 : Int) < 4090) = false := by rw [decide_eq_false_iff_not]; omega
      have g4 : decide ((n2 : Int) > 4100) = true := by rw [decide_eq_true_iff]; omega
      go_enter Try.func3, Try.ntmps3
      go_wp2_with fail
      refine (HAW.out _).mono ?_
      rintro e w1 ⟨rfl, hb⟩
      go_wp2_with fail
      go_ret
      exact ⟨rfl, hb⟩
  have q1 : ¬ 300 < n1 := by omega
  have q4 : ¬ 4100 < n2 := by omega
  have HPU := Lib.hid (hP A1 A2 n1 n2 c1 c2 b body w hn1 hn2 hc1 hm1 hc2 hm2 (by omega) (by omega) hb1 hb2)
  have HS := Lib.hid (fun (V : World) (n : Nat) (h : n ≤ 65536) => hS (n : Int) V (by omega) (by omega))
  have HS0 : Hid (∀ V : World, Calls Try.prog 9 #[.int .i64 0] V fun e w' => e = .returned (.int .i64 0) ∧ Below V.heap.size V w') := fun V => hS 0 V (by decide) (by decide)
  have HB1 := Lib.hid hb1
  have HB2 := Lib.hid hb2
  have HN1 := Lib.hid hn1.out
  have HN2 := Lib.hid hn2.out
  have hcase : (n2 ≤ 300 ∨ (300 < n2 ∧ 4090 ≤ n2)) := by omega
  clear hP hS hA hb1 hb2 hn1 hn2 hbig
  by_cases h0 : n2 = 0
  · subst h0
    have hbd : body = [] := List.eq_nil_of_length_eq_zero HN2.out
    have e1 : putV b body = [] := by unfold putV; rw [if_pos (.inl HN2.out)]
    have e2 : putX body = 2 := by unfold putX; rw [if_pos HN2.out]
    rw [e1, e2] at HPU
    clear hbd e1 e2 hcase
    go_enter Try.func3, Try.ntmps3
    go_wp2_with fail
    refine HPU.out.mono ?_
    rintro e w1 ⟨A3, n3, c3, rfl, hn3, -, h31, h32, hbs3, hb3⟩
    obtain rfl : 0 = n3 := hn3.out
    have HB3 := Lib.hid hb3
    clear hbs3 hb3
    go_wp2_with fail
    refine (HS0.out _).mono ?_
    rintro e w2 ⟨rfl, hb4⟩
    have HB4 : Hid (Below w.heap.size w w2) := HB3.out.trans (hb4.mono HB3.out.size)
    clear hb4
    go_wp2_with fail
    refine (HAW.out _).mono ?_
    rintro e w3 ⟨rfl, hb5⟩
    go_wp2_with fail
    go_ret
    exact ⟨rfl, HB4.out.trans (hb5.mono HB4.out.size)⟩
  have z0 : ((n2 : Int) == 0) = false := by rw [beq_eq_false_iff_ne]; omega
  by_cases h4 : 4096 < n2
  · have e1 : putV b body = [] := by unfold putV; rw [if_pos (.inr (by rw [HN2.out]; exact h4))]
    have e2 : putX body = 3 := by unfold putX; rw [if_neg (by rw [HN2.out]; exact h0), if_pos (by rw [HN2.out]; exact h4)]
    rw [e1, e2] at HPU
    have HSZ : Hid (∀ V : World, Calls Try.prog 9 #[.int .i64 (n2 : Int)] V fun e w' => e = .returned (.int .i64 0) ∧ Below V.heap.size V w') := fun V => by
      have h := HS.out V n2 (by omega)
      rw [show sizeX (n2 : Int) = 0 from by unfold sizeX; rw [if_neg (by omega)]] at h
      exact h
    have g2 : ¬ n2 ≤ 300 := by omega
    have g3 : ¬ n2 < 4090 := by omega
    have g2' : 300 < n2 := by omega
    clear e1 e2 hcase HS
    go_enter Try.func3, Try.ntmps3
    go_wp2_with fail
    refine HPU.out.mono ?_
    rintro e w1 ⟨A3, n3, c3, rfl, hn3, -, h31, h32, hbs3, hb3⟩
    obtain rfl : 0 = n3 := hn3.out
    have HB3 := Lib.hid hb3
    clear hbs3 hb3
    go_wp2_with fail
    refine (HSZ.out _).mono ?_
    rintro e w2 ⟨rfl, hb4⟩
    have HB4 : Hid (Below w.heap.size w w2) := HB3.out.trans (hb4.mono HB3.out.size)
    clear hb4
    go_wp2_with fail
    refine (HAW.out _).mono ?_
    rintro e w3 ⟨rfl, hb5⟩
    go_wp2_with fail
    go_ret
    exact ⟨rfl, HB4.out.trans (hb5.mono HB4.out.size)⟩
  have e1 : putV b body = b ++ boxL body := by unfold putV; rw [if_neg (by rw [HN2.out]; omega)]
  have e2 : putX body = 0 := by unfold putX; rw [if_neg (by rw [HN2.out]; exact h0), if_neg (by rw [HN2.out]; exact h4)]
  rw [e1, e2] at HPU
  have HSZ : Hid (∀ V : World, Calls Try.prog 9 #[.int .i64 (n2 : Int)] V fun e w' => e = .returned (.int .i64 ((n2 : Int) + 6)) ∧ Below V.heap.size V w') := fun V => by
    have h := HS.out V n2 (by omega)
    rw [show sizeX (n2 : Int) = (n2 : Int) + 6 from by unfold sizeX; rw [if_pos (by omega)]] at h
    exact h
  have HBX := Lib.hid (fun (V : World) (hV : Below w.heap.size w V) => rbox_any A2 n2 c2 body V HN2 ((HB2.out.below hV (Nat.le_refl _)).more hV.size) (by omega))
  have h1b := bv_one b
  have HBL : Hid ((b.map bv).length = n1) := by show _ = _; rw [List.length_map]; exact HN1.out
  have HN1' := HN1
  clear e1 e2 HS
  have main : ∀ (g : (n2 ≤ 300 ∧ ¬ 300 < n2) ∨ (¬ n2 ≤ 300 ∧ 300 < n2 ∧ ¬ n2 < 4090)), Calls Try.prog 3 #[.slice A1 n1 c1, .slice A2 n2 c2] w fun e w' => e = .returned (.bool true) ∧ Below w.heap.size w w' := by
    intro g
    rcases g with ⟨g1, g2⟩ | ⟨g1, g2, g3⟩
    all_goals
      clear hcase
      go_enter Try.func3, Try.ntmps3
      go_wp2_with fail
      refine HPU.out.mono ?_
      rintro e w1 ⟨A3, n3, c3, rfl, hn3, -, h31, h32, hbs3, hb3⟩
      have HB3 := Lib.hid hb3
      have HS3 := Lib.hid hbs3
      have hL3 : n3 = n1 + (n2 + 6) := by have := hn3.out; rw [List.length_append, boxL_length, HN1.out, HN2.out] at this; omega
      have HN3 := hn3
      have HM3 := Lib.hid (And.intro h31 h32)
      have hb1a := HB1.out.below hb3 (Nat.le_refl _)
      have hsw := hb3.size
      have HL3 := Lib.hid hL3
      clear hbs3 hb3 hn3 h31 h32 hL3
      go_wp2_with (at_builtin; refine wp_appG (w1.alloc (.cells #[] 5)) (by rfl) (.tmp 74) (.tmp 75) _ rfl w1.heap.size 5 u8E (.slice (some ⟨w1.heap.size, 0, none⟩) 0 0) [] rfl (World.ownsRow_made w1 #[] 0 (Nat.le_refl _) (Nat.zero_le _) rfl) _ _ _ _ _ rfl HBL.out (Bs.alloc hb1a hsw _) h1b ?c1 ?c2 ?c3 ?_)
      case c1 => simp [maxLen]; omega
      case c2 => simp; omega
      case c3 => simp
      intro v4 w4 hown4 hg4 _
      have hb14 : Below w1.heap.size w1 w4 := ((Below.refl _ w1).alloc (Nat.le_refl _) _).trans (below_app (World.ownsRow_made w1 #[] 0 (Nat.le_refl _) (Nat.zero_le _) rfl) hg4 (by simp))
      have HB4 : Hid (Below w.heap.size w w4) := HB3.out.trans (hb14.mono HB3.out.size)
      have HB14 := Lib.hid hb14
      have HO4 := Lib.hid hown4
      clear hg4 hb14 hown4 hb1a
      go_wp2_with fail
      refine (HBX.out _ HB4.out).mono ?_
      rintro e w5 ⟨A5, n5, c5, rfl, hn5, -, h51, h52, hbs5, hb5⟩
      have HB5 : Hid (Below w.heap.size w w5) := HB4.out.trans (hb5.mono HB4.out.size)
      have HB15 : Hid (Below w1.heap.size w1 w5) := HB14.out.trans (hb5.mono HB14.out.size)
      have hown5 := HO4.out.below hb5 (Nat.le_refl _)
      have hm5 : ((boxL body).map bv).length = n5 := by rw [List.length_map]; exact hn5.out
      have hn56 : n5 = n2 + 6 := by have := hn5.out; rw [boxL_length, HN2.out] at this; omega
      have h1x := bv_one (boxL body)
      have hl5 : (b.map bv).length + n5 ≤ maxLen := by rw [HBL.out]; unfold maxLen; omega
      have hy5 : ((b.map bv).length + n5) * 1 ≤ 140737488355328 := by rw [HBL.out]; omega
      have hz5 := HB15.out.size
      clear hn5 h51 h52 hb5 hn56
      go_wp2_with (at_builtin; refine wp_appG w5 (by rfl) (.tmp 76) (.tmp 78) _ rfl w1.heap.size 5 u8E v4 (b.map bv) rfl hown5 w5.heap.size A5 n5 c5 ((boxL body).map bv) rfl hm5 hbs5 h1x hl5 hy5 hz5 ?_)
      intro v6 w6 hown6 hg6 _
      have hb56 : Below w1.heap.size w5 w6 := below_app hown5 hg6 hz5
      have HB16 : Hid (Below w1.heap.size w1 w6) := HB15.out.trans hb56
      have HB6 : Hid (Below w.heap.size w w6) := HB3.out.trans (HB16.out.mono HB3.out.size)
      rw [← List.map_append] at hown6
      obtain ⟨A6, n6, c6, rfl, hn6, h61, h62, hbs6⟩ := hown6.bform
      have HSA : Hid (Calls Try.prog 10 #[.slice A3 n3 c3, .slice A6 n6 c6] w6 fun e w' => e = .returned (.bool true) ∧ ∃ q, w' = w6.drewN q) := by
        have h := same_any A3 A6 n3 n6 c3 c6 _ _ w6.heap.size w6 HN3.out hn6.out ((HS3.out.below HB16.out (Nat.le_refl _)).more HB16.out.size) hbs6 (by rw [HN3.out, HL3.out]; unfold maxLen; omega) (by rw [List.length_append, boxL_length, HN1.out, HN2.out]; unfold maxLen; omega)
        rw [decide_eq_true rfl] at h
        exact h
      have hsb : IntKind.i64.wrap ((n3 : Int) - (n1 : Int)) = (n2 : Int) + 6 := by rw [IntKind.wrap_i64, HL3.out]; omega
      have hsb2 : (n3 : Int) - (n1 : Int) = (n2 : Int) + 6 := by rw [HL3.out]; omega
      have hsq : ((n2 : Int) + 6 == (n3 : Int) - (n1 : Int)) = true := by rw [beq_iff_eq]; omega
      clear hown6 hg6 hb56 hn6 h61 h62 hbs6 hown5 hbs5 hm5 hl5 hy5
      go_wp2_with fail
      refine HSA.out.mono ?_
      rintro e w7 ⟨rfl, q7, hw7⟩
      have HB7 : Hid (Below w.heap.size w w7) := by show Below _ _ _; rw [hw7]; exact below_drewN HB6.out q7
      clear hw7
      go_wp2_with fail
      refine (HSZ.out _).mono ?_
      rintro e w8 ⟨rfl, hb8⟩
      have HB8 : Hid (Below w.heap.size w w8) := HB7.out.trans (hb8.mono HB7.out.size)
      clear hb8
      go_wp2_with fail
      refine (HAW.out _).mono ?_
      rintro e w9 ⟨rfl, hb9⟩
      go_wp2_with fail
      go_ret
      exact ⟨rfl, HB8.out.trans (hb9.mono HB8.out.size)⟩
  exact main (by omega)
end Go.Proofs.Ytoielghmgjdknaa
