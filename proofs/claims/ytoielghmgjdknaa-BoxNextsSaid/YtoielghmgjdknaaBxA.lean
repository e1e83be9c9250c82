/-
  Package box: wrong, Size, Put.
-/
import Derived.Test.YtoielghmgjdknaaLBox12
import Derived.Test.YtoielghmgjdknaaConcat
namespace Go.Proofs.Ytoielghmgjdknaa
open Go.RowKit
set_option linter.unusedVariables false

def wrongX (n : Int) : Int := if n ≤ 0 then 2 else if 4096 < n then 3 else 0

set_option maxRecDepth 100000 in
set_option maxHeartbeats 1600000 in
theorem wrong_any (n : Int) (w : World) : Calls Try.prog 17 #[.int .i64 n] w fun e w' => e = .returned (.int .i64 (wrongX n)) ∧ w = w' := by
  by_cases h1 : n ≤ 0
  · have HX : Hid (wrongX n = 2) := if_pos h1
    go_enter Try.func17, Try.ntmps17
    go_wp2_with fail
    go_ret
    exact ⟨by rw [HX.out]; rfl, rfl⟩
  by_cases h2 : n > 4096
  · have HX : Hid (wrongX n = 3) := (if_neg h1).trans (if_pos h2)
    go_enter Try.func17, Try.ntmps17
    go_wp2_with fail
    go_ret
    exact ⟨by rw [HX.out]; rfl, rfl⟩
  have HX : Hid (wrongX n = 0) := (if_neg h1).trans (if_neg h2)
  go_enter Try.func17, Try.ntmps17
  go_wp2_with fail
  go_ret
  exact ⟨by rw [HX.out]; rfl, rfl⟩

set_option maxRecDepth 100000 in
set_option maxHeartbeats 1600000 in
theorem bxsize_any (n : Int) (w : World) : Calls Try.prog 9 #[.int .i64 n] w fun e w' => e = .returned (.int .i64 (sizeX n)) ∧ w = w' := by
  by_cases h : 1 ≤ n ∧ n ≤ 4096
  · have HX : Hid (sizeX n = n + 6) := if_pos h
    have HW : Hid (wrongX n = 0) := (if_neg (by omega)).trans (if_neg (by omega))
    have e1 : IntKind.i64.wrap (2 + n) = 2 + n := by rw [IntKind.wrap_i64]; omega
    have e2 : IntKind.i64.wrap (2 + n + 4) = 2 + n + 4 := by rw [IntKind.wrap_i64]; omega
    have HE : Hid (2 + n + 4 = n + 6) := by show _ = _; omega
    go_enter Try.func9, Try.ntmps9
    go_wp2_with fail
    refine (wrong_any _ _).mono ?_
    rintro e w' ⟨rfl, rfl⟩
    rw [HW.out]
    go_wp2_with fail
    go_ret
    exact ⟨by rw [HX.out, ← HE.out]; rfl, rfl⟩
  have HX : Hid (sizeX n = 0) := if_neg h
  have HW : Hid ((wrongX n != 0) = true) := by
    show _ = _
    unfold wrongX
    split
    · rfl
    · rw [if_pos (by omega)]; rfl
  obtain ⟨x, hx⟩ : ∃ x, wrongX n = x := ⟨_, rfl⟩
  rw [hx] at HW
  have HXX := Lib.hid hx
  have hb : (x != 0) = true := HW.out
  clear hx h
  go_enter Try.func9, Try.ntmps9
  go_wp2_with fail
  refine (wrong_any _ _).mono ?_
  rintro e w' ⟨rfl, rfl⟩
  rw [HXX.out]
  go_wp2_with fail
  go_ret
  exact ⟨by rw [HX.out]; rfl, rfl⟩

theorem size_law : BoxSizeLaw := fun n w _ _ => (bxsize_any n w).mono fun _ _ ⟨h1, h2⟩ => ⟨h1, h2 ▸ Below.refl _ _⟩

/-- slices.Concat of two slices that lie in a new block. -/
theorem box_cat2 (A1 A2 : Option Addr) (n1 n2 c1 c2 : Nat) (l1 l2 : List UInt8) (w : World) (h1 : Hid (l1.length = n1)) (h2 : Hid (l2.length = n2)) (hb1 : Bs w w.heap.size A1 l1) (hb2 : Bs w w.heap.size A2 l2) (hs : n1 + n2 ≤ 1099511627776) (T : TypeId) :
    Calls Try.prog 19 #[.slice (some ⟨w.heap.size, 0, none⟩) 2 2] (w.alloc (.cells #[.slice A1 n1 c1, .slice A2 n2 c2] T)) (RetO 5 (l1 ++ l2) w) := by
  obtain rfl : l1.length = n1 := h1.out
  obtain rfl : l2.length = n2 := h2.out
  have hb : Below w.heap.size w (w.alloc (.cells #[.slice A1 l1.length c1, .slice A2 l2.length c2] T)) := (Below.refl _ w).alloc (Nat.le_refl _) _
  have hh := concat_any (some ⟨w.heap.size, 0, none⟩) 2 2 [(A1, c1, l1), (A2, c2, l2)] _ rfl (Vs.more (Vs.new w #[.slice A1 l1.length c1, .slice A2 l2.length c2] T (0, 0) _ rfl) (by simp))
    (fun s hs => by
      simp at hs
      rcases hs with rfl | rfl
      · exact (hb1.below hb (Nat.le_refl _)).more hb.size
      · exact (hb2.below hb (Nat.le_refl _)).more hb.size)
    (by omega) (by simp [cat]; omega)
  refine hh.mono fun e w' hr => ?_
  have := RetO.since hb hr
  simpa [cat] using this

theorem RetX.none_ {w : World} {x : Int} : RetX [] x w (.returned (.tuple #[.slice none 0 0, .int .i64 x])) w :=
  ⟨none, 0, 0, rfl, Lib.hid rfl, Own.nil _ _ _, Nat.le_refl _, Nat.zero_le _, Bs.nil _ _ _, Below.refl _ _⟩

set_option maxRecDepth 100000 in
set_option maxHeartbeats 3200000 in
theorem put_law : BoxPutLaw := by
  intro A1 A2 n1 n2 c1 c2 b body w hn1 hn2 h11 h12 h21 h22 hl1 hl2 hs1 hs2
  have hN2 := hn2.out
  by_cases hw : wrongX (n2 : Int) = 0
  · have hok : 1 ≤ n2 ∧ n2 ≤ 4096 := by
      unfold wrongX at hw
      split at hw
      · cases hw
      · split at hw
        · cases hw
        · omega
    have HPV : Hid (putV b body = b ++ boxL body) := by show _ = _; unfold putV; rw [if_neg (by omega)]
    have HPX : Hid (putX body = 0) := by show _ = _; unfold putX; rw [if_neg (by omega), if_neg (by omega)]
    have HP : Hid ([] ++ putB 2 n2 = leB 2 n2) := by show _ = _; simp [putB, isW]
    have HW := Lib.hid hw
    have HS1 := Lib.hid hs1
    have HS2 := Lib.hid hs2
    have HN2 := Lib.hid hn2.out
    have hcv : IntKind.u64.wrap (n2 : Int) = (n2 : Int) := by rw [IntKind.wrap_u64]; omega
    clear hw hs1 hs2 hN2 h21 h22 h11 h12
    go_enter Try.func8, Try.ntmps8
    go_wp2_with fail
    refine (wrong_any _ _).mono ?_
    rintro e w' ⟨rfl, rfl⟩
    rw [HW.out]
    go_wp2_with fail
    refine (put_any none 0 0 [] 2 n2 _ rfl (Bs.nil _ _ _) (by omega) (by omega)).mono ?_
    rw [HP.out]
    rintro e w1 ⟨A3, n3, c3, rfl, hn3, hown, -, -, -, hb1⟩
    have hbz := hb1.size
    have hsrc := HS2.out.below hb1 (Nat.le_refl _)
    have HB1 := Lib.hid hb1
    have hl1' : ((leB 2 n2).map bv).length + n2 ≤ maxLen := by rw [List.length_map, leB_length]; unfold maxLen; omega
    have hl2' : (((leB 2 n2).map bv).length + n2) * 1 ≤ 140737488355328 := by rw [List.length_map, leB_length]; omega
    have hml : (body.map bv).length = n2 := by rw [List.length_map]; exact HN2.out
    clear hn3 hb1 hn2
    go_wp2_with (at_builtin; refine wp_app w1 rfl (.tmp 19) (.tmp 20) 22 rfl w.heap.size 5 u8E (.slice A3 n3 c3) ((leB 2 n2).map bv) rfl hown w.heap.size A2 n2 c2 (body.map bv) rfl hml hsrc (bv_one body) hl1' hl2' hbz ?_; intro v2 w2 ho2 hg2 hv2; have HB2 : Hid (Below w.heap.size w w2) := HB1.out.trans (below_app hown hg2 hbz); have he : (leB 2 n2).map bv ++ body.map bv = (headL body).map bv := (by unfold headL; rw [HN2.out, List.map_append]); rw [he] at ho2; obtain ⟨A4, n4, c4, rfl, hn4, h41, h42, hbs4⟩ := ho2.bform; have HS4 := Lib.hid hbs4; have HN4 := Lib.hid hn4.out; clear he ho2 hg2 hv2 hn4 h41 h42 hbs4 hown hsrc)
    refine (cseal_any A4 n4 c4 (headL body) w2 HN4 HS4.out (by rw [← HN4.out, headL_length]; have := HN2.out; omega)).mono ?_
    rintro e w3 ⟨A5, n5, c5, rfl, hn5, -, -, -, hbs5, hb5⟩
    have HB5 : Hid (Below w.heap.size w w3) := HB2.out.trans (hb5.mono HB2.out.size)
    have HBX : Hid (Bs w3 w3.heap.size A5 (boxL body)) := hbs5
    have HN5 : Hid ((boxL body).length = n5) := hn5.out
    have HLN : Hid (n1 + n5 ≤ 1099511627776) := by show _ ≤ _; rw [← HN5.out, boxL_length]; have := HN2.out; omega
    clear hn5 hbs5 hb5 hl1' hl2' hml
    go_wp2_with fail
    refine (box_cat2 A1 A5 n1 n5 c1 c5 b (boxL body) w3 hn1 HN5 ((HS1.out.below HB5.out (Nat.le_refl _)).more HB5.out.size) HBX.out HLN.out _).mono ?_
    rintro e w4 ⟨A6, n6, c6, rfl, hn6, hown6, h61, h62, hbs6, hb6⟩
    have HR : Hid (RetX (putV b body) (putX body) w (.returned (.tuple #[.slice A6 n6 c6, .int .i64 0])) w4) := by
      unfold RetX
      rw [HPV.out, HPX.out]
      exact ⟨A6, n6, c6, rfl, hn6, hown6.mono HB5.out.size, h61, h62, hbs6, HB5.out.trans (hb6.mono HB5.out.size)⟩
    clear hn6 hown6 h61 h62 hbs6 hb6
    go_wp2_with fail
    go_ret2
    exact HR.out
  have hx : putV b body = [] ∧ putX body = wrongX (n2 : Int) ∧ (wrongX (n2 : Int) != 0) = true := by
    refine ⟨?_, ?_, by simpa using hw⟩
    · unfold putV
      unfold wrongX at hw
      rw [if_pos]
      split at hw
      · omega
      · split at hw
        · omega
        · exact absurd rfl hw
    · unfold putX wrongX
      rw [hN2]
      by_cases h0 : n2 = 0
      · rw [if_pos h0, if_pos (by omega)]
      · rw [if_neg h0, if_neg (show ¬ (n2 : Int) ≤ 0 by omega)]
        by_cases h1 : 4096 < n2
        · rw [if_pos h1, if_pos (show (4096 : Int) < (n2 : Int) by omega)]
        · rw [if_neg h1, if_neg (show ¬ (4096 : Int) < (n2 : Int) by omega)]
  obtain ⟨x, hxx⟩ : ∃ x, wrongX (n2 : Int) = x := ⟨_, rfl⟩
  rw [hxx] at hx
  have HXX := Lib.hid hxx
  have HR : Hid (RetX (putV b body) (putX body) w (.returned (.tuple #[.slice none 0 0, .int .i64 x])) w) := by rw [hx.1, hx.2.1]; exact RetX.none_
  have hne := hx.2.2
  clear hx hxx hw hN2 hn1 hn2 hs1 hs2
  go_enter Try.func8, Try.ntmps8
  go_wp2_with fail
  refine (wrong_any _ _).mono ?_
  rintro e w' ⟨rfl, rfl⟩
  rw [HXX.out]
  go_wp2_with fail
  go_ret2
  exact HR.out
end Go.Proofs.Ytoielghmgjdknaa
