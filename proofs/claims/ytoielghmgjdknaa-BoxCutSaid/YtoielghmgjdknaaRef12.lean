/-
  Package taximeterref12: Box, Next.
-/
import Derived.Test.YtoielghmgjdknaaBoxN
import Derived.Test.YtoielghmgjdknaaSame
import Derived.Test.YtoielghmgjdknaaBlk
import Derived.Deep.RegionHeld3
namespace Go.Proofs.Ytoielghmgjdknaa
open Go.RowKit
set_option linter.unusedVariables false

theorem slice_both {P : Program} {t e : TypeId} {z : Value} {bytes : Nat} (E : Elem P t e z bytes) (w : World) (b o n c i j : Nat) (h1 : i ≤ j) (h2 : j ≤ c) (h3 : i < c) :
    (Instr.slice t (.slice (some ⟨b, o, none⟩) n c) (some (.int .i64 (i : Int))) (some (.int .i64 (j : Int))) none).run P w = .ok (.slice (some ⟨b, o + i, none⟩) (j - i) (c - i)) w := by
  obtain ⟨ht, ⟨k, hi, _, hs, _⟩, _⟩ := E
  have hc : ¬ c = i := by omega
  have he : ({ block := b, off := o, spot := none } : Addr).add i = ⟨b, o + i, none⟩ := by unfold Addr.add; split <;> simp_all
  simp [Instr.slice, Instr.sliceBounds, Instr.sliceBound, run_underlying ht, sizeOf, typeInfo, hi, hs, hc, go_sem]
  rw [if_pos h2, if_pos h1]

set_option maxRecDepth 100000 in
set_option maxHeartbeats 1600000 in
/-- ref.Box -/
theorem rbox_any (A : Option Addr) (n c : Nat) (b : List UInt8) (w : World) (hn : Hid (b.length = n)) (h : Bs w w.heap.size A b) (hl : n ≤ 65536) :
    Calls Try.prog 11 #[.slice A n c] w (RetO 5 (boxL b) w) := by
  have HN := Lib.hid hn.out
  have HB := Lib.hid (bytes_any 2 n w (by omega) (by omega))
  have HBS := Lib.hid h
  have HSL := Lib.hid (fun (V : World) (A2 : Option Addr) (n2 c2 : Nat) (hn2 : Hid ((headL b).length = n2)) (h2 : Bs V V.heap.size A2 (headL b)) => rseal_any A2 n2 c2 (headL b) V hn2 h2 (by rw [← hn2.out, headL_length]; have := HN.out; omega))
  have hcv : IntKind.u64.wrap (n : Int) = (n : Int) := by rw [IntKind.wrap_u64]; omega
  clear hn h
  go_enter Try.func11, Try.ntmps11
  go_wp2_with fail
  refine HB.out.mono ?_
  rintro e w1 ⟨A1, n1, c1, rfl, hn1, hown1, h11, h12, hbs1, hb1⟩
  have hbz := hb1.size
  have hsrc := HBS.out.below hb1 (Nat.le_refl _)
  have HM : Hid (b.length = n) := HN.out
  have hl63 : (leB 2 n).length + n ≤ 140737488355328 := by rw [leB_length]; omega
  have hl1 : ((leB 2 n).map bv).length + n ≤ maxLen := by rw [List.length_map, leB_length]; unfold maxLen; omega
  have hl2 : (((leB 2 n).map bv).length + n) * 1 ≤ 140737488355328 := by rw [List.length_map, leB_length]; omega
  have hml : (b.map bv).length = n := by rw [List.length_map]; exact HN.out
  have HB1 := Lib.hid hb1
  clear hbs1 h11 h12 hn1 hb1
  go_wp2_with (at_builtin; refine wp_app w1 rfl (.tmp 6) (.tmp 7) 22 rfl w.heap.size 5 u8E (.slice A1 n1 c1) ((leB 2 n).map bv) rfl hown1 w.heap.size A n c (b.map bv) rfl hml hsrc (bv_one b) hl1 hl2 hbz ?_; intro v2 w2 ho2 hg2 hv2; have HB2 : Hid (Below w.heap.size w w2) := HB1.out.trans (below_app hown1 hg2 hbz); have he : (leB 2 n).map bv ++ b.map bv = (headL b).map bv := (by unfold headL; rw [HN.out, List.map_append]); rw [he] at ho2; obtain ⟨A2, n2, c2, rfl, hn2, h21, h22, hbs2⟩ := ho2.bform; have HS2 := Lib.hid (HSL.out w2 A2 n2 c2 hn2 hbs2); clear he ho2 hg2 hv2 hn2 h21 h22 hbs2 hown1 hsrc)
  refine HS2.out.mono ?_
  intro e w3 h3
  have HR : Hid (RetO 5 (boxL b) w e w3) := RetO.since HB2.out h3
  obtain ⟨A3, n3, c3, rfl, -⟩ := h3
  clear hl63 hl1 hl2 hml
  go_wp2_with fail
  go_ret
  exact HR.out

/-- What Next answers: bytes that lie below block B. -/
def NextA (l : List UInt8) (p : Int) (B : Nat) (w : World) (x : Ending) (w' : World) : Prop :=
  ∃ A n c, x = .returned (.tuple #[.slice A n c, .int .i64 ((nextL l p).2.1 : Int), .int .i64 (nextL l p).2.2]) ∧ Hid ((nextL l p).1.length = n) ∧ n ≤ c ∧ c ≤ maxLen ∧ Bs w' B A (nextL l p).1 ∧ Below w.heap.size w w'
theorem NextA.nothing {l : List UInt8} {p e : Int} {B : Nat} {w w' : World} (h : nextL l p = ([], 0, e)) (hb : Below w.heap.size w w') : NextA l p B w (.returned (.tuple #[.slice none 0 0, .int .i64 0, .int .i64 e])) w' :=
  ⟨none, 0, 0, by rw [h]; rfl, Lib.hid (by rw [h]; rfl), Nat.le_refl _, Nat.zero_le _, by rw [h]; exact Bs.nil _ _ _, hb⟩
theorem nextL_out {l : List UInt8} {p : Int} (h : p < 0 ∨ (l.length : Int) < p) : nextL l p = ([], 0, 6) := by unfold nextL; rw [if_pos h]
theorem nextL_in {l : List UInt8} {k : Nat} (h : k ≤ l.length) : nextL l (k : Int) = if (boxAt (l.drop k)).2.2 = 0 then ((boxAt (l.drop k)).1, k + (boxAt (l.drop k)).2.1, 0) else ([], 0, (boxAt (l.drop k)).2.2) := by
  unfold nextL
  rw [if_neg (by omega), Int.toNat_natCast]
theorem leV_two {r : List UInt8} (x y : UInt8) (h0 : r[0]? = some x) (h1 : r[1]? = some y) : leV (r.take 2) = x.toNat + 256 * y.toNat := by
  match r, h0, h1 with
  | a :: b :: t, h0, h1 =>
    simp at h0 h1
    subst h0 h1
    simp [leV]

set_option maxRecDepth 100000 in
set_option maxHeartbeats 6400000 in
theorem rnext_any (A : Option Addr) (m c : Nat) (l : List UInt8) (p : Int) (B : Nat) (w : World) (hn : Hid (l.length = m)) (hmc : m ≤ c) (hcm : c ≤ maxLen) (hbs : Bs w B A l) (hB : B ≤ w.heap.size) (hm : m ≤ 65536) :
    Calls Try.prog 13 #[.slice A m c, .int .i64 p] w (NextA l p B w) := by
  have hlen := hn.out
  by_cases h1 : p < 0
  · have HR : Hid (∀ n, NextA l p B w (.returned (.tuple #[.slice none 0 0, .int .i64 0, .int .i64 6])) (w.drewN n)) := fun n => NextA.nothing (nextL_out (.inl h1)) (below_drewN (Below.refl _ _) n)
    have b1 : decide (p < 0) = true := decide_eq_true h1
    clear hn hbs hlen
    go_enter Try.func13, Try.ntmps13
    go_wp2_with fail
    go_ret3
    exact HR.out 0
  obtain ⟨k, rfl⟩ : ∃ k : Nat, p = (k : Int) := ⟨p.toNat, by omega⟩
  have b1 : decide ((k : Int) < 0) = false := decide_eq_false h1
  by_cases h2 : m < k
  · have HR : Hid (∀ n, NextA l k B w (.returned (.tuple #[.slice none 0 0, .int .i64 0, .int .i64 6])) (w.drewN n)) := fun n => NextA.nothing (nextL_out (.inr (by omega))) (below_drewN (Below.refl _ _) n)
    have b2 : decide ((k : Int) > (m : Int)) = true := by rw [decide_eq_true_iff]; omega
    clear hn hbs hlen
    go_enter Try.func13, Try.ntmps13
    go_wp2_with fail
    go_ret3
    exact HR.out 0
  have b2 : decide ((k : Int) > (m : Int)) = false := by rw [decide_eq_false_iff_not]; omega
  have HNX : Hid (nextL l k = if (boxAt (l.drop k)).2.2 = 0 then ((boxAt (l.drop k)).1, k + (boxAt (l.drop k)).2.1, 0) else ([], 0, (boxAt (l.drop k)).2.2)) := nextL_in (by omega)
  have hr : (l.drop k).length = m - k := by rw [List.length_drop, hlen]
  have hsub : IntKind.i64.wrap ((m : Int) - (k : Int)) = ((m - k : Nat) : Int) := by rw [IntKind.wrap_i64]; omega
  by_cases h3 : m - k < 2
  · have hx : boxAt (l.drop k) = ([], 0, 1) := by unfold boxAt; rw [hr, if_pos h3]
    have HR : Hid (∀ n, NextA l k B w (.returned (.tuple #[.slice none 0 0, .int .i64 0, .int .i64 1])) (w.drewN n)) := fun n => NextA.nothing (by rw [HNX.out, hx]; rfl) (below_drewN (Below.refl _ _) n)
    have b3 : decide (((m - k : Nat) : Int) < 2) = true := by rw [decide_eq_true_iff]; omega
    clear hn hbs hlen hr hx h1
    go_enter Try.func13, Try.ntmps13
    go_wp2_with fail
    go_ret3
    exact HR.out 0
  have b3 : decide (((m - k : Nat) : Int) < 2) = false := by rw [decide_eq_false_iff_not]; omega
  have h20 : k < l.length := by omega
  have h21 : k + 1 < l.length := by omega
  obtain ⟨b, o, rfl, hb, hcell⟩ := hbs.at_ (by omega)
  have c0 : w.cell? ⟨b, o + k, none⟩ = some (.int .u8 (l[k].toNat : Int)) := hcell k h20
  have c1 : w.cell? ⟨b, o + (k + 1), none⟩ = some (.int .u8 (l[k + 1].toNat : Int)) := hcell (k + 1) h21
  have hv : leV ((l.drop k).take 2) = l[k].toNat + 256 * l[k + 1].toNat := leV_two _ _ (by rw [List.getElem?_drop, Nat.add_zero, List.getElem?_eq_getElem h20]) (by rw [List.getElem?_drop, List.getElem?_eq_getElem h21])
  obtain ⟨x, hx⟩ : ∃ x, l[k].toNat = x := ⟨_, rfl⟩
  obtain ⟨y, hy⟩ : ∃ y, l[k + 1].toNat = y := ⟨_, rfl⟩
  have hx8 : x < 256 := by rw [← hx]; exact l[k].toNat_lt
  have hy8 : y < 256 := by rw [← hy]; exact l[k + 1].toNat_lt
  rw [hx] at c0 hv
  rw [hy] at c1 hv
  have HBS := Lib.hid hbs
  have HLN := Lib.hid hlen
  have hk1 : IntKind.i64.wrap ((k : Int) + 1) = ((k + 1 : Nat) : Int) := by rw [IntKind.wrap_i64]; omega
  have hwx : IntKind.i64.wrap (x : Int) = (x : Int) := by rw [IntKind.wrap_i64]; omega
  have hwy : IntKind.i64.wrap (y : Int) = (y : Int) := by rw [IntKind.wrap_i64]; omega
  obtain ⟨N, hN⟩ : ∃ N, x + 256 * y = N := ⟨_, rfl⟩
  have HXY : Hid ((x : Int) + 256 * (y : Int) = (N : Int)) := by show _ = _; omega
  have hN16 : N < 65536 := by omega
  rw [hN] at hv
  have HV := Lib.hid hv
  have hR := hr
  clear hx hy hcell hv hn hbs hlen h1 hr hN
  by_cases h4 : N = 0
  · have hx : boxAt (l.drop k) = ([], 0, 2) := by unfold boxAt; rw [HV.out, hR, if_neg h3, if_pos h4]
    have HR : Hid (∀ n, NextA l k B w (.returned (.tuple #[.slice none 0 0, .int .i64 0, .int .i64 2])) (w.drewN n)) := fun n => NextA.nothing (by rw [HNX.out, hx]; rfl) (below_drewN (Below.refl _ _) n)
    clear hx HNX HV HBS
    have b4 : ((N : Int) == 0) = true := by rw [beq_iff_eq]; omega
    clear h4 hR
    go_enter Try.func13, Try.ntmps13
    go_wp2_with fail
    go_quiet (fail)
    rw [HXY.out]
    go_wp2_with fail
    go_ret3
    exact HR.out _
  have b4 : ((N : Int) == 0) = false := by rw [beq_eq_false_iff_ne]; omega
  by_cases h5 : 4096 < N
  · have hx : boxAt (l.drop k) = ([], 0, 3) := by unfold boxAt; rw [HV.out, hR, if_neg h3, if_neg h4, if_pos h5]
    have HR : Hid (∀ n, NextA l k B w (.returned (.tuple #[.slice none 0 0, .int .i64 0, .int .i64 3])) (w.drewN n)) := fun n => NextA.nothing (by rw [HNX.out, hx]; rfl) (below_drewN (Below.refl _ _) n)
    clear hx HNX HV HBS
    have b5 : decide ((N : Int) > 4096) = true := by rw [decide_eq_true_iff]; omega
    clear h4 hR
    go_enter Try.func13, Try.ntmps13
    go_wp2_with fail
    go_quiet (fail)
    rw [HXY.out]
    go_wp2_with fail
    go_ret3
    exact HR.out _
  have b5 : decide ((N : Int) > 4096) = false := by rw [decide_eq_false_iff_not]; omega
  have hs2 : IntKind.i64.wrap (((m - k : Nat) : Int) - 2) = ((m - k - 2 : Nat) : Int) := by rw [IntKind.wrap_i64]; omega
  have hn4 : IntKind.i64.wrap ((N : Int) + 4) = ((N + 4 : Nat) : Int) := by rw [IntKind.wrap_i64]; omega
  by_cases h6 : m - k < N + 6
  · have hx : boxAt (l.drop k) = ([], 0, 1) := by unfold boxAt; rw [HV.out, hR, if_neg h3, if_neg h4, if_neg h5, if_pos h6]
    have HR : Hid (∀ n, NextA l k B w (.returned (.tuple #[.slice none 0 0, .int .i64 0, .int .i64 1])) (w.drewN n)) := fun n => NextA.nothing (by rw [HNX.out, hx]; rfl) (below_drewN (Below.refl _ _) n)
    clear hx HNX HV HBS
    have b6 : m - k - 2 < N + 4 := by omega
    clear h4 hR
    go_enter Try.func13, Try.ntmps13
    go_wp2_with fail
    go_quiet (fail)
    rw [HXY.out]
    go_wp2_with fail
    go_ret3
    exact HR.out _
  have b6 : ¬ m - k - 2 < N + 4 := by omega
  have hs1 : ∀ W : World, (Instr.slice 22 (.slice (some ⟨b, o, none⟩) m c) (some (.int .i64 ((k : Int) + 2))) (some (.int .i64 ((k : Int) + 2 + (N : Int)))) none).run Try.prog W = .ok (.slice (some ⟨b, o + (k + 2), none⟩) N (c - (k + 2))) W := fun W => by
    have h := slice_both (P := Try.prog) u8E W b o m c (k + 2) (k + 2 + N) (by omega) (by omega) (by omega)
    rw [show ((k + 2 : Nat) : Int) = (k : Int) + 2 by omega, show ((k + 2 + N : Nat) : Int) = (k : Int) + 2 + (N : Int) by omega, show k + 2 + N - (k + 2) = N by omega] at h
    exact h
  have hs2 : ∀ W : World, (Instr.slice 22 (.slice (some ⟨b, o, none⟩) m c) (some (.int .i64 (k : Int))) (some (.int .i64 ((k : Int) + 6 + (N : Int)))) none).run Try.prog W = .ok (.slice (some ⟨b, o + k, none⟩) (N + 6) (c - k)) W := fun W => by
    have h := slice_both (P := Try.prog) u8E W b o m c k (k + 6 + N) (by omega) (by omega) (by omega)
    rw [show ((k + 6 + N : Nat) : Int) = (k : Int) + 6 + (N : Int) by omega, show k + 6 + N - k = N + 6 by omega] at h
    exact h
  have HR1 : Hid ((((l.drop k).drop 2).take N).length = N) := by show _ = _; rw [List.length_take, List.length_drop, hR]; omega
  have HR2 : Hid (((l.drop k).take (N + 6)).length = N + 6) := by show _ = _; rw [List.length_take, hR]; omega
  have hbd : Bs w B (some ⟨b, o + (k + 2), none⟩) (((l.drop k).drop 2).take N) := by
    rw [List.drop_drop]
    exact (HBS.out.drop (k + 2) rfl).take N
  have HB1 := Lib.hid hbd
  have HB2 : Hid (Bs w B (some ⟨b, o + k, none⟩) ((l.drop k).take (N + 6))) := (HBS.out.drop k rfl).take (N + 6)
  have HBX := Lib.hid (fun (V : World) (hV : Below w.heap.size w V) => rbox_any (some ⟨b, o + (k + 2), none⟩) N (c - (k + 2)) (((l.drop k).drop 2).take N) V HR1 ((HB1.out.below hV hB).more (Nat.le_trans hB hV.size)) (by omega))
  have hse := box_seal HV.out (by rw [hR]; omega)
  obtain ⟨q, hq⟩ : ∃ q, sealB ((l.drop k).take (N + 6)) = q := ⟨_, rfl⟩
  have HSA : Hid (∀ (V : World) (hV : Below w.heap.size w V) (A3 : Option Addr) (n3 c3 : Nat) (hn3 : Hid ((boxL (((l.drop k).drop 2).take N)).length = n3)) (h3 : Bs V V.heap.size A3 (boxL (((l.drop k).drop 2).take N))),
      Calls Try.prog 10 #[.slice A3 n3 c3, .slice (some ⟨b, o + k, none⟩) (N + 6) (c - k)] V fun e w' => e = .returned (.bool q) ∧ Below w.heap.size w w') := fun V hV A3 n3 c3 hn3 h3 => by
    have h := same_any A3 (some ⟨b, o + k, none⟩) n3 (N + 6) c3 (c - k) _ _ V.heap.size V hn3.out HR2.out h3 ((HB2.out.below hV hB).more (Nat.le_trans hB hV.size)) (by rw [boxL_length, HR1.out]; unfold maxLen; omega) (by rw [HR2.out]; unfold maxLen; omega)
    rw [hse, hq] at h
    exact h.mono fun e w' ⟨h1, i, h2⟩ => ⟨h1, by rw [h2]; exact below_drewN hV i⟩
  have HBA : Hid (boxAt (l.drop k) = if q = false then ([], 0, 4) else (((l.drop k).drop 2).take N, N + 6, 0)) := by
    show _ = _
    unfold boxAt
    rw [HV.out, hR, if_neg h3, if_neg h4, if_neg h5, if_neg (by omega), hq]
  have hw6 : IntKind.i64.wrap ((k : Int) + 6) = (k : Int) + 6 := by rw [IntKind.wrap_i64]; omega
  have hw62 : IntKind.i64.wrap ((k : Int) + 6 + (N : Int)) = (k : Int) + 6 + (N : Int) := by rw [IntKind.wrap_i64]; omega
  have HBL := Lib.hid hB
  have HCM := Lib.hid (And.intro hmc hcm)
  have HK6 : Hid (k + 2 + N + 4 ≤ m) := by show _ ≤ _; omega
  clear hse hq hbd hR HV HBS
  go_enter Try.func13, Try.ntmps13
  go_wp2_with fail
  go_quiet (fail)
  rw [HXY.out]
  have hbq : Below w.heap.size w (w.drewN nq) := below_drewN (Below.refl _ _) nq
  obtain ⟨wq, hwq⟩ : ∃ wq, w.drewN nq = wq := ⟨_, rfl⟩
  rw [hwq] at hbq ⊢
  clear hwq
  go_wp2_with fail
  go_region_held3 (fun V => Below w.heap.size w V) (first | assumption | exact below_drewN hbq 1) (first
    | (go_at_call 11; (with_reducible refine (HBX.out _ ?_).mono ?_); exact below_drewN hbq 1; rintro e w3 ⟨A3, n3, c3, rfl, hn3, hown3, h31, h32, hbs3, hb3⟩; have hb3 : Below w.heap.size w w3 := (below_drewN hbq 1).trans (hb3.mono hbq.size))
    | (go_at_call 10; (with_reducible refine (HSA.out _ hb3 _ _ _ hn3 hbs3).mono ?_); rintro e w4 ⟨rfl, hb4⟩))
  all_goals
    cases q with
    | false =>
      have HR : Hid (NextA l k B w (.returned (.tuple #[.slice none 0 0, .int .i64 0, .int .i64 4])) w4) := NextA.nothing (by rw [HNX.out, HBA.out]; rfl) hb4
      clear hs1 hs2
      go_wp2_with fail
      go_ret3
      exact HR.out
    | true =>
      have hxx : boxAt (l.drop k) = (((l.drop k).drop 2).take N, N + 6, 0) := HBA.out
      have HR : Hid (NextA l k B w (.returned (.tuple #[.slice (some ⟨b, o + (k + 2), none⟩) N (c - (k + 2)), .int .i64 ((k : Int) + 6 + (N : Int)), .int .i64 0])) w4) := by
        have e1 : nextL l k = (((l.drop k).drop 2).take N, k + (N + 6), 0) := by rw [HNX.out, hxx]; rfl
        refine ⟨_, N, c - (k + 2), ?_, by rw [e1]; exact HR1, ?_, ?_, by rw [e1]; exact HB1.out.below hb4 HBL.out, hb4⟩
        · rw [e1]
          simp only
          rw [show ((k + (N + 6) : Nat) : Int) = (k : Int) + 6 + (N : Int) by omega]
        · have := HK6.out; have := HCM.out.1; omega
        · have := HCM.out.2; omega
      clear hs1 hs2 hxx
      go_wp2_with fail
      go_ret3
      exact HR.out
end Go.Proofs.Ytoielghmgjdknaa
