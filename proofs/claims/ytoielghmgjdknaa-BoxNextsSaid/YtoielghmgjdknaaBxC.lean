/-
  Package box: Next.
-/
import Derived.Test.YtoielghmgjdknaaBxB
namespace Go.Proofs.Ytoielghmgjdknaa
open Go.RowKit
set_option linter.unusedVariables false

theorem slice_fromA {P : Program} {t e : TypeId} {z : Value} {bytes : Nat} (E : Elem P t e z bytes) (A : Option Addr) (n c k : Nat) (h1 : k ≤ n) :
    ∃ A', (∀ w : World, (Instr.slice t (.slice A n c) (some (.int .i64 (k : Int))) none none).run P w = .ok (.slice A' (n - k) (c - k)) w) ∧ (k < c → A' = A.map (·.add k)) := by
  obtain ⟨ht, ⟨i, hi, _, hs, _⟩, _⟩ := E
  refine ⟨if c = k then A else A.map (·.add (k * 1)), fun w => ?_, fun h => ?_⟩
  · have hk : (0 : Int) ≤ (k : Int) ∧ (k : Int) ≤ (n : Int) := by omega
    simp [Instr.slice, Instr.sliceBounds, Instr.sliceBound, run_underlying ht, sizeOf, typeInfo, hi, hs, go_sem]
    intro hlt
    omega
  · rw [if_neg (by omega), Nat.mul_one]

theorem NextB.nothing {l : List UInt8} {p e : Int} {B : Nat} {w w' : World} (h : nextL l p = ([], 0, e)) (hb : Below w.heap.size w w') : NextB l p B w (.returned (.tuple #[.slice none 0 0, .int .i64 0, .int .i64 e])) w' :=
  ⟨none, 0, 0, by rw [h]; rfl, Lib.hid (by rw [h]; rfl), Nat.le_refl _, Nat.zero_le _, by rw [h]; exact Bs.nil _ _ _, hb, fun _ _ _ e => by cases e⟩

set_option maxRecDepth 100000 in
set_option maxHeartbeats 3200000 in
theorem next_law : BoxNextLaw := by
  intro A m c l p B w hn hmc hcm hbs hB hm hp
  have hlen := hn.out
  by_cases h1 : p < 0
  · have HR : Hid (∀ n, NextB l p B w (.returned (.tuple #[.slice none 0 0, .int .i64 0, .int .i64 6])) (w.drewN n)) := fun n => NextB.nothing (nextL_out (.inl h1)) (below_drewN (Below.refl _ _) n)
    have b1 : decide (p < 0) = true := decide_eq_true h1
    clear hn hbs hlen
    go_enter Try.func12, Try.ntmps12
    go_wp2_with fail
    go_ret3
    exact HR.out 0
  obtain ⟨k, rfl⟩ : ∃ k : Nat, p = (k : Int) := ⟨p.toNat, by omega⟩
  have b1 : decide ((k : Int) < 0) = false := decide_eq_false h1
  by_cases h2 : m < k
  · have HR : Hid (∀ n, NextB l k B w (.returned (.tuple #[.slice none 0 0, .int .i64 0, .int .i64 6])) (w.drewN n)) := fun n => NextB.nothing (nextL_out (.inr (by omega))) (below_drewN (Below.refl _ _) n)
    have b2 : decide ((k : Int) > (m : Int)) = true := by rw [decide_eq_true_iff]; omega
    clear hn hbs hlen
    go_enter Try.func12, Try.ntmps12
    go_wp2_with fail
    go_ret3
    exact HR.out 0
  have b2 : decide ((k : Int) > (m : Int)) = false := by rw [decide_eq_false_iff_not]; omega
  have HNX : Hid (nextL l k = if (boxAt (l.drop k)).2.2 = 0 then ((boxAt (l.drop k)).1, k + (boxAt (l.drop k)).2.1, 0) else ([], 0, (boxAt (l.drop k)).2.2)) := nextL_in (by omega)
  have hr : (l.drop k).length = m - k := by rw [List.length_drop, hlen]
  obtain ⟨A', hs1, hA'⟩ := slice_fromA u8E A m c k (by omega)
  have hbr : Bs w B A' (l.drop k) := by
    by_cases hz : k < m
    · obtain ⟨b, o, rfl, -, -⟩ := hbs.at_ (by omega)
      have he : ({ block := b, off := o, spot := none } : Addr).add k = ⟨b, o + k, none⟩ := by unfold Addr.add; split <;> simp_all
      rw [hA' (by omega), Option.map_some, he]
      exact hbs.drop k rfl
    · have : l.drop k = [] := List.drop_eq_nil_of_le (by omega)
      rw [this]
      exact Bs.nil _ _ _
  have HTO := Lib.hid (told_any A' (m - k) (c - k) (l.drop k) B w (Lib.hid hr) (by omega) (by omega) hbr hB (by omega))
  unfold ToldB at HTO
  by_cases h3 : (toldX (l.drop k)).2 = 0
  · obtain ⟨N, n1, n2, hS, n3, hbx⟩ := toldX_good h3
    rw [h3, hS] at HTO
    rw [hr] at n3
    obtain ⟨b, o, rfl, hb, -⟩ := hbs.at_ (by omega)
    obtain ⟨Z, hZ⟩ : ∃ Z, N + 6 = Z := ⟨_, rfl⟩
    obtain ⟨t, ht⟩ : ∃ t, k + Z = t := ⟨_, rfl⟩
    rw [hZ] at HTO n3 hbx
    have hs2 : ∀ W : World, (Instr.slice 22 (.slice (some ⟨b, o, none⟩) m c) (some (.int .i64 (k : Int))) (some (.int .i64 (t : Int))) none).run Try.prog W = .ok (.slice (some ⟨b, o + k, none⟩) Z (c - k)) W := fun W => by
      have h := slice_both (P := Try.prog) u8E W b o m c k t (by omega) (by omega) (by omega)
      rw [show t - k = Z by omega] at h
      exact h
    have hsum : IntKind.i64.wrap ((k : Int) + (Z : Int)) = (t : Int) := by rw [IntKind.wrap_i64]; omega
    have hlz : ((l.drop k).take Z).length = Z := by rw [List.length_take, hr]; omega
    have HOP := Lib.hid (fun (V : World) (hV : Below w.heap.size w V) => copen_new (some ⟨b, o + k, none⟩) Z (c - k) ((l.drop k).take Z) V (Lib.hid hlz) (by omega) (by unfold maxLen at hcm; omega) (((((hbs.drop k rfl).take Z).below hV hB).more (Nat.le_trans hB hV.size))) (by omega))
    unfold OpenedN at HOP
    have hob : sealB ((l.drop k).take Z) = true → openB ((l.drop k).take Z) = ((l.drop k).take Z).take (N + 2) := fun h => by
      unfold openB
      rw [if_pos h, hlz, show Z - 4 = N + 2 by omega]
    have hod : (((l.drop k).take Z).take (N + 2)).drop 2 = ((l.drop k).drop 2).take N := by
      rw [List.take_take, show min (N + 2) Z = N + 2 by omega, List.drop_take, show N + 2 - 2 = N by omega]
    have hol : (((l.drop k).take Z).take (N + 2)).length = N + 2 := by rw [List.length_take, hlz]; omega
    have HNL : Hid ((((l.drop k).drop 2).take N).length = N) := by show _ = _; rw [List.length_take, List.length_drop, hr]; omega
    have HOD := Lib.hid hod
    have HOL := Lib.hid hol
    obtain ⟨q, hq⟩ : ∃ q, sealB ((l.drop k).take Z) = q := ⟨_, rfl⟩
    rw [hq] at HOP hob hbx
    have HBX : Hid (nextL l k = if q = false then ([], 0, 4) else (((l.drop k).drop 2).take N, t, 0)) := by
      show _ = _
      rw [HNX.out, hbx]
      cases q
      · rfl
      · show (_, k + Z, _) = _
        rw [ht]
        rfl
    cases q with
    | false =>
      have HR : Hid (∀ V, Below w.heap.size w V → NextB l k B w (.returned (.tuple #[.slice none 0 0, .int .i64 0, .int .i64 4])) V) := fun V hV => NextB.nothing (by rw [HBX.out]; rfl) hV
      clear HNX HBX hob hod hol HOD HOL hbx hS h3 hlz hq hbs hbr hn hlen hr hA' hp
      go_enter Try.func12, Try.ntmps12
      go_wp2_with fail
      refine HTO.out.mono ?_
      rintro e w1 ⟨rfl, hb1⟩
      have HB1 := Lib.hid hb1
      clear hb1
      go_wp2_with fail
      refine (HOP.out _ HB1.out).mono ?_
      rintro e w2 ⟨A2, n2', c2, rfl, -, -, -, -, hb2, -⟩
      have HB2 : Hid (Below w.heap.size w w2) := HB1.out.trans (hb2.mono HB1.out.size)
      clear hb2
      go_wp2_with fail
      go_ret3
      exact HR.out _ HB2.out
    | true =>
      rw [hob rfl] at HOP
      clear HNX hob hod hol hbx hS h3 hlz hq hbs hbr hn hlen hr hA' hp
      go_enter Try.func12, Try.ntmps12
      go_wp2_with fail
      refine HTO.out.mono ?_
      rintro e w1 ⟨rfl, hb1⟩
      have HB1 := Lib.hid hb1
      clear hb1
      go_wp2_with fail
      refine (HOP.out _ HB1.out).mono ?_
      rintro e w2 ⟨A2, n2', c2, rfl, hn2, h21, h22, hbs2, hb2, hnew⟩
      obtain rfl : N + 2 = n2' := HOL.out.symm.trans hn2.out
      obtain ⟨b2, o2, rfl, -, -⟩ := hbs2.at_ (by rw [HOL.out]; omega)
      have hs3 : ∀ W : World, (Instr.slice 22 (.slice (some ⟨b2, o2, none⟩) (N + 2) c2) (some (.int .i64 2)) none none).run Try.prog W = .ok (.slice (some ⟨b2, o2 + 2, none⟩) N (c2 - 2)) W := fun W => by
        have h := slice_from (P := Try.prog) u8E W b2 o2 (N + 2) c2 2 (by omega) (by omega)
        exact h
      have hbs3 := hbs2.drop 2 rfl
      rw [HOD.out] at hbs3
      have HR : Hid (NextB l k B w (.returned (.tuple #[.slice (some ⟨b2, o2 + 2, none⟩) N (c2 - 2), .int .i64 (t : Int), .int .i64 0])) w2) := by
        unfold NextB
        rw [HBX.out]
        exact ⟨_, N, c2 - 2, rfl, HNL, by omega, by omega, hbs3, HB1.out.trans (hb2.mono HB1.out.size), fun b o s e => by cases e; exact .inr (Nat.le_trans HB1.out.size (hnew _ _ _ rfl))⟩
      clear hn2 h21 h22 hbs2 hb2 hnew hbs3
      go_wp2_with fail
      go_ret3
      exact HR.out
  · have hbx := toldX_bad h3
    obtain ⟨S, hS⟩ : ∃ S, (toldX (l.drop k)).1 = S := ⟨_, rfl⟩
    obtain ⟨E, hE⟩ : ∃ E, (toldX (l.drop k)).2 = E := ⟨_, rfl⟩
    rw [hE] at h3 hbx
    rw [hS, hE] at HTO
    have hne : (E != 0) = true := by simpa using h3
    have HR : Hid (∀ V, Below w.heap.size w V → NextB l k B w (.returned (.tuple #[.slice none 0 0, .int .i64 0, .int .i64 E])) V) := fun V hV => NextB.nothing (by rw [HNX.out, hbx]; exact if_neg h3) hV
    clear HNX hbx hS hE h3 hbs hbr hn hlen hr hA' hp
    go_enter Try.func12, Try.ntmps12
    go_wp2_with fail
    refine HTO.out.mono ?_
    rintro e w1 ⟨rfl, hb1⟩
    have HB1 := Lib.hid hb1
    clear hb1
    go_wp2_with fail
    go_ret3
    exact HR.out _ HB1.out
end Go.Proofs.Ytoielghmgjdknaa
