/-
  box.boxes: the iterator's contract, over box.Next.
-/
import Derived.Test.YtoielghmgjdknaaTold
import Derived.Test.YtoielghmgjdknaaLBox12
import Derived.Shelf.Abstract
import Derived.Shelf.RegionOpen
import Derived.WalkKit
import Derived.OwnWalkIn
import Derived.TacticsInMore
import Derived.LoopNIn
import Derived.LoopIn
namespace Go.Proofs.Ytoielghmgjdknaa
open Go.RowKit Go.Shelf
set_option linter.unusedVariables false

/-- What a round is handed: what box.Next has answered: bytes (a slice, and how they read), and what is wrong. -/
structure BoxX where
  A : Option Addr
  n : Nat
  c : Nat
  bd : List UInt8
  er : Int
abbrev BoxX.encs (x : BoxX) : Array Value := #[.slice x.A x.n x.c, .int .i64 x.er]
/-- How many bytes boxes have. -/
def szs (pre : List BoxX) : Nat := (pre.map fun x => x.bd.length + 6).sum
theorem szs_snoc (pre : List BoxX) (x : BoxX) : szs (pre ++ [x]) = szs pre + (x.bd.length + 6) := by simp [szs]
theorem szs_le (pre : List BoxX) : pre.length ≤ szs pre := by
  induction pre with
  | nil => exact Nat.le_refl _
  | cons x r ih =>
    have : szs (x :: r) = (x.bd.length + 6) + szs r := by simp [szs]
    rw [this, List.length_cons]
    omega
def BoxX.G (l : List UInt8) (n0 q : Nat) (pre : List BoxX) (x : BoxX) (W : World) : Prop :=
  Hid (x.bd.length = x.n) ∧ x.n ≤ x.c ∧ x.c ≤ maxLen ∧ Bs W W.heap.size x.A x.bd ∧ (x.er = 0 → szs pre + (x.bd.length + 6) ≤ l.length ∧ 0 < x.bd.length ∧ x.bd.length ≤ 4096) ∧ ∀ b o s, x.A = some ⟨b, o, s⟩ → b < n0 ∨ q ≤ b
def BoxX.K (n0 Bx : Nat) (W W' : World) : Prop := Below n0 W W' ∧ W'.heap[Bx]? = W.heap[Bx]?
/-- All that is handed out: the last is wrong. -/
def BoxX.S (xs : List BoxX) : Prop := ∃ p x, xs = p ++ [x] ∧ x.er ≠ 0
/-- A part: if its last is wrong, the others are all boxes. -/
def BoxX.Sp (l : List UInt8) (xs : List BoxX) : Prop := ∃ p x, xs = p ++ [x] ∧ (x.er ≠ 0 → validL l = (p.map BoxX.bd, szs p))

set_option maxRecDepth 100000 in
set_option maxHeartbeats 3200000 in
theorem boxes_told (hN : BoxNextLaw) (A : Option Addr) (m c n0 Bx : Nat) (l : List UInt8) (w : World) (hm : Hid (l.length = m)) (hmc : m ≤ c) (hcm : c ≤ maxLen) (hm6 : m ≤ 65536) (hbs : Bs w n0 A l) (hn0 : n0 ≤ w.heap.size)
    (hB : Bk w Bx 22 [.slice A m c]) :
    SeqTold Fence.wide 3 Try.prog 34 #[.pointer (some ⟨Bx, 0, none⟩)] BoxX.encs (BoxX.G l n0) (BoxX.K n0 Bx) BoxX.S (BoxX.Sp l) w := by
  intro lp J Jx W hW hJ hJx hY h0
  have HN := Lib.hid hN
  have HB : Hid (Bk W Bx 22 [.slice A m c]) := hB.below hW hB.lt
  have HS : Hid (Bs W n0 A l) := hbs.below hW hn0
  have HN0 : Hid (n0 ≤ W.heap.size) := Nat.le_trans hn0 hW.size
  have HM := Lib.hid hm.out
  clear hN hB hbs hn0 hW hm
  refine callsIn_of_wp Try.func34 rfl trivial ?_ rfl
  simp only [Try.ntmps34, List.size_toArray, List.length_cons, List.length_nil, Nat.reduceAdd, Nat.reduceSub, Array.replicate_succ, Array.replicate_zero, List.push_toArray, List.append_toArray, List.nil_append, List.cons_append]
  gi_wp2
  gi_loopw [3, 4, 5] (fun kv ev _ wr => ∃ (k : Nat) (ne : Int) (pre : List BoxX), kv = .int .i64 (k : Int) ∧ ev = .int .i64 ne ∧ Hid (J wr.heap.size pre wr ∧ Bk wr Bx 22 [.slice A m c] ∧ Bs wr n0 A l ∧ n0 ≤ wr.heap.size ∧ (ne = 0 → k ≤ m ∧ szs pre = k ∧ validL l = (pre.map BoxX.bd ++ (validL (l.drop k)).1, k + (validL (l.drop k)).2)) ∧ (ne ≠ 0 → BoxX.S pre))) (fun kv ev _ _ => if intOf ev = 0 then m - (intOf kv).toNat + 1 else 0)
  case atStart => exact ⟨0, 0, [], rfl, rfl, h0, HB.out, HS.out, HN0.out, fun _ => ⟨Nat.zero_le _, rfl, by simp⟩, fun h => absurd rfl h⟩
  case round =>
    obtain ⟨k, ne, pre, rfl, rfl, HR⟩ := hrel
    by_cases hne : ne = 0
    · subst hne
      obtain ⟨hkm, hsz, hval⟩ := HR.out.2.2.2.2.1 rfl
      have c0 : wr.cell? ⟨Bx, 0, none⟩ = some (.slice A m c) := HR.out.2.1.cellAt 0 (show 0 < 1 by decide)
      have HX := Lib.hid (HN.out A m c l (k : Int) n0 wr (Lib.hid HM.out) hmc hcm HR.out.2.2.1 HR.out.2.2.2.1 hm6 (Go.WalkArith.wf_i64 (by omega)))
      unfold NextB at HX
      have hle : k ≤ l.length := by rw [HM.out]; exact hkm
      have hin := nextL_in hle
      obtain ⟨⟨nb, np, er⟩, hnx⟩ : ∃ x, nextL l (k : Int) = x := ⟨_, rfl⟩
      rw [hnx] at HX hin
      have hdl : (l.drop k).length = m - k := by rw [List.length_drop, HM.out]
      have HGood : Hid (er = 0 → np ≤ m ∧ k + (nb.length + 6) = np ∧ 0 < nb.length ∧ nb.length ≤ 4096 ∧ validL l = ((pre.map BoxX.bd ++ [nb]) ++ (validL (l.drop np)).1, np + (validL (l.drop np)).2)) := by
        intro h0
        by_cases he : (boxAt (l.drop k)).2.2 = 0
        · have hft := boxAt_fit he
          have hst := validL_step he
          rw [if_pos he] at hin
          rw [hdl] at hft
          obtain ⟨rfl, rfl, -⟩ : nb = _ ∧ np = _ ∧ er = _ := by simpa using hin
          refine ⟨by omega, by omega, by omega, by omega, ?_⟩
          rw [hval, hst, List.drop_drop]
          simp only [List.append_assoc, List.cons_append, List.nil_append, Nat.add_assoc]
        · rw [if_neg he] at hin
          obtain ⟨-, -, rfl⟩ : nb = _ ∧ np = _ ∧ er = _ := by simpa using hin
          exact absurd h0 he
      have HBad : Hid (er ≠ 0 → validL l = (pre.map BoxX.bd, szs pre)) := by
        intro h0
        by_cases he : (boxAt (l.drop k)).2.2 = 0
        · rw [if_pos he] at hin
          obtain ⟨-, -, rfl⟩ : nb = _ ∧ np = _ ∧ er = _ := by simpa using hin
          exact absurd rfl h0
        · rw [hval, validL_stop he, hsz]
          simp
      have HSZ := Lib.hid hsz
      clear hin hnx hdl hle hval hsz
      simp only at HX
      gi_wp2
      refine ⟨trivial, (callsIn_wide.2 HX.out).mono ?_⟩
      rintro e w1 ⟨A1, n1, c1, rfl, hn1, h11, h12, hbs1, hb1, hfr1⟩
      have HJ1 : Hid (J wr.heap.size pre w1) := hJ _ _ _ _ HR.out.1 hb1
      have HB1 := Lib.hid hb1
      have HG1 : Hid (BoxX.G l n0 wr.heap.size pre ⟨A1, n1, c1, nb, er⟩ w1) := by
        refine ⟨hn1, h11, h12, hbs1, fun h0 => ?_, hfr1⟩
        have h1 := HGood.out h0
        have h2 := HM.out
        have h3 := HSZ.out
        exact ⟨by show szs pre + (nb.length + 6) ≤ l.length; omega, h1.2.2.1, h1.2.2.2.1⟩
      obtain ⟨fn, tmps, assign, body, hy, hRR⟩ := hY _ pre ⟨A1, n1, c1, nb, er⟩ w1 HJ1.out HG1.out
      dsimp only [BoxX.encs] at hy
      clear hn1 h11 h12 hbs1 hb1 hfr1
      gi_wp2
      refine hRR.mono ?_
      rintro e W3 (⟨rfl, hJ3, hk3⟩ | ⟨rfl, hJ3⟩)
      · have HR3 : Hid (J W3.heap.size (pre ++ [⟨A1, n1, c1, nb, er⟩]) W3 ∧ Bk W3 Bx 22 [.slice A m c] ∧ Bs W3 n0 A l ∧ n0 ≤ W3.heap.size ∧ (er = 0 → np ≤ m ∧ szs (pre ++ [(⟨A1, n1, c1, nb, er⟩ : BoxX)]) = np ∧ validL l = ((pre ++ [(⟨A1, n1, c1, nb, er⟩ : BoxX)]).map BoxX.bd ++ (validL (l.drop np)).1, np + (validL (l.drop np)).2)) ∧ (er ≠ 0 → BoxX.S (pre ++ [(⟨A1, n1, c1, nb, er⟩ : BoxX)]))) := by
          have hb1 := HB1.out
          refine ⟨hJ3, hk3.2.trans (HR.out.2.1.below hb1 HR.out.2.1.lt), (HR.out.2.2.1.below hb1 HR.out.2.2.2.1).below hk3.1 (Nat.le_refl _), Nat.le_trans (Nat.le_trans HR.out.2.2.2.1 hb1.size) hk3.1.size, fun h0 => ?_, fun h0 => ⟨_, _, rfl, h0⟩⟩
          have h1 := HGood.out h0
          refine ⟨h1.1, ?_, ?_⟩
          · rw [szs_snoc, HSZ.out]; exact h1.2.1
          · rw [List.map_append]; exact h1.2.2.2.2
        clear hJ3 hk3 c0
        gi_wp2
        go_roundw
        case rel => exact ⟨np, er, _, rfl, rfl, HR3⟩
        case measure =>
          by_cases h0 : er = 0
          · have h1 := HGood.out h0
            simp [intOf, h0]
            omega
          · simp [intOf, h0]
      · clear c0
        gi_wp2
        refine bodyPost_ret (results_none rfl _ _ _) rfl ?_
        exact ⟨⟨_, rfl⟩, .inr ⟨_, ⟨pre, _, rfl, HBad.out⟩, hJ3⟩⟩
    · have g0 : (ne == 0) = false := by simpa using hne
      have HS : Hid (BoxX.S pre) := HR.out.2.2.2.2.2 hne
      clear hne
      gi_wp2
      go_end0
      exact ⟨⟨_, rfl⟩, .inl ⟨pre, _, HS.out, HR.out.1⟩⟩
end Go.Proofs.Ytoielghmgjdknaa
