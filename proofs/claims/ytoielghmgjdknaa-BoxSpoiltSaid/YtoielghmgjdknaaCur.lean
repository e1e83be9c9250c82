/-
  octet.Cursor: contracts of its parts.
-/
import Derived.Test.YtoielghmgjdknaaConcat
import Derived.Test.YtoielghmgjdknaaVal
import Derived.Test.YtoielghmgjdknaaOct1
namespace Go.Proofs.Ytoielghmgjdknaa
open Go.RowKit
set_option linter.unusedVariables false

/-- Block g is a cursor over l, at place k, with error e. -/
def Cur (w : World) (g : Nat) (l : List UInt8) (k e : Nat) : Prop :=
  ∃ A n c, Hid (l.length = n) ∧ w.heap[g]? = some (.cells #[.slice A n c, .int .i64 (k : Int), .int .i64 (e : Int)] 64 (0, 0)) ∧ Bs w g A l ∧ k ≤ n ∧ n ≤ c ∧ c ≤ 9223372036854775807

theorem cell_blk {w : World} {g : Nat} {cs : Array Value} {t : TypeId} (h : w.heap[g]? = some (.cells cs t (0, 0))) (i : Nat) : w.cell? ⟨g, i, none⟩ = cs[i]? := cell_of_row w g i cs t (0, 0) h
theorem frozen_blk {w : World} {g : Nat} {cs : Array Value} {t : TypeId} (h : w.heap[g]? = some (.cells cs t (0, 0))) (i : Nat) : w.frozen? ⟨g, i, none⟩ = false := by simp [World.frozen?, h]
theorem set_blk {w : World} {g : Nat} {cs : Array Value} {t : TypeId} (h : w.heap[g]? = some (.cells cs t (0, 0))) (i : Nat) (u : Value) :
    (w.setCell ⟨g, i, none⟩ u).heap[g]? = some (.cells (cs.setIfInBounds i u) t (0, 0)) := by simp [World.setCell, Array.getElem?_modify, h]
theorem grown_set (w : World) (g i : Nat) (u : Value) : w.grownBy (w.setCell ⟨g, i, none⟩ u) (some g) :=
  ⟨rfl, rfl, rfl, by simp [World.setCell], fun k _ hne => Below.heap_setCell w _ u k (fun e => hne (by rw [e]))⟩
theorem grown_drewN {a w : World} {row : Option Nat} (h : a.grownBy w row) (n : Nat) : a.grownBy (w.drewN n) row := ⟨h.os, h.tape, h.output, h.size, h.block⟩
theorem grown_trans {a b c : World} {row : Option Nat} (h : a.grownBy b row) (k : b.grownBy c row) : a.grownBy c row :=
  ⟨k.os.trans h.os, k.tape.trans h.tape, k.output.trans h.output, Nat.le_trans h.size k.size, fun i hi hne => (k.block i (Nat.lt_of_lt_of_le hi h.size) hne).trans (h.block i hi hne)⟩
theorem grown_below {a b c : World} {row : Option Nat} (h : a.grownBy b row) (k : Below b.heap.size b c) : a.grownBy c row :=
  ⟨k.os.trans h.os, k.tape.trans h.tape, k.output.trans h.output, Nat.le_trans h.size k.size, fun i hi hne => (k.block i (Nat.lt_of_lt_of_le hi h.size)).trans (h.block i hi hne)⟩
theorem grown_of_below {a b : World} (h : Below a.heap.size a b) (row : Option Nat) : a.grownBy b row := ⟨h.os, h.tape, h.output, h.size, fun i hi _ => h.block i hi⟩

section
variable {w w' : World} {g : Nat} {l : List UInt8} {k e : Nat}
theorem Cur.drewN (h : Cur w g l k e) (n : Nat) : Cur (w.drewN n) g l k e := h
theorem Cur.lt (h : Cur w g l k e) : g < w.heap.size := by
  obtain ⟨A, n, c, hn, hh, _⟩ := h
  exact (Array.getElem?_eq_some_iff.1 hh).1
theorem Cur.below {B : Nat} (h : Cur w g l k e) (hb : Below B w w') (hB : g < B) : Cur w' g l k e := by
  obtain ⟨A, n, c, hn, hh, hbs, r⟩ := h
  exact ⟨A, n, c, hn, (hb.block g hB).trans hh, hbs.below hb (by omega), r⟩
theorem Cur.setK (h : Cur w g l k e) (k' : Nat) (hk : k' ≤ l.length) : Cur (w.setCell ⟨g, 1, none⟩ (.int .i64 (k' : Int))) g l k' e := by
  obtain ⟨A, n, c, hn, hh, hbs, h1, h2⟩ := h
  exact ⟨A, n, c, hn, set_blk hh 1 _, Vs.keep hbs fun p hp => World.cell?_setCell_other w _ p _ (by rintro rfl; simp at hp), by rw [← hn.out]; exact hk, h2⟩
theorem Cur.setE (h : Cur w g l k e) (e' : Nat) : Cur (w.setCell ⟨g, 2, none⟩ (.int .i64 (e' : Int))) g l k e' := by
  obtain ⟨A, n, c, hn, hh, hbs, h1, h2⟩ := h
  exact ⟨A, n, c, hn, set_blk hh 2 _, Vs.keep hbs fun p hp => World.cell?_setCell_other w _ p _ (by rintro rfl; simp at hp), h1, h2⟩
end

set_option maxHeartbeats 400000 in
theorem err_nil (w : World) : Calls Try.prog 32 #[.pointer none] w fun x w' => x = .returned (.int .i64 1) ∧ w = w' := by
  go_enter Try.func32, Try.ntmps32
  go_wp2
  go_ret
  exact ⟨rfl, rfl⟩
set_option maxHeartbeats 400000 in
theorem err_any {w : World} {g : Nat} {l : List UInt8} {k e : Nat} (h : Cur w g l k e) :
    Calls Try.prog 32 #[.pointer (some ⟨g, 0, none⟩)] w fun x w' => x = .returned (.int .i64 (e : Int)) ∧ w = w' := by
  obtain ⟨A, n, c, hn, hh, hbs, h1, h2⟩ := h
  have c2 : w.cell? ⟨g, 2, none⟩ = some (.int .i64 (e : Int)) := cell_blk hh 2
  clear hh hbs
  go_enter Try.func32, Try.ntmps32
  go_wp2
  go_ret
  exact ⟨rfl, rfl⟩
set_option maxHeartbeats 400000 in
theorem left_nil (w : World) : Calls Try.prog 39 #[.pointer none] w fun x w' => x = .returned (.int .i64 0) ∧ ∃ m, w' = w.drewN m := by
  go_enter Try.func39, Try.ntmps39
  go_wp2
  go_ret
  exact ⟨rfl, 0, rfl⟩
set_option maxHeartbeats 400000 in
theorem left_any {w : World} {g : Nat} {l : List UInt8} {k e : Nat} (h : Cur w g l k e) :
    Calls Try.prog 39 #[.pointer (some ⟨g, 0, none⟩)] w fun x w' => x = .returned (.int .i64 ((l.length - k : Nat) : Int)) ∧ ∃ m, w' = w.drewN m := by
  obtain ⟨A, n, c, hn, hh, hbs, h1, h2, h3⟩ := h
  have c0 : w.cell? ⟨g, 0, none⟩ = some (.slice A n c) := cell_blk hh 0
  have c1 : w.cell? ⟨g, 1, none⟩ = some (.int .i64 (k : Int)) := cell_blk hh 1
  rw [hn.out]
  clear hh hbs
  go_enter Try.func39, Try.ntmps39
  go_wp2
  go_quiet (fail)
  go_wp2
  go_ret
  exact ⟨by go_num, nq, rfl⟩

/-- What take tells, and leaves: the bytes, the place, the error. -/
def takeF (l : List UInt8) (k e : Nat) (n : Int) : List UInt8 × Nat × Nat :=
  if e ≠ 0 ∨ n ≤ 0 then ([], k, e) else if ((l.length - k : Nat) : Int) < n then ([], k, 1) else ((l.drop k).take n.toNat, k + n.toNat, 0)

/-- A cursor's answer of bytes. -/
def Took (w : World) (g : Nat) (l : List UInt8) (r : List UInt8 × Nat × Nat) (x : Ending) (w' : World) : Prop :=
  ∃ A m c, x = .returned (.slice A m c) ∧ Hid (r.1.length = m) ∧ Bs w' g A r.1 ∧ Cur w' g l r.2.1 r.2.2 ∧ w.grownBy w' (some g) ∧ w.heap.size = w'.heap.size

set_option maxHeartbeats 800000 in
theorem take_any {w : World} {g : Nat} {l : List UInt8} {k e : Nat} (n : Int) (h : Cur w g l k e) (hn2 : n ≤ 9223372036854775807) :
    Calls Try.prog 37 #[.pointer (some ⟨g, 0, none⟩), .int .i64 n] w (Took w g l (takeF l k e n)) := by
  by_cases h0 : e ≠ 0 ∨ n ≤ 0
  · have HF : Hid (takeF l k e n = ([], k, e)) := by show _ = _; simp [takeF, h0]
    by_cases he : e = 0
    · subst he
      have hle : n ≤ 0 := by omega
      clear h0
      go_enter Try.func37, Try.ntmps37
      go_wp2_with fail
      refine (err_any h).mono ?_
      rintro x w' ⟨rfl, rfl⟩
      go_wp2_with fail
      go_ret
      rw [HF.out]
      exact ⟨none, 0, 0, rfl, Lib.hid rfl, Bs.nil _ _ _, h, World.grownBy.refl _ _, rfl⟩
    · have hb : ((e : Int) != 0) = true := by simpa using he
      clear h0 he
      go_enter Try.func37, Try.ntmps37
      go_wp2_with fail
      refine (err_any h).mono ?_
      rintro x w' ⟨rfl, rfl⟩
      go_wp2_with fail
      go_ret
      rw [HF.out]
      exact ⟨none, 0, 0, rfl, Lib.hid rfl, Bs.nil _ _ _, h, World.grownBy.refl _ _, rfl⟩
  · obtain ⟨rfl, hpos⟩ : e = 0 ∧ 0 < n := by omega
    obtain ⟨m, rfl⟩ : ∃ m : Nat, n = m := ⟨n.toNat, by omega⟩
    by_cases hlt : l.length - k < m
    · have HF : Hid (takeF l k 0 m = ([], k, 1)) := by show _ = _; unfold takeF; rw [if_neg (by omega), if_pos (by omega)]
      clear h0
      obtain ⟨q, hq⟩ : ∃ q, l.length - k = q := ⟨_, rfl⟩
      have HQ := Lib.hid hq
      have hlt' : ((q : Nat) : Int) < (m : Int) := by omega
      have hh := h
      obtain ⟨A, n, c, hn, hblk, hbs, h1, h2, h3⟩ := hh
      have c2 : w.cell? ⟨g, 2, none⟩ = some (.int .i64 0) := cell_blk hblk 2
      have z2 := frozen_blk hblk 2
      clear hblk hbs hlt hq
      go_enter Try.func37, Try.ntmps37
      go_wp2_with fail
      refine (err_any h).mono ?_
      rintro x w' ⟨rfl, rfl⟩
      go_wp2_with fail
      refine (left_any h).mono ?_
      rintro x w' ⟨rfl, nq, rfl⟩
      rw [HQ.out]
      go_wp2_with fail
      go_ret
      rw [HF.out]
      exact ⟨none, 0, 0, rfl, Lib.hid rfl, Bs.nil _ _ _, (h.drewN nq).setE 1, grown_trans (grown_drewN (World.grownBy.refl _ _) nq) (grown_set _ _ _ _), by simp [World.setCell]⟩
    · have HF : Hid (takeF l k 0 m = ((l.drop k).take m, k + m, 0)) := by show _ = _; unfold takeF; rw [if_neg (by omega), if_neg (by omega), Int.toNat_natCast]
      clear h0
      obtain ⟨q, hq⟩ : ∃ q, l.length - k = q := ⟨_, rfl⟩
      have HQ := Lib.hid hq
      have hlt' : ¬ ((q : Nat) : Int) < (m : Int) := by omega
      have hh := h
      obtain ⟨A, n, c, hn, hblk, hbs, h1, h2, h3⟩ := hh
      have c0 : w.cell? ⟨g, 0, none⟩ = some (.slice A n c) := cell_blk hblk 0
      have c1 : w.cell? ⟨g, 1, none⟩ = some (.int .i64 (k : Int)) := cell_blk hblk 1
      have z1 := frozen_blk hblk 1
      have hkm : k + m ≤ n := by have := hn.out; omega
      obtain ⟨b, o, rfl, -, -⟩ := hbs.at_ (by have := hn.out; omega)
      have ht := (hbs.drop k rfl).take m
      have HM : Hid (((l.drop k).take m).length = m) := by have := hn.out; show _ = _; simp; omega
      clear hblk hlt hq
      go_enter Try.func37, Try.ntmps37
      go_wp2_with fail
      refine (err_any h).mono ?_
      rintro x w' ⟨rfl, rfl⟩
      go_wp2_with fail
      refine (left_any h).mono ?_
      rintro x w' ⟨rfl, nq, rfl⟩
      rw [HQ.out]
      go_wp2_with fail
      go_quiet (fail)
      go_wp2
      go_ret
      rw [HF.out]
      refine ⟨some ⟨b, o + k, none⟩, k + m - k, c - k, rfl, Lib.hid (by rw [HM.out]; omega), Vs.keep ht fun p hp => ?_, ?_, grown_trans (grown_drewN (World.grownBy.refl _ _) _) (grown_set _ _ _ _), by simp [World.setCell]⟩
      · rw [World.cell?_setCell_other _ _ _ _ (by rintro rfl; simp at hp)]
        rfl
      · exact (h.drewN _).setK (k + m) (by have := hn.out; omega)
end Go.Proofs.Ytoielghmgjdknaa
