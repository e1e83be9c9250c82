/-
  rec.Decode, over rec.Has and rec.Check.
-/
import Derived.Test.YtolpggmcjengcaaDoorRcB
import Derived.Test.YtolpggmcjengcaaDoorCur3
import Derived.Test.YtolpggmcjengcaaDoorLRecEncodes
import Derived.Test.YtolpggmcjengcaaDoorResR
import Derived.Deep.RegionLaw
namespace Go.Proofs.YtolpggmcjengcaaDoor
open Go.RowKit
set_option linter.unusedVariables false

theorem Cur.far {w w' : World} {g g7 : Nat} {l : List UInt8} {k e : Nat} (h : Cur w g l k e) (hg : w.grownBy w' (some g7)) (hlt : g < g7) : Cur w' g l k e := by
  have hl := h.lt
  obtain ⟨A, n, c, hn, hh, hbs, h1⟩ := h
  exact ⟨A, n, c, hn, (hg.block g hl (fun e => by cases e; omega)).trans hh, Vs.grown hbs hg (Nat.le_of_lt hl) (fun k hk => by cases hk; omega), h1⟩
theorem num1_any {w : World} {g : Nat} {l : List UInt8} {k e : Nat} (h : Cur w g l k e) : Calls Tryd.prog 39 #[.pointer (some ⟨g, 0, none⟩), .int .i64 1] w fun x w' =>
    x = .returned (.int .u64 ((leV (takeF l k e 1).1 : Nat) : Int)) ∧ Cur w' g l (takeF l k e 1).2.1 (takeF l k e 1).2.2 ∧ w.grownBy w' (some g) ∧ w.heap.size = w'.heap.size := cnumber_any 1 h
theorem num8_any {w : World} {g : Nat} {l : List UInt8} {k e : Nat} (h : Cur w g l k e) : Calls Tryd.prog 39 #[.pointer (some ⟨g, 0, none⟩), .int .i64 8] w fun x w' =>
    x = .returned (.int .u64 ((leV (takeF l k e 8).1 : Nat) : Int)) ∧ Cur w' g l (takeF l k e 8).2.1 (takeF l k e 8).2.2 ∧ w.grownBy w' (some g) ∧ w.heap.size = w'.heap.size := cnumber_any 8 h


/-- What a cursor's record is from its place on, once its kind is known. -/
def readK (kind : Int) (l : List UInt8) (k e : Nat) : RecV × Nat :=
  let s := takeF l k e 8
  let t := textF l s.2.1 s.2.2 1 16
  let x := mayF (hasLe kind) l t.2.1 t.2.2
  let y := mayF (hasNu kind) l x.2.1 x.2.2
  let z := mayF (hasBi kind) l y.2.1 y.2.2
  (⟨leV s.1, kind, ⟨t.1.toArray⟩, leV x.1, leV y.1, leV z.1⟩, doneE l z.2.1 z.2.2)
/-- What read answers. -/
def readC (l : List UInt8) : RecV × Int :=
  let s := takeF l 0 0 1
  if s.2.2 = 0 ∧ kindR (leV s.1 : Int) = false then (⟨0, leV s.1, ⟨#[]⟩, 0, 0, 0⟩, 5) else ((readK (leV s.1 : Int) l s.2.1 s.2.2).1, ((readK (leV s.1 : Int) l s.2.1 s.2.2).2 : Int))

theorem grown_far {w V V' : World} {gc x : Nat} (h : w.grownBy V (some gc)) (hg : V.grownBy V' (some x)) (hx : w.heap.size ≤ x) : w.grownBy V' (some gc) :=
  ⟨hg.os.trans h.os, hg.tape.trans h.tape, hg.output.trans h.output, Nat.le_trans h.size hg.size, fun k hk hne => (hg.block k (Nat.lt_of_lt_of_le hk h.size) (fun e => by cases e; omega)).trans (h.block k hk hne)⟩

/-- How things stand while a record is read. -/
def RdAt (w : World) (gc gb g2 h : Nat) (l : List UInt8) (r : RecV) (k e : Nat) (V : World) : Prop :=
  Bk V gb 51 [.pointer (some ⟨gc, 0, none⟩)] ∧ Bk V g2 24 [.int .u64 0, .int .i64 0, .string ⟨#[]⟩, .int .u64 0, .int .u64 0, .int .u64 0] ∧ Bk V h 24 r.cells ∧ Cur V gc l k e ∧ w.grownBy V (some gc) ∧ gc < gb ∧ gb < g2 ∧ g2 < h ∧ w.heap.size ≤ gb
section
variable {w V V' : World} {gc gb g2 h : Nat} {l : List UInt8} {r r' : RecV} {k e k' e' : Nat}
theorem RdAt.below (H : RdAt w gc gb g2 h l r k e V) (hb : Below V.heap.size V V') : RdAt w gc gb g2 h l r k e V' := by
  obtain ⟨h1, h2, h3, h4, h5, h6⟩ := H
  exact ⟨h1.below hb h1.lt, h2.below hb h2.lt, h3.below hb h3.lt, h4.below hb h4.lt, grown_below h5 hb, h6⟩
theorem RdAt.cur (H : RdAt w gc gb g2 h l r k e V) (hc : Cur V' gc l k' e') (hg : V.grownBy V' (some gc)) : RdAt w gc gb g2 h l r k' e' V' := by
  obtain ⟨h1, h2, h3, h4, h5, h6, h7, h8, h9⟩ := H
  exact ⟨h1.grown hg (fun e => by cases e; omega), h2.grown hg (fun e => by cases e; omega), h3.grown hg (fun e => by cases e; omega), hc, grown_trans h5 hg, h6, h7, h8, h9⟩
theorem RdAt.fld (H : RdAt w gc gb g2 h l r k e V) (i : Nat) (u : Value) (hr : r'.cells = r.cells.set i u) : RdAt w gc gb g2 h l r' k e (V.setCell ⟨h, i, none⟩ u) := by
  obtain ⟨h1, h2, h3, h4, h5, h6, h7, h8, h9⟩ := H
  have hg : V.grownBy (V.setCell ⟨h, i, none⟩ u) (some h) := grown_set _ _ _ _
  exact ⟨h1.grown hg (fun e => by cases e; omega), h2.grown hg (fun e => by cases e; omega), by rw [hr]; exact h3.set_ i u, h4.far hg (by omega), grown_far h5 hg (by omega), h6, h7, h8, h9⟩
end

set_option maxRecDepth 100000 in
set_option maxHeartbeats 1600000 in
/-- The closure that reads one field. -/
theorem readPut_any {w V : World} {gc gb g2 h : Nat} {l : List UInt8} {r r' : RecV} {k e : Nat} (o : Nat) (is : Bool) (hR : RdAt w gc gb g2 h l r k e V) (ho : o < 6)
    (hr : r'.cells = if is then r.cells.set o (.int .u64 ((leV (takeF l k e 8).1 : Nat) : Int)) else r.cells) :
    Calls Tryd.prog 42 #[.pointer (some ⟨h, o, none⟩), .bool is, .pointer (some ⟨gb, 0, none⟩)] V fun x V' => x = .returned (.tuple #[]) ∧ RdAt w gc gb g2 h l r' (mayF is l k e).2.1 (mayF is l k e).2.2 V' := by
  have HR := Lib.hid hR
  cases is with
  | false =>
    have HE : Hid (RdAt w gc gb g2 h l r' (mayF false l k e).2.1 (mayF false l k e).2.2 V) := by
      obtain ⟨h1, h2, h3, h4⟩ := hR
      exact ⟨h1, h2, by rw [hr]; exact h3, h4⟩
    clear hR hr
    go_enter Tryd.func42, Tryd.ntmps42
    go_wp2_with fail
    (first | go_end0 | (refine bodyPost_ret (results_none rfl _ _ _) rfl ?_))
    exact ⟨rfl, HE.out⟩
  | true =>
    have c0 : V.cell? ⟨gb, 0, none⟩ = some (.pointer (some ⟨gc, 0, none⟩)) := hR.1.cellAt 0 (show 0 < 1 by decide)
    have HN := Lib.hid (num8_any hR.2.2.2.1)
    have HRR := Lib.hid hr
    have HO := Lib.hid ho
    clear hR hr ho
    go_enter Tryd.func42, Tryd.ntmps42
    go_wp2_with fail
    refine HN.out.mono ?_
    rintro x w1 ⟨rfl, hc1, hg1, hs1⟩
    have h1 := HR.out.cur hc1 hg1
    have c1 : w1.cell? ⟨h, o, none⟩ = some r.cells[o] := h1.2.2.1.cellAt o HO.out
    have z1 : w1.frozen? ⟨h, o, none⟩ = false := h1.2.2.1.frozen o
    have HE : Hid (RdAt w gc gb g2 h l r' (mayF true l k e).2.1 (mayF true l k e).2.2 (w1.setCell ⟨h, o, none⟩ (.int .u64 ((leV (takeF l k e 8).1 : Nat) : Int)))) := h1.fld o _ HRR.out
    clear hc1 hg1 hs1 c0 h1
    go_wp2_with fail
    (first | go_end0 | (refine bodyPost_ret (results_none rfl _ _ _) rfl ?_))
    exact ⟨rfl, HE.out⟩

theorem RdAt.six {w V : World} {gc gb g2 h : Nat} {l : List UInt8} {r : RecV} {k e : Nat} (H : RdAt w gc gb g2 h l r k e V) :
    V.cell? ⟨gb, 0, none⟩ = some (.pointer (some ⟨gc, 0, none⟩)) ∧ V.cell? ⟨h, 0, none⟩ = some (.int .u64 (r.seq : Int)) ∧ V.cell? ⟨h, 1, none⟩ = some (.int .i64 r.kind) ∧ V.cell? ⟨h, 2, none⟩ = some (.string r.name) ∧
    V.cell? ⟨h, 3, none⟩ = some (.int .u64 (r.lease : Int)) ∧ V.cell? ⟨h, 4, none⟩ = some (.int .u64 (r.n : Int)) ∧ V.cell? ⟨h, 5, none⟩ = some (.int .u64 (r.bits : Int)) :=
  ⟨H.1.cellAt 0 (show 0 < 1 by decide), Go.Proofs.YtolpggmcjengcaaDoor.six H.2.2.1⟩
theorem RdAt.rest {w V : World} {gc gb g2 h : Nat} {l : List UInt8} {r : RecV} {k e : Nat} (H : RdAt w gc gb g2 h l r k e V) (i : Nat) : V.frozen? ⟨h, i, none⟩ = false := H.2.2.1.frozen i
theorem may_leV (is : Bool) (l : List UInt8) (k e : Nat) : (if is then (leV (takeF l k e 8).1 : Int) else 0) = (leV (mayF is l k e).1 : Int) := by cases is <;> rfl

set_option maxRecDepth 100000 in
set_option maxHeartbeats 6400000 in
theorem read_any (hH : HasLaw) {w : World} {gc : Nat} {l : List UInt8} (hl : l.length ≤ 65536) (hc : Cur w gc l 0 0) :
    Calls Tryd.prog 26 #[.pointer (some ⟨gc, 0, none⟩)] w fun e w' => e = .returned (.tuple #[(readC l).1.val, .int .i64 (readC l).2]) ∧ w.grownBy w' (some gc) := by
  have hgc := hc.lt
  obtain ⟨wb, hwb⟩ : ∃ wb, w.alloc (.cells #[.pointer (some ⟨gc, 0, none⟩)] 51) = wb := ⟨_, rfl⟩
  have hKB : Bk wb w.heap.size 51 [.pointer (some ⟨gc, 0, none⟩)] := by rw [← hwb]; exact Bk.new w _ _
  have hbb : Below w.heap.size w wb := by rw [← hwb]; exact (Below.refl _ w).alloc (Nat.le_refl _) _
  obtain ⟨gb, hgb⟩ : ∃ gb, w.heap.size = gb := ⟨_, rfl⟩
  obtain ⟨g2, hg2⟩ : ∃ g2, wb.heap.size = g2 := ⟨_, rfl⟩
  obtain ⟨wz, hwz⟩ : ∃ wz, wb.alloc (.cells #[.int .u64 0, .int .i64 0, .string ⟨#[]⟩, .int .u64 0, .int .u64 0, .int .u64 0] 24) = wz := ⟨_, rfl⟩
  have hKZ : Bk wz g2 24 [.int .u64 0, .int .i64 0, .string ⟨#[]⟩, .int .u64 0, .int .u64 0, .int .u64 0] := by rw [← hwz, ← hg2]; exact Bk.new wb _ _
  have hbz : Below wb.heap.size wb wz := by rw [← hwz]; exact (Below.refl _ wb).alloc (Nat.le_refl _) _
  have hlt2 : gb < g2 := by rw [← hg2, ← hgb]; exact hKB.lt
  have hZ : Bk wz gb 51 [.pointer (some ⟨gc, 0, none⟩)] := by rw [← hgb]; exact hKB.below hbz hKB.lt
  have hcz : Cur wz gc l 0 0 := (hc.below hbb hc.lt).below hbz (by have := hbb.size; omega)
  have hgz : w.grownBy wz (some gc) := grown_below (grown_of_below hbb _) hbz
  have c0 : wz.cell? ⟨gb, 0, none⟩ = some (.pointer (some ⟨gc, 0, none⟩)) := hZ.cellAt 0 (show 0 < 1 by decide)
  have HN := Lib.hid (num1_any hcz)
  obtain ⟨s1, k1, e1, hs⟩ : ∃ s1 k1 e1, takeF l 0 0 1 = (s1, k1, e1) := ⟨_, _, _, rfl⟩
  obtain ⟨q, hq⟩ : ∃ q, leV s1 = q := ⟨_, rfl⟩
  have hrc : readC l = (if e1 = 0 ∧ kindR (q : Int) = false then (⟨0, q, ⟨#[]⟩, 0, 0, 0⟩, 5) else ((readK (q : Int) l k1 e1).1, ((readK (q : Int) l k1 e1).2 : Int))) := by
    unfold readC; simp only [hs, hq]
  have hq8 : q < 256 := by
    cases l with
    | nil => cases hs; subst hq; decide
    | cons c t =>
      cases hs
      have := c.toNat_lt
      rw [← hq]
      show leV [c] < 256
      simpa [leV] using this
  rw [hs] at HN
  simp only at HN
  rw [hq] at HN
  have hcv : IntKind.i64.wrap (q : Int) = (q : Int) := by rw [IntKind.wrap_i64]; omega
  have HQ := Lib.hid hq8
  have HW := Lib.hid (And.intro hgc (And.intro hgb (And.intro hlt2 (And.intro hZ (And.intro hKZ hgz)))))
  have HRC := Lib.hid hrc
  have HHAS := Lib.hid hH
  clear hH hs hq hrc hq8 hZ hKZ hgz hcz hlt2 hbz hKB hbb hc hgc hl
  go_enter Tryd.func26, Tryd.ntmps26
  have hmf : ∀ (fn : Fn) (first cap : Array Value) (w : World), (Instr.makeFunc fn first cap).run Tryd.prog w = .ok (.func fn first cap) w := fun _ _ _ _ => rfl
  go_wp2_with fail
  refine HN.out.mono ?_
  rintro e w1 ⟨rfl, hc1, hg1, hs1⟩
  obtain ⟨h, hh⟩ : ∃ h, w1.heap.size = h := ⟨_, rfl⟩
  obtain ⟨wr, hwr⟩ : ∃ wr, w1.alloc (.cells #[.int .u64 0, .int .i64 0, .string ⟨#[]⟩, .int .u64 0, .int .u64 0, .int .u64 0] 24) = wr := ⟨_, rfl⟩
  have hR0 : RdAt w gc gb g2 h l zeroR k1 e1 wr := by
    obtain ⟨x1, x2, x3, x4, x5, x6⟩ := HW.out
    have y1 := x4.grown hg1 (fun e => by cases e; omega)
    have y2 := x5.grown hg1 (fun e => by cases e; omega)
    have hbr : Below w1.heap.size w1 wr := by rw [← hwr]; exact (Below.refl _ w1).alloc (Nat.le_refl _) _
    exact ⟨y1.below hbr y1.lt, y2.below hbr y2.lt, by rw [← hwr, ← hh]; exact Bk.new w1 _ _, hc1.below hbr hc1.lt, grown_below (grown_trans x6 hg1) hbr, by omega, x3, by rw [← hh]; exact y2.lt, by omega⟩
  have HR0 := Lib.hid hR0
  have HKR : Hid (Bk wr h 24 [.int .u64 0, .int .i64 0, .string ⟨#[]⟩, .int .u64 0, .int .u64 0, .int .u64 0]) := hR0.2.2.1
  clear hR0 hc1 hg1 hs1 c0
  go_wp2_with (first | (refine rec_store (by rfl) (.tmp 4) (.tmp 8) (by rfl) ⟨0, q, ⟨#[]⟩, 0, 0, 0⟩ (by rfl) HKR.out (by rfl) ?_; intro w2 hK2 hg2 hs2; have hR2 : RdAt w gc gb g2 h l ⟨0, q, ⟨#[]⟩, 0, 0, 0⟩ k1 e1 w2 := ⟨HR0.out.1.grown hg2 (fun e => by cases e; have := HR0.out.2.2.2.2.2; omega), HR0.out.2.1.grown hg2 (fun e => by cases e; have := HR0.out.2.2.2.2.2; omega), hK2, HR0.out.2.2.2.1.far hg2 (by have := HR0.out.2.2.2.2.2; omega), grown_far HR0.out.2.2.2.2.1 hg2 (by have := HR0.out.2.2.2.2.2; omega), HR0.out.2.2.2.2.2⟩; have HR2 := Lib.hid hR2; obtain ⟨z0, y0, y1, y2, y3, y4, y5⟩ := hR2.six; have HER := Lib.hid (err_any hR2.2.2.2.1); clear hK2 hg2 hs2 hR2))
  refine HER.out.mono ?_
  rintro e w3 ⟨rfl, rfl⟩
  have HWQ : Hid ((Lit.int .i64 (q : Int)).wf = true) := Go.WalkArith.wf_i64 (by have := HQ.out; omega)
  by_cases hbad : e1 = 0 ∧ kindR (q : Int) = false
  · obtain ⟨rfl, hk⟩ := hbad
    have HIK := Lib.hid (isKind_any (q : Int) w2)
    rw [hk] at HIK
    have HF : Hid (readC l = (⟨0, q, ⟨#[]⟩, 0, 0, 0⟩, 5)) := by show _ = _; rw [HRC.out, if_pos ⟨rfl, hk⟩]
    clear hk HRC
    go_wp2_with fail
    refine HIK.out.mono ?_
    rintro e w4 ⟨rfl, rfl⟩
    have HK2 : Hid (Bk w2 g2 24 [.int .u64 0, .int .i64 0, .string ⟨#[]⟩, .int .u64 0, .int .u64 0, .int .u64 0]) := HR2.out.2.1
    have HLT : Hid (w.heap.size ≤ g2) := by have := HR2.out.2.2.2.2.2; show _ ≤ _; omega
    have HG2 : Hid (w.grownBy w2 (some gc)) := HR2.out.2.2.2.2.1
    go_wp2_with (first | (refine rec_store (by rfl) (.tmp 2) (.tmp 18) (by rfl) ⟨0, q, ⟨#[]⟩, 0, 0, 0⟩ (by rfl) HK2.out (by rfl) ?_; intro w5 hK5 hg5 hs5; have HK5 : Hid (Bk w5 g2 24 [.int .u64 0, .int .i64 (q : Int), .string ⟨#[]⟩, .int .u64 0, .int .u64 0, .int .u64 0]) := Lib.hid hK5; have HG5 : Hid (w.grownBy w5 (some gc)) := grown_far HG2.out hg5 HLT.out; clear hK5 hg5 hs5))
    refine bodyPost_ret (result_rec (n := 6) Tryd.underlying24 (by kernel_rfl) rfl _ HK5.out rfl rfl) rfl ?_
    exact ⟨by rw [HF.out]; rfl, HG5.out⟩
  · have HF : Hid (readC l = ((readK (q : Int) l k1 e1).1, ((readK (q : Int) l k1 e1).2 : Int))) := by show _ = _; rw [HRC.out, if_neg hbad]
    have HIK : Hid (e1 = 0 → Calls Tryd.prog 15 #[.int .i64 (q : Int)] w2 fun e w' => e = .returned (.bool true) ∧ w2 = w') := fun h0 => by
      have := isKind_any (q : Int) w2
      cases hk : kindR (q : Int) with
      | false => exact absurd ⟨h0, hk⟩ hbad
      | true => rwa [hk] at this
    have hcase : e1 = 0 ∨ ((e1 : Int) == 0) = false := by
      by_cases h0 : e1 = 0
      · exact .inl h0
      · exact .inr (by rw [beq_eq_false_iff_ne]; omega)
    obtain ⟨S, hS⟩ : ∃ S, takeF l k1 e1 8 = S := ⟨_, rfl⟩
    obtain ⟨T, hT⟩ : ∃ T, textF l S.2.1 S.2.2 1 16 = T := ⟨_, rfl⟩
    obtain ⟨X, hX⟩ : ∃ X, mayF (hasLe (q : Int)) l T.2.1 T.2.2 = X := ⟨_, rfl⟩
    obtain ⟨Y, hY⟩ : ∃ Y, mayF (hasNu (q : Int)) l X.2.1 X.2.2 = Y := ⟨_, rfl⟩
    obtain ⟨U, hU⟩ : ∃ U, mayF (hasBi (q : Int)) l Y.2.1 Y.2.2 = U := ⟨_, rfl⟩
    have HRD : Hid (readK (q : Int) l k1 e1 = (⟨leV S.1, (q : Int), ⟨T.1.toArray⟩, leV X.1, leV Y.1, leV U.1⟩, doneE l U.2.1 U.2.2)) := by
      show _ = _
      unfold readK
      simp only [hS, hT, hX, hY, hU]
    rw [HRD.out] at HF
    have HT := Lib.hid hT
    have HXYU := Lib.hid (And.intro hX (And.intro hY hU))
    have HN8 := Lib.hid (num8_any HR2.out.2.2.2.1)
    rw [hS] at HN8
    clear hbad hS hT hX hY hU HRC HRD
    rcases hcase with rfl | g0 <;>
    · (try replace HIK := Lib.hid (HIK.out rfl))
      go_wp2_with fail
      try (refine HIK.out.mono ?_; rintro e w4 ⟨rfl, rfl⟩)
      try go_wp2_with fail
      refine HN8.out.mono ?_
      rintro e w5 ⟨rfl, hc5, hg5, hs5⟩
      have h5 := HR2.out.cur hc5 hg5
      clear z0 y0 y1 y2 y3 y4 y5 hc5 hg5 hs5
      obtain ⟨z0, y0, y1, y2, y3, y4, y5⟩ := h5.six
      have f0 : w5.frozen? ⟨h, 0, none⟩ = false := h5.rest 0
      obtain ⟨w6, hw6⟩ : ∃ w6, w5.setCell ⟨h, 0, none⟩ (.int .u64 (leV S.1 : Int)) = w6 := ⟨_, rfl⟩
      have h6 : RdAt w gc gb g2 h l ⟨leV S.1, q, ⟨#[]⟩, 0, 0, 0⟩ S.2.1 S.2.2 w6 := by rw [← hw6]; exact h5.fld 0 _ rfl
      have HR6 := Lib.hid h6
      have z06 := h6.six.1
      have HTX := Lib.hid (ctext_any 1 16 h6.2.2.2.1 (by decide) (by decide))
      rw [HT.out] at HTX
      clear h5 h6
      go_wp2_with fail
      refine HTX.out.mono ?_
      rintro e w7 ⟨rfl, hc7, hg7, hs7⟩
      have h7 := HR6.out.cur hc7 hg7
      clear z0 y0 y1 y2 y3 y4 y5 f0 z06 hc7 hg7 hs7
      obtain ⟨z0, y0, y1, y2, y3, y4, y5⟩ := h7.six
      have f2 : w7.frozen? ⟨h, 2, none⟩ = false := h7.rest 2
      obtain ⟨w8, hw8⟩ : ∃ w8, w7.setCell ⟨h, 2, none⟩ (.string ⟨T.1.toArray⟩) = w8 := ⟨_, rfl⟩
      have h8 : RdAt w gc gb g2 h l ⟨leV S.1, q, ⟨T.1.toArray⟩, 0, 0, 0⟩ T.2.1 T.2.2 w8 := by rw [← hw8]; exact h7.fld 2 _ rfl
      have HR8 := Lib.hid h8
      have HE : Hid (Calls Tryd.prog 24 #[.pointer (some ⟨h, 0, none⟩), .func (.func 42) #[] #[.pointer (some ⟨gb, 0, none⟩)]] w8 fun e V => e = .returned (.tuple #[]) ∧ RdAt w gc gb g2 h l ⟨leV S.1, q, ⟨T.1.toArray⟩, leV X.1, leV Y.1, leV U.1⟩ U.2.1 U.2.2 V) := by
        obtain ⟨hX, hY, hU⟩ := HXYU.out
        subst hX
        refine each_any HHAS.out 42 (enters_of Tryd.func42 (by kernel_rfl) rfl) h (some ⟨gb, 0, none⟩) (q : Int) w8 HWQ.out h8.six.2.2.1
          (fun V => RdAt w gc gb g2 h l ⟨leV S.1, q, ⟨T.1.toArray⟩, 0, 0, 0⟩ T.2.1 T.2.2 V) (fun V => RdAt w gc gb g2 h l ⟨leV S.1, q, ⟨T.1.toArray⟩, leV (mayF (hasLe (q : Int)) l T.2.1 T.2.2).1, 0, 0⟩ _ _ V)
          (fun V => RdAt w gc gb g2 h l ⟨leV S.1, q, ⟨T.1.toArray⟩, leV (mayF (hasLe (q : Int)) l T.2.1 T.2.2).1, leV Y.1, 0⟩ Y.2.1 Y.2.2 V) _ (fun V hV => h8.below hV) (fun V hV => readPut_any 3 _ hV (by decide) ?_) (fun V hV => ?_) (fun V hV => ?_)
        · cases hasLe (q : Int) <;> rfl
        · rw [← hY]
          exact readPut_any 4 _ hV (by decide) (by cases hasNu (q : Int) <;> rfl)
        · rw [← hU]
          exact readPut_any 5 _ hV (by decide) (by cases hasBi (q : Int) <;> rfl)
      clear h7 h8
      go_wp2_with fail
      refine HE.out.mono ?_
      rintro e w9 ⟨rfl, h9⟩
      have HR9 := Lib.hid h9
      clear z0 y0 y1 y2 y3 y4 y5 f2 h9
      obtain ⟨z0, y0, y1, y2, y3, y4, y5⟩ := HR9.out.six
      have f0 := HR9.out.2.1.frozen 0
      have f1 := HR9.out.2.1.frozen 1
      have f2 := HR9.out.2.1.frozen 2
      have f3 := HR9.out.2.1.frozen 3
      have f4 := HR9.out.2.1.frozen 4
      have f5 := HR9.out.2.1.frozen 5
      obtain ⟨x0, x1, x2, x3, x4, x5⟩ := six HR9.out.2.1
      have HD : Hid (Calls Tryd.prog 43 #[.pointer (some ⟨gc, 0, none⟩)] w9.drew fun x w' => x = .returned (.int .i64 (doneE l U.2.1 U.2.2 : Int)) ∧ ∃ m, w' = w9.drewN m) := (done_any (HR9.out.2.2.2.1.drewN 1)).mono fun _ _ ⟨he, m, hm⟩ => ⟨he, 1 + m, by rw [hm]; simp⟩
      have HFIN : Hid (∀ m, Bk (((((((w9.drewN m).setCell ⟨g2, 0, none⟩ (.int .u64 (leV S.1 : Int))).setCell ⟨g2, 1, none⟩ (.int .i64 (q : Int))).setCell ⟨g2, 2, none⟩ (.string ⟨T.1.toArray⟩)).setCell ⟨g2, 3, none⟩ (.int .u64 (leV X.1 : Int))).setCell ⟨g2, 4, none⟩ (.int .u64 (leV Y.1 : Int))).setCell ⟨g2, 5, none⟩ (.int .u64 (leV U.1 : Int))) g2 24 [.int .u64 (leV S.1 : Int), .int .i64 (q : Int), .string ⟨T.1.toArray⟩, .int .u64 (leV X.1 : Int), .int .u64 (leV Y.1 : Int), .int .u64 (leV U.1 : Int)] ∧ w.grownBy (((((((w9.drewN m).setCell ⟨g2, 0, none⟩ (.int .u64 (leV S.1 : Int))).setCell ⟨g2, 1, none⟩ (.int .i64 (q : Int))).setCell ⟨g2, 2, none⟩ (.string ⟨T.1.toArray⟩)).setCell ⟨g2, 3, none⟩ (.int .u64 (leV X.1 : Int))).setCell ⟨g2, 4, none⟩ (.int .u64 (leV Y.1 : Int))).setCell ⟨g2, 5, none⟩ (.int .u64 (leV U.1 : Int))) (some gc)) := fun m => by
        have hlt : w.heap.size ≤ g2 := by have := HR9.out.2.2.2.2.2; omega
        exact ⟨((((((HR9.out.2.1.drewN m).set_ 0 _).set_ 1 _).set_ 2 _).set_ 3 _).set_ 4 _).set_ 5 _,
          grown_far (grown_far (grown_far (grown_far (grown_far (grown_far (grown_drewN HR9.out.2.2.2.2.1 m) (grown_set _ _ _ _) hlt) (grown_set _ _ _ _) hlt) (grown_set _ _ _ _) hlt) (grown_set _ _ _ _) hlt) (grown_set _ _ _ _) hlt) (grown_set _ _ _ _) hlt⟩
      obtain ⟨d, hd⟩ : ∃ d, doneE l U.2.1 U.2.2 = d := ⟨_, rfl⟩
      rw [hd] at HD HF
      clear hd
      try go_wp2_with fail
      go_region_with (first | (go_at_call 43; (with_reducible refine HD.out.mono ?_); rintro e w10 ⟨rfl, m10, rfl⟩))
      all_goals
        (try go_wp2_with fail)
        refine bodyPost_ret (result_rec (n := 6) Tryd.underlying24 (by kernel_rfl) rfl _ (HFIN.out m10).1 rfl rfl) rfl ?_
        exact ⟨by rw [HF.out]; rfl, (HFIN.out m10).2⟩

theorem readC_kind {c : UInt8} {t : List UInt8} (h : kindR (c.toNat : Int) = false) : (readC (c :: t)).2 = 5 := by
  have hx : leV (takeF (c :: t) 0 0 1).1 = c.toNat := by
    show leV [c] = c.toNat
    simp [leV]
  unfold readC
  simp only [hx]
  rw [if_pos ⟨rfl, h⟩]
theorem readC_on {c : UInt8} {t : List UInt8} (h : kindR (c.toNat : Int) = true) : readC (c :: t) = ((readR (c.toNat : Int) (c :: t)).1, ((readR (c.toNat : Int) (c :: t)).2 : Int)) := by
  have hx : leV (takeF (c :: t) 0 0 1).1 = c.toNat := by
    show leV [c] = c.toNat
    simp [leV]
  unfold readC
  simp only [hx]
  rw [if_neg (by rw [h]; simp)]
  rfl
theorem dec_readC (l : List UInt8) : decR l = if (readC l).2 ≠ 0 then (zeroR, (readC l).2) else if checkR (readC l).1 ≠ 0 then (zeroR, checkR (readC l).1) else ((readC l).1, 0) := by
  cases l with
  | nil =>
    have h : (readC []).2 = 1 := by decide +kernel
    rw [h]
    rfl
  | cons c t =>
    cases hk : kindR (c.toNat : Int) with
    | false =>
      rw [dec_kind hk, readC_kind hk]
      rfl
    | true =>
      rw [readC_on hk]
      by_cases h2 : (readR (c.toNat : Int) (c :: t)).2 = 0
      · by_cases h3 : checkR (readR (c.toNat : Int) (c :: t)).1 = 0
        · rw [dec_fine hk h2 h3]
          simp only [h2, h3]
          rfl
        · rw [dec_check hk h2 h3]
          simp only [h2]
          rw [if_neg (by simp), if_pos h3]
      · rw [dec_read hk h2, if_pos (by simpa using h2)]
theorem readC_ok {l : List UInt8} (h : (readC l).2 = 0) : (readC l).1.Ok := by
  cases l with
  | nil => exact absurd h (by decide +kernel)
  | cons c t =>
    cases hk : kindR (c.toNat : Int) with
    | false => rw [readC_kind hk] at h; cases h
    | true =>
      rw [readC_on hk] at h ⊢
      have hq := c.toNat_lt
      exact (readR_ok (by simpa using h)).resolve_right fun h9 => h9 (Go.WalkArith.wf_i64 (by omega))

set_option maxRecDepth 100000 in
set_option maxHeartbeats 6400000 in
theorem decode_law_over (hH : HasLaw) (hC : CheckLaw) : DecodeLaw := by
  intro A m c l w hm hm6 hmc hcm hbs hT
  obtain ⟨w0, hw0⟩ : ∃ w0, w.alloc (.cells #[.int .u64 0, .int .i64 0, .string ⟨#[]⟩, .int .u64 0, .int .u64 0, .int .u64 0] 24) = w0 := ⟨_, rfl⟩
  have hK0 : Bk w0 w.heap.size 24 [.int .u64 0, .int .i64 0, .string ⟨#[]⟩, .int .u64 0, .int .u64 0, .int .u64 0] := by rw [← hw0]; exact Bk.new w _ _
  have hb0 : Below w.heap.size w w0 := by rw [← hw0]; exact (Below.refl _ w).alloc (Nat.le_refl _) _
  have HNC := Lib.hid (newCursor_any A m c l w0.heap.size w0 hm ((hbs.below hb0 (Nat.le_refl _)).more hb0.size) (Nat.le_refl _) (by omega))
  have HRD : Hid (∀ {V : World} {gc : Nat}, Cur V gc l 0 0 → Calls Tryd.prog 26 #[.pointer (some ⟨gc, 0, none⟩)] V fun e w' => e = .returned (.tuple #[(readC l).1.val, .int .i64 (readC l).2]) ∧ V.grownBy w' (some gc)) := fun hc => read_any hH (by rw [hm.out]; exact hm6) hc
  have hD := dec_readC l
  have hO : (readC l).2 = 0 → (readC l).1.Ok := fun h => readC_ok h
  obtain ⟨R, hR⟩ : ∃ R, (readC l).1 = R := ⟨_, rfl⟩
  obtain ⟨E, hE⟩ : ∃ E, (readC l).2 = E := ⟨_, rfl⟩
  rw [hR, hE] at HRD hD hO
  obtain ⟨seq, kind, name, lease, n, bits⟩ := R
  have HRD2 : Hid (∀ {V : World} {gc : Nat}, Cur V gc l 0 0 → Calls Tryd.prog 26 #[.pointer (some ⟨gc, 0, none⟩)] V fun e w' => e = .returned (.tuple #[.agg #[.int .u64 (seq : Int), .int .i64 kind, .string name, .int .u64 (lease : Int), .int .u64 (n : Int), .int .u64 (bits : Int)], .int .i64 E]) ∧ V.grownBy w' (some gc)) := HRD.out
  have HCK : Hid (E = 0 → ∀ V : World, Below w.heap.size w V → Calls Tryd.prog 8 #[.agg #[.int .u64 (seq : Int), .int .i64 kind, .string name, .int .u64 (lease : Int), .int .u64 (n : Int), .int .u64 (bits : Int)]] V fun e w' => e = .returned (.int .i64 (checkR ⟨seq, kind, name, lease, n, bits⟩)) ∧ Below V.heap.size V w') := fun h0 V hV => hC _ V (hO h0) (hT.under hV)
  obtain ⟨cr, hcr⟩ : ∃ cr, checkR ⟨seq, kind, name, lease, n, bits⟩ = cr := ⟨_, rfl⟩
  rw [hcr] at HCK hD
  have HK0 := Lib.hid hK0
  have HB0 := Lib.hid hb0
  have hcase : (E = 0 ∧ cr = 0 ∧ decR l = (⟨seq, kind, name, lease, n, bits⟩, 0)) ∨ (E = 0 ∧ (cr != 0) = true ∧ decR l = (zeroR, cr)) ∨ ((E == 0) = false ∧ (E != 0) = true ∧ decR l = (zeroR, E)) := by
    by_cases h0 : E = 0
    · rw [if_neg (by simpa using h0)] at hD
      by_cases h1 : cr = 0
      · rw [if_neg (by simpa using h1)] at hD
        exact .inl ⟨h0, h1, hD⟩
      · rw [if_pos h1] at hD
        exact .inr (.inl ⟨h0, bne_iff_ne.2 h1, hD⟩)
    · rw [if_pos h0] at hD
      exact .inr (.inr ⟨beq_eq_false_iff_ne.2 h0, bne_iff_ne.2 h0, hD⟩)
  clear hK0 hb0 hm hm6 hmc hcm hbs hT HRD hD hO hR hE hcr hH hC
  obtain ⟨g2, hg2⟩ : ∃ g2, w.heap.size = g2 := ⟨_, rfl⟩
  have HG2 : Hid (w.heap.size = g2) := hg2
  rcases hcase with ⟨rfl, rfl, hd⟩ | ⟨rfl, g0, hd⟩ | ⟨g1, g0, hd⟩ <;>
  · have HD := Lib.hid hd
    clear hd
    (try replace HCK := Lib.hid (HCK.out rfl))
    go_enter Tryd.func12, Tryd.ntmps12
    go_wp2_with fail
    refine HNC.out.mono ?_
    rintro e w1 ⟨gc, rfl, hgc, hcur1, hb1⟩
    have HB1 := Lib.hid hb1
    have HR1 := Lib.hid (HRD2.out hcur1)
    have HL1 := Lib.hid hcur1.lt
    have HGC := Lib.hid hgc
    clear hgc hcur1 hb1
    try go_wp2_with fail
    refine HR1.out.mono ?_
    rintro e w2 ⟨rfl, hg2'⟩
    have HK2 : Hid (Bk w2 g2 24 [.int .u64 0, .int .i64 0, .string ⟨#[]⟩, .int .u64 0, .int .u64 0, .int .u64 0]) := by
      show Bk _ _ _ _
      rw [← HG2.out]
      have h1 := HK0.out.below HB1.out HK0.out.lt
      exact h1.grown hg2' (fun e => by cases e; have := HK0.out.lt; have := HGC.out; omega)
    have HB2 : Hid (Below w.heap.size w w2) := (HB0.out.trans (HB1.out.mono HB0.out.size)).grown hg2' (HB0.out.trans (HB1.out.mono HB0.out.size)).size fun k hk => by cases hk; have := HGC.out; have := HB0.out.size; omega
    clear hg2'
    obtain ⟨h, hh⟩ : ∃ h, w2.heap.size = h := ⟨_, rfl⟩
    obtain ⟨wr, hwr⟩ : ∃ wr, w2.alloc (.cells #[.int .u64 0, .int .i64 0, .string ⟨#[]⟩, .int .u64 0, .int .u64 0, .int .u64 0] 24) = wr := ⟨_, rfl⟩
    have HKR : Hid (Bk wr h 24 [.int .u64 0, .int .i64 0, .string ⟨#[]⟩, .int .u64 0, .int .u64 0, .int .u64 0]) := by show Bk _ _ _ _; rw [← hwr, ← hh]; exact Bk.new w2 _ _
    have hbr : Below w2.heap.size w2 wr := by rw [← hwr]; exact (Below.refl _ w2).alloc (Nat.le_refl _) _
    have HKZ : Hid (Bk wr g2 24 [.int .u64 0, .int .i64 0, .string ⟨#[]⟩, .int .u64 0, .int .u64 0, .int .u64 0]) := HK2.out.below hbr HK2.out.lt
    have HBR : Hid (Below w.heap.size w wr) := HB2.out.trans (hbr.mono HB2.out.size)
    have HLT : Hid (w.heap.size ≤ h ∧ g2 < h) := by rw [← hh]; exact ⟨HB2.out.size, HK2.out.lt⟩
    clear hbr
    go_wp2_with (first | (refine rec_store (by rfl) (.tmp 4) (.tmp 10) (by rfl) ⟨seq, kind, name, lease, n, bits⟩ (by rfl) HKR.out (by rfl) ?_; intro w3 hK3 hg3 hs3; have HK3 := Lib.hid hK3; have HZ : Hid (Bk w3 g2 24 [.int .u64 0, .int .i64 0, .string ⟨#[]⟩, .int .u64 0, .int .u64 0, .int .u64 0]) := HKZ.out.grown hg3 (fun e => by cases e; have := HLT.out.2; omega); have HB : Hid (Below w.heap.size w w3) := under_own HBR.out hg3 HLT.out.1; obtain ⟨y0, y1, y2, y3, y4, y5⟩ := six hK3; clear hK3 hg3 hs3) | (refine rec_store (by rfl) (.tmp 2) (.tmp 18) (by rfl) zeroR (by rfl) HZ.out (by rfl) ?_; intro w9 hK9 hg9 hs9; have HK9 : Hid (Bk w9 g2 24 [.int .u64 0, .int .i64 0, .string ⟨#[]⟩, .int .u64 0, .int .u64 0, .int .u64 0]) := Lib.hid hK9; have HB9 : Hid (Below w.heap.size w w9) := under_own HB.out hg9 (Nat.le_of_eq HG2.out); clear hK9 hg9 hs9) | (refine rec_store (by rfl) (.tmp 2) (.tmp 20) (by rfl) ⟨seq, kind, name, lease, n, bits⟩ (by rfl) HZ.out (by rfl) ?_; intro w9 hK9 hg9 hs9; have HK9 : Hid (Bk w9 g2 24 [.int .u64 (seq : Int), .int .i64 kind, .string name, .int .u64 (lease : Int), .int .u64 (n : Int), .int .u64 (bits : Int)]) := Lib.hid hK9; have HB9 : Hid (Below w.heap.size w w9) := under_own HB.out hg9 (Nat.le_of_eq HG2.out); clear hK9 hg9 hs9))
    try (refine (HCK.out _ HB.out).mono ?_
         rintro e w4 ⟨rfl, hb4⟩
         clear y0 y1 y2 y3 y4 y5
         obtain ⟨y0, y1, y2, y3, y4, y5⟩ := six (HK3.out.below hb4 HK3.out.lt)
         replace HZ := Lib.hid (HZ.out.below hb4 HZ.out.lt)
         replace HB : Hid (Below w.heap.size w w4) := HB.out.trans (hb4.mono HB.out.size)
         clear hb4)
    try go_wp2_with (first | (refine rec_store (by rfl) (.tmp 4) (.tmp 10) (by rfl) ⟨seq, kind, name, lease, n, bits⟩ (by rfl) HKR.out (by rfl) ?_; intro w3 hK3 hg3 hs3; have HK3 := Lib.hid hK3; have HZ : Hid (Bk w3 g2 24 [.int .u64 0, .int .i64 0, .string ⟨#[]⟩, .int .u64 0, .int .u64 0, .int .u64 0]) := HKZ.out.grown hg3 (fun e => by cases e; have := HLT.out.2; omega); have HB : Hid (Below w.heap.size w w3) := under_own HBR.out hg3 HLT.out.1; obtain ⟨y0, y1, y2, y3, y4, y5⟩ := six hK3; clear hK3 hg3 hs3) | (refine rec_store (by rfl) (.tmp 2) (.tmp 18) (by rfl) zeroR (by rfl) HZ.out (by rfl) ?_; intro w9 hK9 hg9 hs9; have HK9 : Hid (Bk w9 g2 24 [.int .u64 0, .int .i64 0, .string ⟨#[]⟩, .int .u64 0, .int .u64 0, .int .u64 0]) := Lib.hid hK9; have HB9 : Hid (Below w.heap.size w w9) := under_own HB.out hg9 (Nat.le_of_eq HG2.out); clear hK9 hg9 hs9) | (refine rec_store (by rfl) (.tmp 2) (.tmp 20) (by rfl) ⟨seq, kind, name, lease, n, bits⟩ (by rfl) HZ.out (by rfl) ?_; intro w9 hK9 hg9 hs9; have HK9 : Hid (Bk w9 g2 24 [.int .u64 (seq : Int), .int .i64 kind, .string name, .int .u64 (lease : Int), .int .u64 (n : Int), .int .u64 (bits : Int)]) := Lib.hid hK9; have HB9 : Hid (Below w.heap.size w w9) := under_own HB.out hg9 (Nat.le_of_eq HG2.out); clear hK9 hg9 hs9))
    refine bodyPost_ret (result_rec (n := 6) Tryd.underlying24 (by kernel_rfl) rfl _ HK9.out rfl rfl) rfl ?_
    exact ⟨by rw [HD.out]; rfl, by (first | exact HB9.out | (rw [← HG2.out]; exact HB9.out))⟩
end Go.Proofs.YtolpggmcjengcaaDoor
