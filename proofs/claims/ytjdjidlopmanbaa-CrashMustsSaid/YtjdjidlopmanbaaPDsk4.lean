/-
  A disk's Crash: every file cut.
-/
import Derived.Test.YtjdjidlopmanbaaPDsk1
namespace Go.Proofs.Ytjdjidlopmanbaa
open Go.RowKit
set_option linter.unusedVariables false

/-- A file that is cut. -/
def cutP (keep : Int) (x : Pil) : Pil := ⟨⟨x.f.name, x.f.A, cutN keep x.pf, x.f.c, x.f.data.take (cutN keep x.pf), cutN keep x.pf⟩, x.p⟩
theorem cutP_has {keep : Int} {x : Pil} {b : Nat} (h : (cutP keep x).has b) : x.has b := by
  rcases h with h | h
  · exact .inl h
  · refine .inr ?_
    show (Value.slice x.f.A x.f.n x.f.c).ownBlock = some b
    cases hA : x.f.A with
    | none => rw [show (cutP keep x).f.A = x.f.A from rfl, hA] at h; cases h
    | some a => rw [show (cutP keep x).f.A = x.f.A from rfl, hA] at h; exact h
theorem Own.take_ {w : World} {base : Nat} {e : TypeId} {A : Option Addr} {n c : Nat} {xs : List Value} (h : Own w base e (.slice A n c) xs) {k : Nat} (hk : k ≤ n) : Own w base e (.slice A k c) (xs.take k) := by
  have hl := h.length
  obtain ⟨h1, h2⟩ := h
  have hlen : (xs.take k).length = k := by rw [List.length_take, hl, Nat.min_eq_left hk]
  refine ⟨by rw [hlen, Nat.mul_one], ?_⟩
  rw [hlen]
  rcases h2 with ⟨h3, h4⟩ | ⟨g, cap, cur, h3, hg, hc, h5, h6, h7, h8⟩
  · have hn : n = 0 := by rw [← hl]; exact h4
    refine .inl ⟨?_, by omega⟩
    rw [show k = n by omega]
    exact h3
  · obtain ⟨rfl, rfl, rfl⟩ : A = some ⟨g, 0, none⟩ ∧ n = xs.length ∧ c = cap := by simpa using h3
    refine .inr ⟨g, c, cur, rfl, hg, hc, by omega, h6, h7, ?_⟩
    rw [Nat.mul_one] at h8 ⊢
    rw [← h8, List.take_take, Nat.min_eq_left hk]
/-- What a crash has left of a file, or not yet come to. -/
def Fcut (keep : Int) (left : Lit → Bool) (x : Pil) : Pil := if leftNP left x then x else cutP keep x
structure CrashAt (w wr : World) (L : List Pil) (keep : Int) (left : Lit → Bool) : Prop where
  os : wr.os = w.os
  tape : wr.tape = w.tape
  output : wr.output = w.output
  size : w.heap.size ≤ wr.heap.size
  block : ∀ b, b < w.heap.size → (∀ x ∈ L, b ≠ x.p) → wr.heap[b]? = w.heap[b]?
  files : ∀ x ∈ L, FileAt wr (Fcut keep left x)

theorem RisingP.one : ∀ {L : List Pil}, RisingP L → ∀ {x y : Pil}, x ∈ L → y ∈ L → bl x.name = bl y.name → x = y
  | [], _, _, _, h, _, _ => by cases h
  | z :: r, h, x, y, hx, hy, e => by
    obtain ⟨h1, h2⟩ := List.pairwise_cons.1 h
    rcases List.mem_cons.1 hx with rfl | hx' <;> rcases List.mem_cons.1 hy with rfl | hy'
    · rfl
    · exact absurd e (before_neP (h1 y hy'))
    · exact absurd e.symm (before_neP (h1 x hx'))
    · exact RisingP.one h2 hx' hy' e
theorem CrashAt.step {w wr w4 : World} {L : List Pil} {keep : Int} {left : Lit → Bool} {g : Pil} (h : CrashAt w wr L keep left) (hris : RisingP L) (hg : g ∈ L) (hlk : leftNP left g = true) (hF : ∀ x ∈ L, FileAt w x)
    (hap : ∀ x ∈ L, ∀ y ∈ L, bl x.name ≠ bl y.name → ∀ b, x.has b → ¬ y.has b) (hos : w4.os = wr.os) (htape : w4.tape = wr.tape) (hout : w4.output = wr.output) (hsz : wr.heap.size ≤ w4.heap.size)
    (hb : ∀ b, b < w.heap.size → b ≠ g.p → w4.heap[b]? = wr.heap[b]?) (hB : Bk w4 g.p 75 (fcells (cutP keep g).f)) (hs : g.f.sure ≤ g.f.n) :
    CrashAt w w4 L keep (fun z => left z && !z.sameKey (.string (bl g.name))) where
  os := hos.trans h.os
  tape := htape.trans h.tape
  output := hout.trans h.output
  size := Nat.le_trans h.size hsz
  block := fun b h1 h2 => (hb b h1 (h2 g hg)).trans (h.block b h1 h2)
  files := fun x hx => by
    have hf := h.files x hx
    by_cases e : bl x.name = bl g.name
    · obtain rfl := hris.one hx hg e
      have e2 : leftNP (fun z => left z && !z.sameKey (.string (bl x.name))) x = false := by
        rw [leftN_stepP]
        simp
      unfold Fcut at hf ⊢
      rw [if_pos hlk] at hf
      rw [e2, if_neg (by decide)]
      have hlen := hf.len
      have hcut : cutN keep x.pf ≤ x.f.n := by
        rw [← hlen]
        exact cutN_le keep (show x.f.sure ≤ x.f.data.length by omega)
      have ho : Own w4 0 5 (.slice x.f.A x.f.n x.f.c) (x.f.data.map bv) := hf.own.same fun b hq => hb b ((hF x hx).lt (.inr hq)) (fun e3 => hf.ne (by rw [hq, e3]))
      refine ⟨hB, ?_, ?_⟩
      · have := ho.take_ hcut
        rw [← List.map_take] at this
        exact this
      · intro h3
        rcases cutP_has (keep := keep) (x := x) (b := x.p) (.inr h3) with _ | h4
        · have : (Value.slice x.f.A x.f.n x.f.c).ownBlock = some x.p := by
            show _ = _
            cases hA : x.f.A with
            | none => rw [show (cutP keep x).f.A = x.f.A from rfl, hA] at h3; cases h3
            | some a => rw [show (cutP keep x).f.A = x.f.A from rfl, hA] at h3; exact h3
          exact hf.ne this
        · exact hf.ne h4
    · have e2 : leftNP (fun z => left z && !z.sameKey (.string (bl g.name))) x = leftNP left x := by
        rw [leftN_stepP]
        have : (bl x.name == bl g.name) = false := by simpa using e
        rw [this]
        simp
      have e3 : Fcut keep (fun z => left z && !z.sameKey (.string (bl g.name))) x = Fcut keep left x := by
        unfold Fcut
        rw [e2]
      rw [e3]
      refine hf.keep fun b hq => ?_
      have hq2 : x.has b := by
        unfold Fcut at hq
        split at hq
        · exact hq
        · exact cutP_has hq
      exact hb b ((hF x hx).lt hq2) fun e4 => hap x hx g hg e b hq2 (by rw [e4]; exact .inl rfl)

set_option maxRecDepth 100000 in
set_option maxHeartbeats 1600000 in
theorem pdskCrash_any {w : World} {O : Nat → Prop} {d : Nat} {st : DSt} {mb : Nat} {L : List Pil} (h : PDsk w O d st mb L) (keep : Int) (hk : (Lit.int .i64 keep).wf = true) :
    Calls Try.prog 21 #[dptr d, .int .i64 keep] w (RetD IsP (.tuple #[]) (crashS keep st) d O w) := by
  have hm := h.map_
  have c1 : w.cell? ⟨d, 1, none⟩ = some (.map (some mb)) := h.blk.cellAt 1 (show 1 < 7 by decide)
  have HRIS := Lib.hid hm.rising
  have HF := Lib.hid h.files
  have HH := Lib.hid h
  have hmlt := hm.lt
  have hk2 := Go.bounds_i64 hk
  clear h
  go_enter Try.func21, Try.ntmps21
  go_wp2_with (first | (at_range; refine wpList_range_own _ rfl _ 59 rfl 9 72 strKeyedP Try.underlying59 gP mb L.length (DP L) rfl hm ?_; intro w0 hrg0 hg0 hs0))
  have hb0 : Hid (Below w.heap.size w w0) := ⟨hg0.os, hg0.tape, hg0.output, hg0.size, fun k hk => hg0.block k hk (by simp)⟩
  clear hg0 hs0
  go_frame
  go_loopw [5, 6] (fun _ _ wr => ∃ left cnt, wr.ranges Try.prog 9 gP mb w.heap.size L.length (DP L) left cnt ∧ Hid (CrashAt w wr L keep left)) (fun _ _ wr => wr.rangeLeft mb w.heap.size)
  case atStart =>
    refine ⟨_, _, hrg0, ?_⟩
    have hb := hb0.out
    refine ⟨hb.os, hb.tape, hb.output, hb.size, fun b h1 _ => hb.block b h1, fun x hx => ?_⟩
    have : leftNP (Maps.has (DP L)) x = true := by
      show Maps.has (DP L) (.string (bl x.name)) = true
      rw [has_DP]
      unfold findPil
      rw [List.find?_isSome]
      exact ⟨x, hx, by simp⟩
    unfold Fcut
    rw [if_pos this]
    exact (HF.out x hx).keep fun b hq => hb.block b ((HF.out x hx).lt hq)
  case round =>
    obtain ⟨left, cnt, hrg, hb⟩ := hrel
    have HM := Lib.hid hrg.left_eq
    go_wp2_with (first | (at_next; refine wpList_next_ranges _ rfl _ rfl 9 strKeyedP gP encStr (fun o : Option Nat => Value.pointer (o.map fun p => ⟨p, 0, none⟩)) (fun key kl hk => by obtain ⟨x, hx, _⟩ := Maps.keyOf_str Try.underlying9 hk; exact ⟨x, hx⟩) gP_inv mb w.heap.size L.length _ _ _ rfl hrg ?_ ?_))
    · intro hc0 hl0
      have hd : wr.heap[d]? = w.heap[d]? := hb.out.block d (HH.out.lt d HH.out.od) fun x hx e => (HH.out.has x hx x.p (.inl rfl)).2.1 e.symm
      have hB : Bk wr d 61 (pcells mb st) := hd.trans HH.out.blk
      have c3 : wr.cell? ⟨d, 3, none⟩ = some (.bool st.down) := hB.cellAt 3 (show 3 < 7 by decide)
      have f3 : wr.frozen? ⟨d, 3, none⟩ = false := hB.frozen 3
      have hB1 := hB.set_ 3 (.bool true)
      have c4 : (wr.setCell ⟨d, 3, none⟩ (.bool true)).cell? ⟨d, 4, none⟩ = some (.bool st.armed) := hB1.cellAt 4 (show 4 < 7 by decide)
      have f4 : (wr.setCell ⟨d, 3, none⟩ (.bool true)).frozen? ⟨d, 4, none⟩ = false := hB1.frozen 4
      have HL := Lib.hid hl0
      have HD := Lib.hid hd
      have HB2 := Lib.hid (hB1.set_ 4 (.bool false))
      clear hd hB hB1 hl0 hc0 hrg
      go_wp2_with fail
      (first | go_end0 | (refine bodyPost_ret (results_none rfl _ _ _) rfl ?_))
      have h := HH.out
      have hc := hb.out
      have hfl : ∀ y ∈ L, FileAt wr (cutP keep y) := fun y hy => by
        have := hc.files y hy
        unfold Fcut at this
        rw [if_neg (by show ¬ leftNP left y = true; unfold leftNP; rw [HL.out]; decide)] at this
        exact this
      have hpf : (L.map (cutP keep)).map Pil.pf = st.files.map (cutF keep) := by
        rw [← h.pf, List.map_map, List.map_map]
        rfl
      have hgood := h.good.crash keep
      have h1 := h.change (cutP keep) [] (fun _ => rfl) (fun _ => rfl) hfl (fun y hy b hq => .inl (cutP_has hq)) HD.out
        (hc.block mb (h.lt mb h.om) fun x hx e => (h.has x hx x.p (.inl rfl)).2.2 e.symm) hc.size (by rw [hpf]; exact ⟨hgood.apart, hgood.sure⟩)
      have h2 := h1.row (crashS keep st) (by show _ = List.map _ _; rw [hpf]; rfl) rfl h.calls h.left h.keep (w' := (wr.setCell ⟨d, 3, none⟩ (.bool true)).setCell ⟨d, 4, none⟩ (.bool false)) HB2.out
        (fun b hb' => by rw [heap_setCell_other _ ⟨d, 4, none⟩ b _ hb', heap_setCell_other _ ⟨d, 3, none⟩ b _ hb']) (by simp)
      refine ⟨_, rfl, ⟨mb, _, h2⟩, ?_⟩
      refine ⟨hc.os, hc.tape, hc.output, by simpa using hc.size, fun b hlt ho => ?_, fun b ho => ?_⟩
      · have hbd : b ≠ d := fun e => ho (e ▸ h.od)
        rw [heap_setCell_other _ ⟨d, 4, none⟩ b _ hbd, heap_setCell_other _ ⟨d, 3, none⟩ b _ hbd]
        exact hc.block b hlt fun x hx e => ho (e ▸ (h.has x hx x.p (.inl rfl)).1)
      · rcases ho with ho | ho
        · exact .inl ho
        · exact .inr ho.1
    · intro x o kl yd yp w2 cnt2 hkey hlk hv hat hrg2 hlt hg2 hs2 hen
      obtain ⟨x', ex, rfl, _⟩ := Maps.keyOf_str Try.underlying9 hkey
      obtain rfl : x = x' := encStr_inj ex
      obtain ⟨g, hg, rfl, rfl⟩ := pil_of hv hat
      have hF0 : FileAt wr g := by
        have := hb.out.files g hg
        unfold Fcut at this
        rw [if_pos (show leftNP left g = true from hlk)] at this
        exact this
      have hsz := hb.out.size
      have hlt0 := (HF.out g hg).lt (.inl rfl)
      have hF : FileAt w2 g := hF0.keep fun b hq => hg2.block b (hF0.lt hq) (by simp; have := (HF.out g hg).lt hq; omega)
      have hgn : g.f.sure ≤ g.f.n := by
        have h1 := HH.out.good.sure g.pf (by rw [← HH.out.pf]; exact List.mem_map_of_mem hg)
        have h2 := hF.len
        have h3 : g.f.sure ≤ g.f.data.length := h1
        omega
      have hgc := hF.caps
      have hmx := hgc.2
      unfold maxLen at hmx
      obtain ⟨K, hK⟩ : ∃ K, keep.toNat = K := ⟨_, rfl⟩
      obtain ⟨r, hr⟩ : ∃ r, g.f.n - g.f.sure = r := ⟨_, rfl⟩
      obtain ⟨m, hmdef⟩ : ∃ m, min K r = m := ⟨_, rfl⟩
      obtain ⟨k, hkdef⟩ : ∃ k, g.f.sure + m = k := ⟨_, rfl⟩
      have c0 : w2.cell? ⟨g.p, 0, none⟩ = some (.slice g.f.A g.f.n g.f.c) := hF.cell.cellAt 0 (show 0 < 2 by decide)
      have c1' : w2.cell? ⟨g.p, 1, none⟩ = some (.int .i64 (g.f.sure : Int)) := hF.cell.cellAt 1 (show 1 < 2 by decide)
      have f1 : w2.frozen? ⟨g.p, 1, none⟩ = false := hF.cell.frozen 1
      have hw1 : IntKind.i64.wrap ((g.f.n : Int) - (g.f.sure : Int)) = (r : Int) := by rw [IntKind.wrap_i64]; omega
      have hw2 : IntKind.i64.wrap ((g.f.sure : Int) + (m : Int)) = (k : Int) := by rw [IntKind.wrap_i64]; omega
      have hx1 : (if keep < 0 then (0 : Int) else keep) = (K : Int) := by split <;> omega
      have hx2 : (if keep < 0 then Value.int .i64 0 else Value.int .i64 keep) = Value.int .i64 (K : Int) := by split <;> congr 1 <;> omega
      have hx3 : max keep 0 = (K : Int) := by omega
      have hy1 : (if (r : Int) < (K : Int) then (r : Int) else (K : Int)) = (m : Int) := by split <;> omega
      have hy2 : (if r < K then (r : Int) else (K : Int)) = (m : Int) := by split <;> omega
      have hy3 : (if r < K then Value.int .i64 (r : Int) else Value.int .i64 (K : Int)) = Value.int .i64 (m : Int) := by split <;> congr 1 <;> omega
      have hy4 : min (K : Int) (r : Int) = (m : Int) := by omega
      have hB1 : Bk (w2.setCell ⟨g.p, 1, none⟩ (.int .i64 (k : Int))).drew g.p 75 [.slice g.f.A g.f.n g.f.c, .int .i64 (k : Int)] := hF.cell.set_ 1 (.int .i64 (k : Int))
      have hG1 : w2.grownBy (w2.setCell ⟨g.p, 1, none⟩ (.int .i64 (k : Int))).drew (some g.p) := by
        have hh := grown_set w2 g.p 1 (.int .i64 (k : Int))
        exact ⟨hh.os, hh.tape, hh.output, hh.size, hh.block⟩
      have hS1 : (w2.setCell ⟨g.p, 1, none⟩ (.int .i64 (k : Int))).drew.heap.size = w2.heap.size := by simp
      have hsl := fun W => slice_to (P := Try.prog) (t := 41) (e := 5) (z := .int .u8 0) (bytes := 1) (Elem.mk' Try.underlying41 (by kernel_rfl) rfl) W g.f.A g.f.n g.f.c k (by omega)
      have HF2 := Lib.hid hF
      have HMd : Hid (min keep.toNat (g.f.n - g.f.sure) = m) := by show _ = _; rw [hK, hr, hmdef]
      have HKd := Lib.hid hkdef
      have HR2 := Lib.hid hrg2
      have HG2 := Lib.hid hg2
      have HGN := Lib.hid hgn
      clear hmdef hkdef hK hr hrg2 hF0 hF hkey hv hat hrg hg2 hmx hgc hgn
      simp only [Option.map_some] at hen ⊢
      go_wp2_with fail
      go_still (by kernel_rfl)
      go_wp2_with fail
      revert hB1 hG1 hS1
      generalize (w2.setCell ⟨g.p, 1, none⟩ (.int .i64 (k : Int))).drew = w3
      intro hB1 hG1 hS1
      have d0 : w3.cell? ⟨g.p, 0, none⟩ = some (.slice g.f.A g.f.n g.f.c) := hB1.cellAt 0 (show 0 < 2 by decide)
      have d1 : w3.cell? ⟨g.p, 1, none⟩ = some (.int .i64 (k : Int)) := hB1.cellAt 1 (show 1 < 2 by decide)
      have e0 : w3.frozen? ⟨g.p, 0, none⟩ = false := hB1.frozen 0
      have HB1 := Lib.hid hB1
      have HG1 := Lib.hid hG1
      have HS1 := Lib.hid hS1
      clear hB1 hG1 hS1
      go_still_tail 12, (by kernel_rfl)
      go_wp2_with fail
      go_roundw
      all_goals
        have hB4 : Bk (w3.setCell ⟨g.p, 0, none⟩ (.slice g.f.A k g.f.c)).drew g.p 75 [.slice g.f.A k g.f.c, .int .i64 (k : Int)] := HB1.out.set_ 0 (.slice g.f.A k g.f.c)
        have hG4 : w3.grownBy (w3.setCell ⟨g.p, 0, none⟩ (.slice g.f.A k g.f.c)).drew (some g.p) := by
          have hh := grown_set w3 g.p 0 (.slice g.f.A k g.f.c)
          exact ⟨hh.os, hh.tape, hh.output, hh.size, hh.block⟩
        have hr2 := HR2.out
        have hpm : g.p ≠ mb := (HH.out.has g hg g.p (.inl rfl)).2.2
        have hr4 := (hr2.kept HG1.out (by simpa using hpm.symm) (by simp; omega)).kept hG4 (by simpa using hpm.symm) (by simp; omega)
      case rel =>
        refine ⟨_, _, hr4, ?_⟩
        have hg2 := HG2.out
        have hg1 := HG1.out
        refine hb.out.step HRIS.out hg hlk HF.out HH.out.apart (hG4.os.trans (hg1.os.trans hg2.os)) (hG4.tape.trans (hg1.tape.trans hg2.tape)) (hG4.output.trans (hg1.output.trans hg2.output)) (by have := hG4.size; have := hg1.size; omega) (fun b h1 h2 => ?_) ?_ HGN.out
        · have hg4s := hG4.size
          have hg1s := hg1.size
          rw [hG4.block b (by omega) (by simpa using h2), hg1.block b (by omega) (by simpa using h2), hg2.block b (by omega) (by simp; omega)]
        · have e : cutN keep g.pf = k := by
            have h1 := HF2.out.len
            have h2 := HMd.out
            have h3 := HKd.out
            show g.f.sure + min keep.toNat (g.f.data.length - g.f.sure) = k
            rw [h1, h2, h3]
          unfold fcells cutP
          simp only [e]
          exact hB4
      case measure =>
        rw [hr4.left_eq, HM.out]
        exact hlt
end Go.Proofs.Ytjdjidlopmanbaa
