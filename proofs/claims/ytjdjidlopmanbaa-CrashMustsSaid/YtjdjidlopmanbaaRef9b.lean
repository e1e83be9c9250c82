/-
  Package taximeterref09: With: a file among others, by its name. Plain: lists of files by rising names: what With, Without and Cut of the reference make of them.
-/
import Derived.Test.YtjdjidlopmanbaaRef9a
import Derived.Test.YtjdjidlopmanbaaDiskZ
namespace Go.Proofs.Ytjdjidlopmanbaa
open Go.RowKit
set_option linter.unusedVariables false

theorem less_before : ∀ a b : List UInt8, Op.bytesLess a b = bytesBefore a b
  | [], [] => rfl
  | [], _ :: _ => rfl
  | _ :: _, [] => rfl
  | a :: r, b :: s => by
    unfold Op.bytesLess bytesBefore
    rw [less_before r s]
/-- One file more is looked at. -/
def wiStep (f : Fil) (p : List Fil × Bool) (g : Fil) : List Fil × Bool :=
  (p.1 ++ (if !p.2 && !bytesBefore (bl g.name) (bl f.name) then [f] else []) ++ (if bl g.name = bl f.name then [] else [g]), p.2 || !bytesBefore (bl g.name) (bl f.name))
def wiS (f : Fil) (l : List Fil) : List Fil × Bool := l.foldl (wiStep f) ([], false)
def wiF (f : Fil) (l : List Fil) : List Fil := (wiS f l).1 ++ (if (wiS f l).2 then [] else [f])
theorem wiS_snoc (f : Fil) (l : List Fil) (g : Fil) : wiS f (l ++ [g]) = wiStep f (wiS f l) g := by unfold wiS; rw [List.foldl_append]; rfl
theorem wiS_len (f : Fil) (l : List Fil) : (wiS f l).1.length ≤ 2 * l.length := by
  have : ∀ (r : List Fil) (p : List Fil × Bool), (r.foldl (wiStep f) p).1.length ≤ p.1.length + 2 * r.length := by
    intro r
    induction r with
    | nil => intro p; simp
    | cons g r ih =>
      intro p
      rw [List.foldl_cons]
      have := ih (wiStep f p g)
      have h2 : (wiStep f p g).1.length ≤ p.1.length + 2 := by
        unfold wiStep
        simp only [List.length_append]
        split <;> split <;> simp <;> omega
      rw [List.length_cons]
      omega
  have := this l ([], false)
  simpa [wiS] using this

theorem FilOk.allocR {w : World} {Q : Nat → Prop} {f : Fil} (h : FilOk w Q f) (o : Obj) : FilOk (w.alloc o) Q f := h.keepR (fun b hb _ => Below.heap_alloc w o b hb) (by simp) (fun _ _ hq => hq)

set_option maxHeartbeats 6400000 in
theorem with_any {w : World} {Q : Nat → Prop} {a : Option Addr} {c : Nat} {l : List Fil} (h : IsFiles w Q a l) (hQ : ∀ b, w.heap.size ≤ b → Q b) (hc : l.length ≤ c) (hm : c ≤ maxLen) (hlen : l.length ≤ 65536) (f : Fil) (hf : FilOk w Q f) :
    Calls Try.prog 34 #[.slice a l.length c, .agg #[.string f.name, .slice f.A f.n f.c, .int .i64 (f.sure : Int)]] w fun e w' => ∃ v, e = .returned v ∧ FSl w' Q v (wiF f l) ∧ Below w.heap.size w w' := by
  obtain ⟨len, hl⟩ : ∃ len, l.length = len := ⟨_, rfl⟩
  rw [hl] at hc hlen ⊢
  have HL := Lib.hid hl
  obtain ⟨zi, hzi, hzz, hzs, hzb⟩ := zfileR_info
  obtain ⟨w1, hw1⟩ : ∃ w1, w.alloc (.cells #[.string f.name, .slice f.A f.n f.c, .int .i64 (f.sure : Int)] 50) = w1 := ⟨_, rfl⟩
  have hb1 : Below w.heap.size w w1 := by rw [← hw1]; exact (Below.refl _ w).alloc (Nat.le_refl _) _
  have hs1 : w1.heap.size = w.heap.size + 1 := by rw [← hw1]; simp
  have hbox : w1.heap[w.heap.size]? = some (.cells #[.string f.name, .slice f.A f.n f.c, .int .i64 (f.sure : Int)] 50 (0, 0)) := by rw [← hw1]; exact heap_alloc_new w _
  have h1 := h.below hb1
  have hQ1 : ∀ b, w1.heap.size ≤ b → Q b := fun b hb => hQ b (by omega)
  have hf1 : FilOk w1 Q f := by rw [← hw1]; exact hf.allocR _
  have x0 : ∀ V : World, Below w1.heap.size w1 V → V.cell? ⟨w.heap.size, 0, none⟩ = some (.string f.name) := fun V hV => cell_of_row V w.heap.size 0 _ _ (0, 0) ((hV.block _ (by omega)).trans hbox)
  have x1 : ∀ V : World, Below w1.heap.size w1 V → V.cell? ⟨w.heap.size, 1, none⟩ = some (.slice f.A f.n f.c) := fun V hV => cell_of_row V w.heap.size 1 _ _ (0, 0) ((hV.block _ (by omega)).trans hbox)
  have x2 : ∀ V : World, Below w1.heap.size w1 V → V.cell? ⟨w.heap.size, 2, none⟩ = some (.int .i64 (f.sure : Int)) := fun V hV => cell_of_row V w.heap.size 2 _ _ (0, 0) ((hV.block _ (by omega)).trans hbox)
  have HX0 := Lib.hid x0
  have HX1 := Lib.hid x1
  have HX2 := Lib.hid x2
  have HH := Lib.hid h1.2
  have HFL := Lib.hid h1.1
  have HF1 := Lib.hid hf1
  have HQ := Lib.hid hQ1
  have HB1 := Lib.hid hb1
  clear h hl h1 hf hf1 hQ hQ1 hb1 x0 x1 x2 hbox hs1
  go_enter Try.func34, Try.ntmps34
  go_wp2_with fail
  go_loopw [5, 6, 7] (fun lv dv v wr => ∃ i : Nat, v = .int .i64 (i : Int) ∧ i ≤ len ∧ dv = .bool (wiS f (l.take i)).2 ∧ Hid (FilesQ w1 wr Q lv (wiS f (l.take i)).1)) (fun _ _ v _ => len - (intOf v).toNat)
  case atStart => exact ⟨0, rfl, Nat.zero_le _, rfl, FilesQ.start w1 Q⟩
  case round =>
    obtain ⟨i, rfl, hil, rfl, HI⟩ := hrel
    by_cases hlt : i < len
    · have hll : i < l.length := by rw [HL.out]; exact hlt
      obtain ⟨b, o, rfl, hb, _, hcell⟩ : ∃ b o, a = some ⟨b, o, none⟩ ∧ b < w1.heap.size ∧ Q b ∧ ∀ (i : Nat) (h : i < l.length) (j : Nat) v, l[i].cells[j]? = some v → w1.cell? ⟨b, o + (i * 3 + j), none⟩ = some v := by
        rcases HH.out with h | h
        · rw [h] at hll; simp at hll
        · exact h
      obtain ⟨g, hg⟩ : ∃ g, l[i] = g := ⟨_, rfl⟩
      have hc0 : ∀ V : World, Below w1.heap.size w1 V → V.cell? ⟨b, o + i * 3, none⟩ = some (.string g.name) := fun V hV => by rw [hV.cell hb, ← hg]; exact hcell i hll 0 _ rfl
      have hc1 : ∀ V : World, Below w1.heap.size w1 V → V.cell? ⟨b, o + i * 3 + 1, none⟩ = some (.slice g.A g.n g.c) := fun V hV => by rw [hV.cell hb, ← hg, Nat.add_assoc]; exact hcell i hll 1 _ rfl
      have hc2 : ∀ V : World, Below w1.heap.size w1 V → V.cell? ⟨b, o + i * 3 + 2, none⟩ = some (.int .i64 (g.sure : Int)) := fun V hV => by rw [hV.cell hb, ← hg, Nat.add_assoc]; exact hcell i hll 2 _ rfl
      have HC0 := Lib.hid hc0
      have HC1 := Lib.hid hc1
      have HC2 := Lib.hid hc2
      have HG : Hid (FilOk w1 Q g) := HFL.out g (by rw [← hg]; exact List.getElem_mem hll)
      have hlw : (wiS f (l.take i)).1.length ≤ 2 * i := by have := wiS_len f (l.take i); simp at this; omega
      have hSt : wiS f (l.take (i + 1)) = wiStep f (wiS f (l.take i)) g := by rw [List.take_succ_eq_append_getElem hll, wiS_snoc, hg]
      obtain ⟨⟨out, D⟩, hP⟩ : ∃ p, wiS f (l.take i) = p := ⟨_, rfl⟩
      rw [hP] at HI hlw hSt ⊢
      simp only at HI hlw ⊢
      have b1 : (i : Int) < (len : Int) := by omega
      have hw : IntKind.i64.wrap ((i : Int) + 1) = ((i + 1 : Nat) : Int) := by rw [IntKind.wrap_i64]; omega
      obtain ⟨t, ht⟩ : ∃ t, bytesBefore (bl g.name) (bl f.name) = t := ⟨_, rfl⟩
      have hless : Op.bytesLess g.name.toList f.name.toList = t := by rw [less_before, bl_toList, bl_toList, ht]
      obtain ⟨e, he⟩ : ∃ e, decide (bl g.name = bl f.name) = e := ⟨_, rfl⟩
      have hcmp : (g.name.toList == f.name.toList) = e := by
        rw [bl_toList, bl_toList, ← he]
        by_cases h : bl g.name = bl f.name
        · rw [decide_eq_true h, h]; simp
        · rw [decide_eq_false h, beq_eq_false_iff_ne]; exact h
      have hSt2 : wiS f (l.take (i + 1)) = (out ++ (if !D && !t then [f] else []) ++ (if e then [] else [g]), D || !t) := by
        rw [hSt]
        unfold wiStep
        simp only [ht]
        have h9 : (if bl g.name = bl f.name then [] else [g]) = (if e then [] else [g]) := by
          rw [← he]
          by_cases h : bl g.name = bl f.name
          · simp [h]
          · simp [h]
        rw [h9]
      have HSt := Lib.hid hSt2
      have h63 : out.length + 2 ≤ maxLen := by unfold maxLen; omega
      have hbytes : (out.length + 2) * 48 ≤ 140737488355328 := by omega
      have H63 := Lib.hid h63
      have HBY := Lib.hid hbytes
      clear hcell hll HH hg hlw hSt hSt2 hP ht he hc0 hc1 hc2 h63 hbytes HFL
      cases D
      case false =>
        cases t
        case false =>
          have y0 := HX0.out wr HI.out.below
          have z0 := HC0.out wr HI.out.below
          go_wp2_with fail
          go_quiet (fail)
          generalize hw2 : wr.drewN _ = w2
          have HI2 : Hid (FilesQ w1 w2 Q u5 out) := by show FilesQ _ _ _ _ _; rw [← hw2]; exact HI.out.drewN _
          clear hw2 y0 z0
          have y0 := HX0.out w2 HI2.out.below
          have y1 := HX1.out w2 HI2.out.below
          have y2 := HX2.out w2 HI2.out.below
          have hrow3 := HI2.out.row.alloc (.cells #[.string f.name, .slice f.A f.n f.c, .int .i64 (f.sure : Int)] 50)
          have hcn3 := cells_newR w2 f.cells 50
          have hsz3 : w1.heap.size ≤ (w2.alloc (.cells #[.string f.name, .slice f.A f.n f.c, .int .i64 (f.sure : Int)] 50)).heap.size := by have := HI2.out.below.size; simp; omega
          have hl3 : (out).length + 1 ≤ maxLen := by have := H63.out; (try simp only [List.length_append, List.length_cons, List.length_nil] at *); omega
          have hy3 : ((out).length + 1) * 48 ≤ 140737488355328 := by have := HBY.out; (try simp only [List.length_append, List.length_cons, List.length_nil] at *); omega
          have HOK3 : Hid (FilOk (w2.alloc (.cells #[.string f.name, .slice f.A f.n f.c, .int .i64 (f.sure : Int)] 50)) (fun b => Q b ∧ u5.ownBlock ≠ some b) f) := (HI2.out.elder HF1.out).allocR _
          have HPU3 := Lib.hid (fun v7 w7 hR7 hG7 hv7 => HI2.out.push (V := w7) (v' := v7) f HOK3.out ((Below.refl _ w2).alloc (Nat.le_refl _) _) hR7 hG7 hv7)
          go_wp2_with (first | (refine wp_appN _ rfl (.tmp 26) (.tmp 28) 28 rfl w1.heap.size 50 Try.underlying28 hzi hzz hzs hzb (by rfl) (by decide) u5 (out).length ((out).flatMap Fil.cells) rfl hrow3 ⟨w2.heap.size, 0, none⟩ 1 _ f.cells rfl rfl hcn3 (cells_one f) hl3 hy3 hsz3 ?_; intro v3 w3 hR3 hG3 hv3; have HI3 := Lib.hid (HPU3.out v3 w3 hR3 hG3 hv3); clear hR3 hG3 hv3 hrow3 hcn3))
          clear y0 y1 y2
          have z0 := HC0.out w3 HI3.out.below
          have y0 := HX0.out w3 HI3.out.below
          cases e
          case false =>
            go_wp2_with fail
            go_quiet (fail)
            generalize hw42 : w3.drewN _ = w42
            have HI42 : Hid (FilesQ w1 w42 Q v3 (out ++ [f])) := by show FilesQ _ _ _ _ _; rw [← hw42]; exact HI3.out.drewN _
            clear hw42 y0 z0
            have z0 := HC0.out w42 HI42.out.below
            have z1 := HC1.out w42 HI42.out.below
            have z2 := HC2.out w42 HI42.out.below
            have hrow43 := HI42.out.row.alloc (.cells #[.string g.name, .slice g.A g.n g.c, .int .i64 (g.sure : Int)] 50)
            have hcn43 := cells_newR w42 g.cells 50
            have hsz43 : w1.heap.size ≤ (w42.alloc (.cells #[.string g.name, .slice g.A g.n g.c, .int .i64 (g.sure : Int)] 50)).heap.size := by have := HI42.out.below.size; simp; omega
            have hl43 : (out ++ [f]).length + 1 ≤ maxLen := by have := H63.out; (try simp only [List.length_append, List.length_cons, List.length_nil] at *); omega
            have hy43 : ((out ++ [f]).length + 1) * 48 ≤ 140737488355328 := by have := HBY.out; (try simp only [List.length_append, List.length_cons, List.length_nil] at *); omega
            have HOK43 : Hid (FilOk (w42.alloc (.cells #[.string g.name, .slice g.A g.n g.c, .int .i64 (g.sure : Int)] 50)) (fun b => Q b ∧ v3.ownBlock ≠ some b) g) := (HI42.out.elder HG.out).allocR _
            have HPU43 := Lib.hid (fun v7 w7 hR7 hG7 hv7 => HI42.out.push (V := w7) (v' := v7) g HOK43.out ((Below.refl _ w42).alloc (Nat.le_refl _) _) hR7 hG7 hv7)
            go_wp2_with (first | (refine wp_appN _ rfl (.tmp 38) (.tmp 43) 28 rfl w1.heap.size 50 Try.underlying28 hzi hzz hzs hzb (by rfl) (by decide) v3 (out ++ [f]).length ((out ++ [f]).flatMap Fil.cells) rfl hrow43 ⟨w42.heap.size, 0, none⟩ 1 _ g.cells rfl rfl hcn43 (cells_one g) hl43 hy43 hsz43 ?_; intro v43 w43 hR43 hG43 hv43; have HI43 := Lib.hid (HPU43.out v43 w43 hR43 hG43 hv43); clear hR43 hG43 hv43 hrow43 hcn43))
            try go_wp2_with fail
            go_roundw
            case rel => exact ⟨i + 1, by go_num, by omega, by rw [HSt.out]; rfl, by show FilesQ _ _ _ _ _; rw [HSt.out]; simpa using HI43.out⟩
            case measure => simp [intOf]; omega
          case true =>
            go_wp2_with fail
            go_quiet (fail)
            generalize hw42 : w3.drewN _ = w42
            have HI42 : Hid (FilesQ w1 w42 Q v3 (out ++ [f])) := by show FilesQ _ _ _ _ _; rw [← hw42]; exact HI3.out.drewN _
            clear hw42 y0 z0
            try go_wp2_with fail
            go_roundw
            case rel => exact ⟨i + 1, by go_num, by omega, by rw [HSt.out]; rfl, by show FilesQ _ _ _ _ _; rw [HSt.out]; simpa using HI42.out⟩
            case measure => simp [intOf]; omega
        case true =>
          have y0 := HX0.out wr HI.out.below
          have z0 := HC0.out wr HI.out.below
          go_wp2_with fail
          go_quiet (fail)
          generalize hw2 : wr.drewN _ = w2
          have HI2 : Hid (FilesQ w1 w2 Q u5 out) := by show FilesQ _ _ _ _ _; rw [← hw2]; exact HI.out.drewN _
          clear hw2 y0 z0
          have z0 := HC0.out w2 HI2.out.below
          have y0 := HX0.out w2 HI2.out.below
          cases e
          case false =>
            go_wp2_with fail
            go_quiet (fail)
            generalize hw42 : w2.drewN _ = w42
            have HI42 : Hid (FilesQ w1 w42 Q u5 (out)) := by show FilesQ _ _ _ _ _; rw [← hw42]; exact HI2.out.drewN _
            clear hw42 y0 z0
            have z0 := HC0.out w42 HI42.out.below
            have z1 := HC1.out w42 HI42.out.below
            have z2 := HC2.out w42 HI42.out.below
            have hrow43 := HI42.out.row.alloc (.cells #[.string g.name, .slice g.A g.n g.c, .int .i64 (g.sure : Int)] 50)
            have hcn43 := cells_newR w42 g.cells 50
            have hsz43 : w1.heap.size ≤ (w42.alloc (.cells #[.string g.name, .slice g.A g.n g.c, .int .i64 (g.sure : Int)] 50)).heap.size := by have := HI42.out.below.size; simp; omega
            have hl43 : (out).length + 1 ≤ maxLen := by have := H63.out; (try simp only [List.length_append, List.length_cons, List.length_nil] at *); omega
            have hy43 : ((out).length + 1) * 48 ≤ 140737488355328 := by have := HBY.out; (try simp only [List.length_append, List.length_cons, List.length_nil] at *); omega
            have HOK43 : Hid (FilOk (w42.alloc (.cells #[.string g.name, .slice g.A g.n g.c, .int .i64 (g.sure : Int)] 50)) (fun b => Q b ∧ u5.ownBlock ≠ some b) g) := (HI42.out.elder HG.out).allocR _
            have HPU43 := Lib.hid (fun v7 w7 hR7 hG7 hv7 => HI42.out.push (V := w7) (v' := v7) g HOK43.out ((Below.refl _ w42).alloc (Nat.le_refl _) _) hR7 hG7 hv7)
            go_wp2_with (first | (refine wp_appN _ rfl (.tmp 38) (.tmp 43) 28 rfl w1.heap.size 50 Try.underlying28 hzi hzz hzs hzb (by rfl) (by decide) u5 (out).length ((out).flatMap Fil.cells) rfl hrow43 ⟨w42.heap.size, 0, none⟩ 1 _ g.cells rfl rfl hcn43 (cells_one g) hl43 hy43 hsz43 ?_; intro v43 w43 hR43 hG43 hv43; have HI43 := Lib.hid (HPU43.out v43 w43 hR43 hG43 hv43); clear hR43 hG43 hv43 hrow43 hcn43))
            try go_wp2_with fail
            go_roundw
            case rel => exact ⟨i + 1, by go_num, by omega, by rw [HSt.out]; rfl, by show FilesQ _ _ _ _ _; rw [HSt.out]; simpa using HI43.out⟩
            case measure => simp [intOf]; omega
          case true =>
            go_wp2_with fail
            go_quiet (fail)
            generalize hw42 : w2.drewN _ = w42
            have HI42 : Hid (FilesQ w1 w42 Q u5 (out)) := by show FilesQ _ _ _ _ _; rw [← hw42]; exact HI2.out.drewN _
            clear hw42 y0 z0
            try go_wp2_with fail
            go_roundw
            case rel => exact ⟨i + 1, by go_num, by omega, by rw [HSt.out]; rfl, by show FilesQ _ _ _ _ _; rw [HSt.out]; simpa using HI42.out⟩
            case measure => simp [intOf]; omega
      case true =>
        go_wp2_with fail
        go_quiet (fail)
        generalize hw2 : wr.drewN _ = w2
        have HI2 : Hid (FilesQ w1 w2 Q u5 out) := by show FilesQ _ _ _ _ _; rw [← hw2]; exact HI.out.drewN _
        clear hw2
        have z0 := HC0.out w2 HI2.out.below
        have y0 := HX0.out w2 HI2.out.below
        cases e
        case false =>
          go_wp2_with fail
          go_quiet (fail)
          generalize hw42 : w2.drewN _ = w42
          have HI42 : Hid (FilesQ w1 w42 Q u5 (out)) := by show FilesQ _ _ _ _ _; rw [← hw42]; exact HI2.out.drewN _
          clear hw42 y0 z0
          have z0 := HC0.out w42 HI42.out.below
          have z1 := HC1.out w42 HI42.out.below
          have z2 := HC2.out w42 HI42.out.below
          have hrow43 := HI42.out.row.alloc (.cells #[.string g.name, .slice g.A g.n g.c, .int .i64 (g.sure : Int)] 50)
          have hcn43 := cells_newR w42 g.cells 50
          have hsz43 : w1.heap.size ≤ (w42.alloc (.cells #[.string g.name, .slice g.A g.n g.c, .int .i64 (g.sure : Int)] 50)).heap.size := by have := HI42.out.below.size; simp; omega
          have hl43 : (out).length + 1 ≤ maxLen := by have := H63.out; (try simp only [List.length_append, List.length_cons, List.length_nil] at *); omega
          have hy43 : ((out).length + 1) * 48 ≤ 140737488355328 := by have := HBY.out; (try simp only [List.length_append, List.length_cons, List.length_nil] at *); omega
          have HOK43 : Hid (FilOk (w42.alloc (.cells #[.string g.name, .slice g.A g.n g.c, .int .i64 (g.sure : Int)] 50)) (fun b => Q b ∧ u5.ownBlock ≠ some b) g) := (HI42.out.elder HG.out).allocR _
          have HPU43 := Lib.hid (fun v7 w7 hR7 hG7 hv7 => HI42.out.push (V := w7) (v' := v7) g HOK43.out ((Below.refl _ w42).alloc (Nat.le_refl _) _) hR7 hG7 hv7)
          go_wp2_with (first | (refine wp_appN _ rfl (.tmp 38) (.tmp 43) 28 rfl w1.heap.size 50 Try.underlying28 hzi hzz hzs hzb (by rfl) (by decide) u5 (out).length ((out).flatMap Fil.cells) rfl hrow43 ⟨w42.heap.size, 0, none⟩ 1 _ g.cells rfl rfl hcn43 (cells_one g) hl43 hy43 hsz43 ?_; intro v43 w43 hR43 hG43 hv43; have HI43 := Lib.hid (HPU43.out v43 w43 hR43 hG43 hv43); clear hR43 hG43 hv43 hrow43 hcn43))
          try go_wp2_with fail
          go_roundw
          case rel => exact ⟨i + 1, by go_num, by omega, by rw [HSt.out]; rfl, by show FilesQ _ _ _ _ _; rw [HSt.out]; simpa using HI43.out⟩
          case measure => simp [intOf]; omega
        case true =>
          go_wp2_with fail
          go_quiet (fail)
          generalize hw42 : w2.drewN _ = w42
          have HI42 : Hid (FilesQ w1 w42 Q u5 (out)) := by show FilesQ _ _ _ _ _; rw [← hw42]; exact HI2.out.drewN _
          clear hw42 y0 z0
          try go_wp2_with fail
          go_roundw
          case rel => exact ⟨i + 1, by go_num, by omega, by rw [HSt.out]; rfl, by show FilesQ _ _ _ _ _; rw [HSt.out]; simpa using HI42.out⟩
          case measure => simp [intOf]; omega
    · obtain rfl : i = len := by omega
      have hF : l.take i = l := by rw [← HL.out, List.take_length]
      rw [hF] at HI ⊢
      have b1 : ¬ i < i := Nat.lt_irrefl i
      have hlw : (wiS f l).1.length ≤ 2 * i := by have := wiS_len f l; rw [HL.out] at this; exact this
      have hwi : wiF f l = (wiS f l).1 ++ (if (wiS f l).2 then [] else [f]) := rfl
      obtain ⟨⟨out, D⟩, hP⟩ : ∃ p, wiS f l = p := ⟨_, rfl⟩
      rw [hP] at HI hlw hwi ⊢
      simp only at HI hlw hwi ⊢
      have HWI := Lib.hid hwi
      have H63 : Hid (out.length + 2 ≤ maxLen) := by show _ ≤ _; unfold maxLen; omega
      have HBY : Hid ((out.length + 2) * 48 ≤ 140737488355328) := by show _ ≤ _; omega
      clear hF hP hwi hlw HH HFL
      cases D
      case true =>
        go_wp2_with fail
        go_ret
        have := HI.out.done HQ.out
        exact ⟨_, rfl, by rw [HWI.out]; simpa using this, HB1.out.trans (HI.out.below.mono HB1.out.size)⟩
      case false =>
        have y0 := HX0.out wr HI.out.below
        have y1 := HX1.out wr HI.out.below
        have y2 := HX2.out wr HI.out.below
        have hrow3 := HI.out.row.alloc (.cells #[.string f.name, .slice f.A f.n f.c, .int .i64 (f.sure : Int)] 50)
        have hcn3 := cells_newR wr f.cells 50
        have hsz3 : w1.heap.size ≤ (wr.alloc (.cells #[.string f.name, .slice f.A f.n f.c, .int .i64 (f.sure : Int)] 50)).heap.size := by have := HI.out.below.size; simp; omega
        have hl3 : (out).length + 1 ≤ maxLen := by have := H63.out; (try simp only [List.length_append, List.length_cons, List.length_nil] at *); omega
        have hy3 : ((out).length + 1) * 48 ≤ 140737488355328 := by have := HBY.out; (try simp only [List.length_append, List.length_cons, List.length_nil] at *); omega
        have HOK3 : Hid (FilOk (wr.alloc (.cells #[.string f.name, .slice f.A f.n f.c, .int .i64 (f.sure : Int)] 50)) (fun b => Q b ∧ u5.ownBlock ≠ some b) f) := (HI.out.elder HF1.out).allocR _
        have HPU3 := Lib.hid (fun v7 w7 hR7 hG7 hv7 => HI.out.push (V := w7) (v' := v7) f HOK3.out ((Below.refl _ wr).alloc (Nat.le_refl _) _) hR7 hG7 hv7)
        go_wp2_with (first | (refine wp_appN _ rfl (.tmp 47) (.tmp 49) 28 rfl w1.heap.size 50 Try.underlying28 hzi hzz hzs hzb (by rfl) (by decide) u5 (out).length ((out).flatMap Fil.cells) rfl hrow3 ⟨wr.heap.size, 0, none⟩ 1 _ f.cells rfl rfl hcn3 (cells_one f) hl3 hy3 hsz3 ?_; intro v3 w3 hR3 hG3 hv3; have HI3 := Lib.hid (HPU3.out v3 w3 hR3 hG3 hv3); clear hR3 hG3 hv3 hrow3 hcn3))
        try go_wp2_with fail
        go_ret
        have := HI3.out.done HQ.out
        exact ⟨_, rfl, by rw [HWI.out]; exact this, HB1.out.trans (HI3.out.below.mono HB1.out.size)⟩
end Go.Proofs.Ytjdjidlopmanbaa

namespace Go.Proofs.Ytjdjidlopmanbaa
open Go.RowKit
set_option linter.unusedVariables false

theorem bb_irrefl : ∀ a : List UInt8, bytesBefore a a = false
  | [] => rfl
  | a :: r => by unfold bytesBefore; rw [bb_irrefl r]; simp
theorem bb_trans : ∀ {a b c : List UInt8}, bytesBefore a b = true → bytesBefore b c = true → bytesBefore a c = true
  | [], b, [], h1, h2 => by cases b <;> simp [bytesBefore] at h1 h2
  | [], b, c :: t, _, _ => by simp [bytesBefore]
  | a :: r, [], c, h1, _ => by simp [bytesBefore] at h1
  | a :: r, b :: s, [], _, h2 => by simp [bytesBefore] at h2
  | a :: r, b :: s, c :: t, h1, h2 => by
    unfold bytesBefore at h1 h2 ⊢
    rw [Bool.or_eq_true, Bool.and_eq_true, decide_eq_true_iff, beq_iff_eq] at h1 h2 ⊢
    rcases h1 with h1 | ⟨rfl, h1⟩ <;> rcases h2 with h2 | ⟨rfl, h2⟩
    · exact .inl (UInt8.lt_trans h1 h2)
    · exact .inl h1
    · exact .inl h2
    · exact .inr ⟨rfl, bb_trans h1 h2⟩
theorem bb_total : ∀ {a b : List UInt8}, bytesBefore a b = false → bytesBefore b a = false → a = b
  | [], [], _, _ => rfl
  | [], b :: s, h, _ => by simp [bytesBefore] at h
  | a :: r, [], _, h => by simp [bytesBefore] at h
  | a :: r, b :: s, h1, h2 => by
    unfold bytesBefore at h1 h2
    rw [Bool.or_eq_false_iff, Bool.and_eq_false_iff, decide_eq_false_iff_not, beq_eq_false_iff_ne] at h1 h2
    have hab : a = b := by
      have h3 := UInt8.not_lt.1 h1.1
      have h4 := UInt8.not_lt.1 h2.1
      exact UInt8.le_antisymm h4 h3
    subst hab
    have h3 : bytesBefore r s = false := by
      rcases h1.2 with h | h
      · exact absurd rfl h
      · exact h
    have h4 : bytesBefore s r = false := by
      rcases h2.2 with h | h
      · exact absurd rfl h
      · exact h
    rw [bb_total h3 h4]
theorem bb_asymm {a b : List UInt8} (h : bytesBefore a b = true) : bytesBefore b a = false := by
  cases hb : bytesBefore b a with
  | false => rfl
  | true =>
    have := bb_trans h hb
    rw [bb_irrefl] at this
    cases this
theorem bb_ne {a b : List UInt8} (h : bytesBefore a b = true) : a ≠ b := by
  rintro rfl
  rw [bb_irrefl] at h
  cases h
/-- By rising names. -/
def RisF (fs : List PF) : Prop := fs.Pairwise fun f g => bytesBefore f.name g.name = true
theorem RisF.drop {fs : List PF} (h : RisF fs) (nm : List UInt8) : RisF (dropF nm fs) := List.Pairwise.filter _ h
theorem RisF.map {fs : List PF} (h : RisF fs) (F : PF → PF) (hF : ∀ f, (F f).name = f.name) : RisF (fs.map F) := by
  unfold RisF
  rw [List.pairwise_map]
  exact h.imp fun {a b} hab => by rw [hF, hF]; exact hab
theorem RisF.ins : ∀ {fs : List PF} (f : PF), RisF fs → (∀ g ∈ fs, g.name ≠ f.name) → RisF (insF f fs)
  | [], f, _, _ => List.pairwise_singleton _ _
  | g :: r, f, h, hn => by
    obtain ⟨h1, h2⟩ := List.pairwise_cons.1 h
    unfold insF
    split
    · next hb =>
      refine List.pairwise_cons.2 ⟨fun x hx => ?_, h⟩
      rcases List.mem_cons.1 hx with rfl | hx
      · exact hb
      · exact bb_trans (show bytesBefore f.name g.name = true from hb) (h1 x hx)
    · next hb =>
      refine List.pairwise_cons.2 ⟨fun x hx => ?_, RisF.ins f h2 fun x hx => hn x (List.mem_cons_of_mem _ hx)⟩
      rcases mem_insF.1 hx with rfl | hx
      · cases hgb : bytesBefore g.name x.name with
        | true => rfl
        | false =>
          have hb' : bytesBefore x.name g.name = false := by
            have : ¬ bytesBefore x.name g.name = true := hb
            simpa using this
          exact absurd (bb_total hgb hb') (hn g (List.mem_cons_self ..))
      · exact h1 x hx
theorem RisF.put {fs : List PF} (h : RisF fs) (f : PF) : RisF (putF f fs) := RisF.ins f (h.drop _) fun g hg => (mem_dropF.1 hg).2
theorem RisF.begin_ {st : DSt} (h : RisF st.files) : RisF (beginS st).1.files := by
  unfold beginS
  split
  · exact h
  · split
    · exact h.map _ fun _ => rfl
    · exact h
theorem RisF.call {st : DSt} (h : RisF st.files) (go : DSt → DSt × Int) (hg : ∀ s : DSt, RisF s.files → RisF (go s).1.files) : RisF (callS go st).1.files := by
  unfold callS
  split
  · exact hg _ h.begin_
  · exact h.begin_
theorem RisF.append {st : DSt} (h : RisF st.files) (nm b : List UInt8) : RisF (appendS nm b st).1.files := by
  unfold appendS
  split
  · exact h
  split
  · exact h
  split
  · exact h
  · exact h.put _
theorem RisF.sync {st : DSt} (h : RisF st.files) (nm : List UInt8) : RisF (syncS nm st).1.files := by
  unfold syncS
  split
  · exact h
  · split
    · exact h
    · exact h.put _
theorem RisF.rename {st : DSt} (h : RisF st.files) (nm to : List UInt8) : RisF (renameS nm to st).1.files := by
  unfold renameS
  split
  · exact h
  · split
    · exact h
    · exact (h.drop _).put _
theorem RisF.remove {st : DSt} (h : RisF st.files) (nm : List UInt8) : RisF (removeS nm st).1.files := by
  unfold removeS
  split
  · exact h
  · split
    · exact h
    · exact h.drop _

/-! ### what the reference's lists are, as plain files -/
theorem woF_pf (nm : List UInt8) (l : List Fil) : (woF nm l).map Fil.pf = dropF nm (l.map Fil.pf) := by
  unfold woF dropF
  rw [List.filter_map]
  congr 1
  refine List.filter_congr fun g _ => ?_
  show decide (bl g.name ≠ nm) = !(bl g.name == nm)
  by_cases h : bl g.name = nm
  · simp [h]
  · simp [h]
theorem wi_done (f : Fil) : ∀ (r out : List Fil), r.foldl (wiStep f) (out, true) = (out ++ woF (bl f.name) r, true)
  | [], out => by unfold woF; simp
  | g :: r, out => by
    rw [List.foldl_cons]
    have : wiStep f (out, true) g = (out ++ (if bl g.name = bl f.name then [] else [g]), true) := by unfold wiStep; simp
    rw [this, wi_done f r]
    unfold woF
    by_cases h : bl g.name = bl f.name
    · simp [h]
    · simp [h]
theorem drop_none {nm : List UInt8} {fs : List PF} (h : ∀ g ∈ fs, g.name ≠ nm) : dropF nm fs = fs := by
  unfold dropF
  rw [List.filter_eq_self]
  intro g hg
  simpa using h g hg
theorem ins_first (f : PF) : ∀ fs : List PF, (∀ g ∈ fs, bytesBefore f.name g.name = true) → insF f fs = f :: fs
  | [], _ => rfl
  | g :: r, h => by
    unfold insF
    rw [if_pos (show (Lit.string f.name).before (.string g.name) = true from h g (List.mem_cons_self ..))]
theorem wi_go (f : Fil) : ∀ (r out : List Fil), RisF (r.map Fil.pf) → let p := r.foldl (wiStep f) (out, false); (p.1 ++ (if p.2 then [] else [f])).map Fil.pf = out.map Fil.pf ++ putF f.pf (r.map Fil.pf)
  | [], out, _ => by simp [putF, dropF, insF]
  | g :: r, out, h => by
    obtain ⟨h1, h2⟩ := List.pairwise_cons.1 (show ((g :: r).map Fil.pf).Pairwise _ from h)
    have h1' : ∀ x ∈ r.map Fil.pf, bytesBefore (bl g.name) x.name = true := h1
    rw [List.foldl_cons]
    cases hb : bytesBefore (bl g.name) (bl f.name) with
    | true =>
      have hne : bl g.name ≠ bl f.name := bb_ne hb
      have e : wiStep f (out, false) g = (out ++ [g], false) := by unfold wiStep; simp [hb, hne]
      rw [e]
      have ih := wi_go f r (out ++ [g]) h2
      simp only at ih ⊢
      rw [ih]
      have e2 : putF f.pf ((g :: r).map Fil.pf) = g.pf :: putF f.pf (r.map Fil.pf) := by
        unfold putF
        have e3 : dropF f.pf.name ((g :: r).map Fil.pf) = g.pf :: dropF f.pf.name (r.map Fil.pf) := by
          unfold dropF
          rw [List.map_cons, List.filter_cons, if_pos (by show (!(bl g.name == bl f.name)) = true; simpa using hne)]
        rw [e3]
        show (if (Lit.string (bl f.name)).before (.string (bl g.name)) then _ else _) = _
        rw [if_neg (by rw [show (Lit.string (bl f.name)).before (.string (bl g.name)) = bytesBefore (bl f.name) (bl g.name) from rfl, bb_asymm hb]; decide)]
      rw [e2]
      simp
    | false =>
      have e : wiStep f (out, false) g = (out ++ [f] ++ (if bl g.name = bl f.name then [] else [g]), true) := by unfold wiStep; simp [hb]
      rw [e, wi_done]
      simp only [if_true, List.append_nil, List.map_append, woF_pf]
      by_cases he : bl g.name = bl f.name
      · have hr : ∀ x ∈ r.map Fil.pf, bytesBefore f.pf.name x.name = true := fun x hx => by
          show bytesBefore (bl f.name) x.name = true
          rw [← he]
          exact h1' x hx
        have hd : dropF (bl f.name) (r.map Fil.pf) = r.map Fil.pf := drop_none fun x hx => (bb_ne (hr x hx)).symm
        have e3 : dropF f.pf.name ((g :: r).map Fil.pf) = r.map Fil.pf := by
          have : dropF f.pf.name ((g :: r).map Fil.pf) = dropF f.pf.name (r.map Fil.pf) := by
            unfold dropF
            rw [List.map_cons, List.filter_cons, if_neg (by show ¬ (!(bl g.name == bl f.name)) = true; simp [he])]
          rw [this]
          exact hd
        unfold putF
        rw [e3, ins_first f.pf _ hr, hd, if_pos he]
        simp
      · have hfg : bytesBefore (bl f.name) (bl g.name) = true := by
          cases hfg : bytesBefore (bl f.name) (bl g.name) with
          | true => rfl
          | false => exact absurd (bb_total hb hfg) he
        have hr : ∀ x ∈ (g :: r).map Fil.pf, bytesBefore f.pf.name x.name = true := fun x hx => by
          rw [List.map_cons] at hx
          rcases List.mem_cons.1 hx with rfl | hx
          · exact hfg
          · exact bb_trans hfg (h1' x hx)
        have hd : dropF (bl f.name) (r.map Fil.pf) = r.map Fil.pf := drop_none fun x hx => (bb_ne (hr x (by rw [List.map_cons]; exact List.mem_cons_of_mem _ hx))).symm
        have e3 : dropF f.pf.name ((g :: r).map Fil.pf) = (g :: r).map Fil.pf := drop_none fun x hx => (bb_ne (hr x hx)).symm
        unfold putF
        rw [e3, ins_first f.pf _ hr, hd, if_neg he]
        simp
theorem wiF_pf (f : Fil) (l : List Fil) (h : RisF (l.map Fil.pf)) : (wiF f l).map Fil.pf = putF f.pf (l.map Fil.pf) := by
  have := wi_go f l [] h
  simp only [List.map_nil, List.nil_append] at this
  exact this
end Go.Proofs.Ytjdjidlopmanbaa
