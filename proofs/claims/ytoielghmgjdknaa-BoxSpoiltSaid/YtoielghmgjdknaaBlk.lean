/-
  Memory words of my own: a block that is known whole, and what stores make of it; values of arrays, in and out of such a block.
-/
import Derived.Test.YtoielghmgjdknaaMem
import Derived.Laws.Rows
import Derived.Laws.Tables
import Derived.ChangeKeysEq
import Derived.Laws.MakeOwn
namespace Go.Proofs.Ytoielghmgjdknaa
open Go.RowKit
set_option linter.unusedVariables false

/-- Block g is just the cells vs (element type t), none of them frozen. -/
def Bk (w : World) (g : Nat) (t : TypeId) (vs : List Value) : Prop := w.heap[g]? = some (.cells vs.toArray t (0, 0))

section
variable {w w' : World} {g B : Nat} {t : TypeId} {vs : List Value}
theorem Bk.lt (h : Bk w g t vs) : g < w.heap.size := (Array.getElem?_eq_some_iff.1 h).1
theorem Bk.cell (h : Bk w g t vs) (i : Nat) : w.cell? ⟨g, i, none⟩ = vs[i]? := by
  rw [cell_of_row w g i _ t (0, 0) h]
  simp
theorem Bk.cellAt (h : Bk w g t vs) (i : Nat) (hi : i < vs.length) : w.cell? ⟨g, i, none⟩ = some vs[i] := by
  rw [h.cell, List.getElem?_eq_getElem hi]
theorem Bk.has (h : Bk w g t vs) (i : Nat) (hi : i < vs.length) : ∃ v, w.cell? ⟨g, i, none⟩ = some v := ⟨_, h.cellAt i hi⟩
theorem Bk.frozen (h : Bk w g t vs) (i : Nat) : w.frozen? ⟨g, i, none⟩ = false := by
  unfold Bk at h
  simp [World.frozen?, h]
theorem Bk.new (w : World) (cs : Array Value) (t : TypeId) : Bk (w.alloc (.cells cs t)) w.heap.size t cs.toList := by
  unfold Bk
  rw [Array.toArray_toList]
  exact heap_alloc_new w _
theorem Bk.newL (w : World) (cs : Array Value) (t : TypeId) (vs : List Value) (h : cs.toList = vs) : Bk (w.alloc (.cells cs t)) w.heap.size t vs := h ▸ Bk.new w cs t
theorem Bk.new' (w : World) (cs : Array Value) (t : TypeId) (g : Nat) (vs : List Value) (hg : g = w.heap.size) (h : cs.toList = vs) : Bk (w.alloc (.cells cs t)) g t vs := by
  subst hg
  exact Bk.newL w cs t vs h
theorem Bk.drewN (h : Bk w g t vs) (n : Nat) : Bk (w.drewN n) g t vs := h
theorem Bk.alloc (h : Bk w g t vs) (o : Obj) : Bk (w.alloc o) g t vs := (Below.heap_alloc w o g h.lt).trans h
theorem Bk.set_ (h : Bk w g t vs) (i : Nat) (u : Value) : Bk (w.setCell ⟨g, i, none⟩ u) g t (vs.set i u) := by
  have := heap_setCell_same w g i _ t u h
  unfold Bk
  rw [this]
  congr 1
  simp
theorem Bk.far (h : Bk w g t vs) {p : Addr} (hp : g ≠ p.block) (u : Value) : Bk (w.setCell p u) g t vs := (heap_setCell_other w p g u hp).trans h
theorem Bk.below (h : Bk w g t vs) (hb : Below B w w') (hg : g < B) : Bk w' g t vs := (hb.block g hg).trans h
theorem Bk.grown {row : Option Nat} (h : Bk w g t vs) (hb : w.grownBy w' row) (hg : some g ≠ row) : Bk w' g t vs := (hb.block g h.lt hg).trans h
theorem Bk.row (h : Bk w g t vs) (cs : Array Value) : Bk (w.setRow g cs) g t cs.toList := by
  unfold Bk
  rw [Array.toArray_toList]
  exact setRow_heap w g vs.toArray cs t _ h
theorem Bk.part (h : Bk w g t vs) (o k : Nat) : Vs w w.heap.size (some ⟨g, o, none⟩) ((vs.drop o).take k) :=
  .inr ⟨g, o, rfl, h.lt, fun j hj => by
    simp at hj
    rw [h.cell, List.getElem_take, List.getElem_drop, List.getElem?_eq_getElem (by omega)]⟩
theorem grown_set (w : World) (g i : Nat) (u : Value) : w.grownBy (w.setCell ⟨g, i, none⟩ u) (some g) :=
  ⟨rfl, rfl, rfl, by simp, fun k hk hne => heap_setCell_other w _ k u (by rintro rfl; exact hne rfl)⟩
theorem grown_row (w : World) (g : Nat) (cs : Array Value) : w.grownBy (w.setRow g cs) (some g) :=
  ⟨rfl, rfl, rfl, by simp, fun k hk hne => setRow_other w g k cs (by rintro rfl; exact hne rfl)⟩
theorem below_row {a : World} (h : Below B a w) (hg : B ≤ g) (cs : Array Value) : Below B a (w.setRow g cs) :=
  ⟨h.os, h.tape, h.output, by simpa using h.size, fun k hk => (setRow_other w g k cs (by omega)).trans (h.block k hk)⟩
end

/-- What is asked of an array's type: n one-cell parts. -/
structure ArrT (P : Program) (t : TypeId) (n : Nat) : Prop where
  ty : ∃ e, P.underlying t = some (.array n e)
  size : (P.info? t).map (·.size) = some n

section
variable {P : Program} {t : TypeId} {n : Nat}
theorem ArrT.load (T : ArrT P t n) {w : World} {g : Nat} {t' : TypeId} {vs : List Value} (h : Bk w g t' vs) (hn : vs.length = n) :
    (Instr.loadAt t (.pointer (some ⟨g, 0, none⟩))).run P w = .ok (.agg vs.toArray) w := by
  obtain ⟨⟨e, hu⟩, hs⟩ := T
  simp only [Instr.loadAt, Instr.sureAddr, Sem.run_bind, Sem.run_pure, Result.andThen_ok]
  exact run_loadVar_row w g t' t vs.toArray (0, 0) _ h hu rfl (by rw [hs]; simp [hn])
theorem ArrT.store (T : ArrT P t n) {w : World} {g : Nat} {t' : TypeId} {vs : List Value} (h : Bk w g t' vs) (hn : vs.length = n) (xs : List Value) (hx : xs.length = n) (h1 : ∀ v ∈ xs, v.oneCell' = true) :
    (Instr.storeAt t (.pointer (some ⟨g, 0, none⟩)) (.agg xs.toArray)).run P w = .ok () (w.setRow g xs.toArray) := by
  obtain ⟨⟨e, hu⟩, hs⟩ := T
  simp only [Instr.storeAt, Instr.sureAddr, Sem.run_bind, Sem.run_pure, Result.andThen_ok]
  refine run_storeVar_row w g t' t vs.toArray xs.toArray h (by rw [hs]; simp [hx]) (by simp [hn, hx]) ?_
  rw [Array.all_eq_true_iff_forall_mem]
  simpa using h1
theorem ArrT.result (T : ArrT P t n) {fn : Func} {p : Tmp} (h : fn.results = #[.cell p t]) (tmps : Array Value) {w : World} {g : Nat} {t' : TypeId} {vs : List Value} (hg : Bk w g t' vs) (hn : vs.length = n)
    (hp : tmps.getD p undef = .pointer (some ⟨g, 0, none⟩)) : (results fn tmps).run P w = .ok (.agg vs.toArray) w := by
  obtain ⟨⟨e, hu⟩, hs⟩ := T
  exact results_cell_row h tmps w g t' vs.toArray (0, 0) _ hp hg hu rfl (by rw [hs]; simp [hn])
/-- A whole array is stored. -/
theorem ArrT.wpStore (T : ArrT P t n) {ops : Array Oper} {rest : List Oper} {o : Oper} {a : Act} {w : World} {Q : Exit → Act → World → Prop} (hgd : o.guard = none) (x y : Operand) (ho : o.op = .store t x y)
    {g : Nat} {t' : TypeId} {vs : List Value} (hx : a.eval x = .pointer (some ⟨g, 0, none⟩)) (h : Bk w g t' vs) (hn : vs.length = n) (xs : List Value) (hy : a.eval y = .agg xs.toArray) (hl : xs.length = n) (h1 : ∀ v ∈ xs, v.oneCell' = true)
    (hK : wpList P ops Q rest (a.put o.dst undef) (w.setRow g xs.toArray)) : wpList P ops Q (o :: rest) a w :=
  wpList_store_row hgd t x y ho g xs.toArray hx hy t' vs.toArray h (by rw [T.size]; simp [hl]) (by simp [hn, hl]) (by rw [Array.all_eq_true_iff_forall_mem]; simpa using h1) hK
theorem ArrT.wpLoad (T : ArrT P t n) {ops : Array Oper} {rest : List Oper} {o : Oper} {a : Act} {w : World} {Q : Exit → Act → World → Prop} (hgd : o.guard = none) (x : Operand) (ho : o.op = .load t x)
    {g : Nat} {t' : TypeId} {vs : List Value} (hx : a.eval x = .pointer (some ⟨g, 0, none⟩)) (h : Bk w g t' vs) (hn : vs.length = n)
    (hK : wpList P ops Q rest (a.put o.dst (.agg vs.toArray)) w) : wpList P ops Q (o :: rest) a w := by
  obtain ⟨e, hu⟩ := T.ty
  exact wpList_load_row hgd t x ho g hx t' vs.toArray (0, 0) _ h hu rfl (by rw [T.size]; simp [hn]) hK
/-- A literal of an array, as these parts. -/
theorem wp_buildTo {ops : Array Oper} {rest : List Oper} {o : Oper} {a : Act} {w : World} {Q : Exit → Act → World → Prop} (hg : o.guard = none) (t : TypeId) (parts : Array (Nat × Operand)) (ho : o.op = .build t parts)
    (xs : List Value) (hf : P.built t (parts.map fun (i, x) => (i, a.eval x)).toList = some xs.toArray) (h : wpList P ops Q rest (a.put o.dst (.agg xs.toArray)) w) : wpList P ops Q (o :: rest) a w :=
  wpList_build hg t parts ho (by rw [hf]; rfl) (by rw [hf]; exact h)
end
/-- x[j] of an array that is a value. -/
theorem run_index_arr {P : Program} (w : World) {t e : TypeId} {n : Nat} {k : IntKind} (ht : P.underlying t = some (.array n e)) (he : P.underlying e = some (.int k)) (h1 : (P.info? e).map (·.size) = some 1)
    (xs : List Value) (hn : xs.length = n) (j : Nat) (v : Value) (hv : xs[j]? = some v) : (Instr.index t (.agg xs.toArray) (.int .i64 (j : Int))).run P w = .ok v w := by
  have hj : j < n := by have := (List.getElem?_eq_some_iff.1 hv).1; omega
  cases hq : P.info? e with
  | none => simp [hq] at h1
  | some i =>
    have hs : i.size = 1 := by simpa [hq] using h1
    have hp : (part e xs.toArray j).run P w = .ok v w := run_part_plain w (by simp [Program.plainKey, he]) (by simpa using hv)
    simp [Instr.index, asIntOf, run_underlying ht, sizeOf, typeInfo, hq, hs, hj, hp]
/-- x[lo:hi] of an array behind a pointer. -/
theorem slice_arr {P : Program} (w : World) {t e : TypeId} {n : Nat} (ht : P.underlying t = some (.array n e)) (h1 : (P.info? e).map (·.size) = some 1) (g o lo hi : Nat) (a b : Int) (ha : a = lo) (hb : b = hi) (h2 : lo ≤ hi) (h3 : hi ≤ n) (h4 : lo < n) :
    (Instr.sliceAt t (.pointer (some ⟨g, o, none⟩)) (some (.int .i64 a)) (some (.int .i64 b)) none).run P w = .ok (.slice (some ⟨g, o + lo, none⟩) (hi - lo) (n - lo)) w := by
  subst ha hb
  cases hq : P.info? e with
  | none => simp [hq] at h1
  | some i =>
    have hs : i.size = 1 := by simpa [hq] using h1
    have he : ({ block := g, off := o, spot := none } : Addr).add lo = ⟨g, o + lo, none⟩ := by unfold Addr.add; split <;> simp_all
    have h5 : ¬ n = lo := by omega
    simp [Instr.sliceAt, Instr.sureAddr, Instr.sliceBounds, Instr.sliceBound, run_underlying ht, sizeOf, typeInfo, hq, hs, h2, h3, h5, go_sem]
/-- make([]T, n). -/
theorem make_row {P : Program} {t e : TypeId} {z : Value} {bytes : Nat} (E : Elem P t e z bytes) (hz1 : z.cells = #[z]) (w : World) (n : Nat) (a : Int) (ha : a = n) (hb : n * bytes ≤ 281474976710656) (hn : n ≤ 9223372036854775807) :
    (Instr.makeSlice t (.int .i64 a) (.int .i64 a)).run P w = .ok (.slice (some ⟨w.heap.size, 0, none⟩) n n) (w.alloc (.cells (List.replicate n z).toArray e)) := by
  subst ha
  obtain ⟨ht, ⟨i, hi, hz, hs, hby⟩, _⟩ := E
  have hbb : (i.bytes : Int) * (n : Int) ≤ 281474976710656 := by rw [hby, ← Int.natCast_mul, Nat.mul_comm]; omega
  have h := run_make (P := P) w t e i z ht hi hz .i64 .i64 n n (by omega) (Int.le_refl _) hbb (by omega)
  rw [h]
  congr 3
  · rw [hs, hz1]
    apply Array.ext
    · simp [madeCells]
    · intro j h1 h2
      simp [madeCells, Nat.mod_one]
/-- x[k:] -/
theorem slice_fromI {P : Program} {t e : TypeId} {z : Value} {bytes : Nat} (E : Elem P t e z bytes) (w : World) (b o n c k : Nat) (a : Int) (ha : a = k) (h1 : k ≤ n) (h2 : k < c) :
    (Instr.slice t (.slice (some ⟨b, o, none⟩) n c) (some (.int .i64 a)) none none).run P w = .ok (.slice (some ⟨b, o + k, none⟩) (n - k) (c - k)) w := by
  subst ha
  exact slice_from E w b o n c k h1 h2
theorem uv_one' {k : IntKind} {α : Type} (f : α → Int) (l : List α) : ∀ v ∈ l.map fun x => Value.int k (f x), v.oneCell' = true := by
  intro v hv
  obtain ⟨x, _, rfl⟩ := List.mem_map.1 hv
  rfl
end Go.Proofs.Ytoielghmgjdknaa
