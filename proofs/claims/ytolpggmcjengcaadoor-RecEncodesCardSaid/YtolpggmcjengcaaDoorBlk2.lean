/-
  Memory words: an array out of a slice; x[k:] whatever the capacity; loads in a region whose reads go first.
-/
import Derived.Test.YtolpggmcjengcaaDoorBlk
import Derived.StillTailTactics
import Derived.Deep.WholeRow
import Derived.Deep.MidRow
namespace Go.Proofs.YtolpggmcjengcaaDoor
open Go.RowKit
set_option linter.unusedVariables false

/-- [n]T of a slice, as a pointer to the array. -/
theorem run_arrayAt {P : Program} (w : World) {t e : TypeId} {n : Nat} (ht : P.underlying t = some (.array n e)) (A : Option Addr) (m c : Nat) (h : n ≤ m) : (Instr.arrayAt t (.slice A m c)).run P w = .ok (.pointer A) w := by
  have h2 : ¬ m < n := by omega
  simp [Instr.arrayAt, run_underlying ht, h2]
/-- x[k:], whatever the capacity. -/
theorem slice_fromE {P : Program} {t e : TypeId} {z : Value} {bytes : Nat} (E : Elem P t e z bytes) (A : Option Addr) (n c k : Nat) (a : Int) (ha : a = k) (h1 : k ≤ n) (h2 : n ≤ c) :
    ∃ A', (∀ W : World, (Instr.slice t (.slice A n c) (some (.int .i64 a)) none none).run P W = .ok (.slice A' (n - k) (c - k)) W) ∧ ∀ (w : World) (B : Nat) (l : List UInt8), l.length = n → Bs w B A l → Bs w B A' (l.drop k) := by
  subst ha
  obtain ⟨ht, ⟨i, hi, _, hs, _⟩, _⟩ := E
  have hk : (0 : Int) ≤ (k : Int) ∧ (k : Int) ≤ (n : Int) := by omega
  by_cases hc : c = k
  · refine ⟨A, fun W => ?_, fun w B l hl hB => ?_⟩
    · simp [Instr.slice, Instr.sliceBounds, Instr.sliceBound, run_underlying ht, sizeOf, typeInfo, hi, hs, hc, go_sem]
      intro hlt
      omega
    · rw [List.drop_of_length_le (by omega)]
      exact .inl rfl
  · rcases A with _ | ⟨b, o, s⟩
    · refine ⟨none, fun W => ?_, fun w B l hl hB => ?_⟩
      · simp [Instr.slice, Instr.sliceBounds, Instr.sliceBound, run_underlying ht, sizeOf, typeInfo, hi, go_sem]
        intro hlt
        omega
      · rcases hB with h | ⟨b, o, e, _⟩
        · have : l = [] := by simpa using h
          subst this
          exact .inl (by simp)
        · cases e
    · refine ⟨some ((⟨b, o, s⟩ : Addr).add k), fun W => ?_, fun w B l hl hB => ?_⟩
      · simp [Instr.slice, Instr.sliceBounds, Instr.sliceBound, run_underlying ht, sizeOf, typeInfo, hi, hs, hc, go_sem]
        intro hlt
        omega
      · rcases Nat.eq_zero_or_pos l.length with h0 | h0
        · have : l = [] := List.eq_nil_of_length_eq_zero h0
          subst this
          exact .inl (by simp)
        · obtain ⟨b', o', e, _⟩ := hB.at_ h0
          simp at e
          obtain ⟨rfl, rfl, rfl⟩ := e
          have he : ({ block := b, off := o, spot := none } : Addr).add k = ⟨b, o + k, none⟩ := by unfold Addr.add; split <;> simp_all
          rw [he]
          exact hB.drop k rfl
/-- Cells stored over a whole block, as the walk's simp leaves a store of an array. -/
theorem run_storeCells_blk {P : Program} {w : World} {g : Nat} {t : TypeId} {vs : List Value} (h : Bk w g t vs) (xs : List Value) (hx : xs.length = vs.length) (h1 : ∀ v ∈ xs, v.oneCell' = true) :
    (storeCells ⟨g, 0, none⟩ xs 0).run P w = .ok () (w.setRow g xs.toArray) := by
  have := run_storeCells_from (P := P) g t xs 0 vs.toArray w h (by simp [hx]) h1
  simpa using this
theorem run_storeCells_last {P : Program} (w : World) (cs : Array Value) (t : TypeId) (xs : List Value) (hx : xs.length = cs.size) (h1 : ∀ v ∈ xs, v.oneCell' = true) :
    (storeCells ⟨w.heap.size, 0, none⟩ xs 0).run P (w.alloc (.cells cs t)) = .ok () (w.alloc (.cells xs.toArray t)) := by
  rw [run_storeCells_blk (Bk.new w cs t) xs (by simpa using hx) h1, World.setRow_alloc_new]
/-- x[lo:hi] -/
theorem slice_both {P : Program} {t e : TypeId} {z : Value} {bytes : Nat} (E : Elem P t e z bytes) (b o n c lo hi : Nat) (x y : Int) (hx : x = lo) (hy : y = hi) (h1 : lo ≤ hi) (h2 : hi ≤ c) (h3 : lo < c) (W : World) :
    (Instr.slice t (.slice (some ⟨b, o, none⟩) n c) (some (.int .i64 x)) (some (.int .i64 y)) none).run P W = .ok (.slice (some ⟨b, o + lo, none⟩) (hi - lo) (c - lo)) W := by
  subst hx hy
  obtain ⟨ht, ⟨i, hi', _, hs, _⟩, _⟩ := E
  have hc : ¬ c = lo := by omega
  have he : ({ block := b, off := o, spot := none } : Addr).add lo = ⟨b, o + lo, none⟩ := by unfold Addr.add; split <;> simp_all
  simp [Instr.slice, Instr.sliceBounds, Instr.sliceBound, run_underlying ht, sizeOf, typeInfo, hi', hs, hc, h1, h2, go_sem]
/-- x[:] of an array behind a pointer. -/
theorem slice_arr_all {P : Program} {t e : TypeId} {n : Nat} (ht : P.underlying t = some (.array n e)) (h1 : (P.info? e).map (·.size) = some 1) (a : Addr) (W : World) :
    (Instr.sliceAt t (.pointer (some a)) none none none).run P W = .ok (.slice (some a) n n) W := by
  cases hq : P.info? e with
  | none => simp [hq] at h1
  | some i =>
    simp [Instr.sliceAt, Instr.sureAddr, Instr.sliceBounds, run_underlying ht, sizeOf, typeInfo, hq, go_sem]
/-- Stored cell by cell, or as a row: the same world. -/
theorem ArrT.setCells {P : Program} {t : TypeId} {n : Nat} (T : ArrT P t n) {w : World} {g : Nat} {t' : TypeId} {vs : List Value} (h : Bk w g t' vs) (hn : vs.length = n) (xs : List Value) (hx : xs.length = n) (h1 : ∀ v ∈ xs, v.oneCell' = true) :
    w.setCells g 0 xs = w.setRow g xs.toArray := by
  have e1 := run_storeVar_mid (P := P) w g 0 t xs.toArray (fun j hj => by rw [Nat.zero_add, h.cell, h.frozen]; simp at hj; simp; omega) (by rw [T.size]; simp [hx]) (all_oneCell_toArray h1)
  have e2 := run_storeVar_row (P := P) w g t' t vs.toArray xs.toArray h (by rw [T.size]; simp [hx]) (by simp [hn, hx]) (all_oneCell_toArray h1)
  rw [e2] at e1
  injection e1 with _ e
  exact e.symm
theorem Bk.there {w : World} {g : Nat} {t : TypeId} {vs : List Value} (h : Bk w g t vs) (n : Nat) (hn : vs.length = n) : w.there g 0 n := fun j hj => by
  rw [Nat.zero_add, h.cell, h.frozen, List.getElem?_eq_getElem (by omega)]
  exact ⟨rfl, rfl⟩
/-- Nothing but what is new has turned: all the less but one block. -/
theorem gof {a w : World} (hb : Below a.heap.size a w) (row : Option Nat) : a.grownBy w row := ⟨hb.os, hb.tape, hb.output, hb.size, fun k hk _ => hb.block k hk⟩
/-- append onto a row of the call's own, as a step of a region that draws its order. -/
theorem step_app {P : Program} (w : World) {ops : Array Oper} {o : Oper} {a : Act} {K : Act → World → Prop} {Q : Exit → Act → World → Prop} {E0 : Prop} (hgd : o.guard = none) (s x : Operand) (t : TypeId)
    (ho : o.op = .call { callee := .builtin .append, args := #[s, x], argTypes := #[t, t] })
    (base : Nat) (e : TypeId) {z : Value} {bytes : Nat} (E : Elem P t e z bytes) (v : Value) (xs : List Value) (hs : a.eval s = v) (hown : Own w base e v xs)
    (B : Nat) (A : Option Addr) (m c : Nat) (news : List Value) (hx : a.eval x = .slice A m c) (hm : news.length = m) (hr : Vs w B A news) (h1 : ∀ u ∈ news, u.oneCell' = true)
    (h63 : xs.length + m ≤ maxLen) (hbytes : (xs.length + m) * bytes ≤ 140737488355328) (hbase : base ≤ w.heap.size)
    (h : ∀ v' w', Own w' base e v' (xs ++ news) → w.grownBy w' v.ownBlock → (v'.ownBlock = v.ownBlock ∨ v'.ownBlock = some w.heap.size) → K (a.put o.dst v') w') :
    if Region.wanted o (yielded ops a.tmps) = true then Oper.wp P o a w K Q else E0 := by
  rw [if_pos (by simp [Region.wanted, hgd])]
  obtain ⟨v', w', hrun, h2, h3, h4⟩ := run_app w base t o.type e E v xs hown B A m c news hm hr h1 h63 hbytes hbase
  unfold Oper.wp execOp
  simp only [ho, resolve, invoke, builtin, Sem.run_bind, Sem.run_pure, Result.andThen_ok, List.map_toArray, List.map_cons, List.map_nil, hs, hx, hrun]
  exact h v' w' h2 h3 h4
/-- A load in a region whose reads go first, by its run equation. -/
theorem st_load {P : Program} {ops : Array Oper} {rest : List Oper} {o : Oper} {a : Act} {w : World} {Q : Act → Prop} (hgd : o.guard = none) (t : TypeId) (x : Operand) (ho : o.op = .load t x) (p v : Value) (hx : a.eval x = p)
    (hrun : (Instr.loadAt t p).run P w = .ok v w) (h : wpStill P ops w Q rest (a.put o.dst v)) : wpStill P ops w Q (o :: rest) a := by
  refine wpStill_step fun K hK => ?_
  rw [if_pos (by simp [Region.wanted, hgd])]
  unfold Oper.still execOp
  simp only [ho, hx, Sem.run_bind, hrun, Result.andThen_ok, Sem.run_pure, Oper.stillUpon_value]
  exact hK _ h
end Go.Proofs.YtolpggmcjengcaaDoor
