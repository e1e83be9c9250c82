/-
  Memory words of my own: a slice that reads as a list of one-cell values; one that the call owns; append onto it, whatever the source.
-/
import Derived.Test.YtoielghmgjdknaaRows
import Derived.WalkKit
import Derived.ProofKit
import Derived.OpenShut
import Derived.ShutString
import Derived.ChangeOld
import Derived.Below
import Derived.Deep.Draws
import Derived.Maps.AppendAt
import Derived.Deep.AppendLies
import Derived.Laws.OwnMore
import Derived.Lib.Hide
import Derived.WalkSpells
import Derived.WalkLawsBesides
import Derived.Outline
import Derived.Deep.QuietTactic
import Derived.BigQuiet
namespace Go.Proofs.Ytoielghmgjdknaa
open Go.RowKit
set_option linter.unusedVariables false

/-! ### values that are read -/

/-- The cells xs stand at A, below block B. -/
def Vs (w : World) (B : Nat) (A : Option Addr) (xs : List Value) : Prop :=
  xs = [] ∨ ∃ b o, A = some ⟨b, o, none⟩ ∧ b < B ∧ ∀ (j : Nat) (h : j < xs.length), w.cell? ⟨b, o + j, none⟩ = some xs[j]

section
variable {w w' : World} {B B' : Nat} {A : Option Addr} {xs : List Value}
theorem Vs.nil (w : World) (B : Nat) (A : Option Addr) : Vs w B A [] := .inl rfl
theorem Vs.at_ (h : Vs w B A xs) (hl : 0 < xs.length) :
    ∃ b o, A = some ⟨b, o, none⟩ ∧ b < B ∧ ∀ (j : Nat) (h : j < xs.length), w.cell? ⟨b, o + j, none⟩ = some xs[j] := by
  rcases h with rfl | h
  · simp at hl
  · exact h
theorem Vs.keep (h : Vs w B A xs) (hk : ∀ p : Addr, p.block < B → w'.cell? p = w.cell? p) : Vs w' B A xs := by
  rcases h with rfl | ⟨b, o, rfl, hb, hc⟩
  · exact .inl rfl
  · exact .inr ⟨b, o, rfl, hb, fun j hj => (hk _ hb).trans (hc j hj)⟩
theorem Vs.below (h : Vs w B A xs) (hb : Below B' w w') (hB : B ≤ B') : Vs w' B A xs := h.keep fun _ hp => hb.cell (Nat.lt_of_lt_of_le hp hB)
theorem Vs.more (h : Vs w B A xs) (hB : B ≤ B') : Vs w B' A xs := by
  rcases h with rfl | ⟨b, o, rfl, hb, hc⟩
  · exact .inl rfl
  · exact .inr ⟨b, o, rfl, by omega, hc⟩
theorem Vs.drewN (h : Vs w B A xs) (n : Nat) : Vs (w.drewN n) B A xs := h
theorem Vs.alloc (h : Vs w B A xs) (hB : B ≤ w.heap.size) (o : Obj) : Vs (w.alloc o) B A xs := h.keep fun p hp => World.cell?_alloc_lt w o p (by omega)
theorem Vs.lt (h : Vs w B A xs) : Vs w (min B w.heap.size) A xs := by
  rcases h with rfl | ⟨b, o, rfl, hb, hc⟩
  · exact .inl rfl
  · rcases Nat.eq_zero_or_pos xs.length with h0 | h0
    · exact .inl (List.eq_nil_of_length_eq_zero h0)
    · have := World.block_lt_of_cell? w _ (hc 0 h0)
      simp only at this
      exact .inr ⟨b, o, rfl, by omega, hc⟩
theorem Vs.take (h : Vs w B A xs) (k : Nat) : Vs w B A (xs.take k) := by
  rcases h with rfl | ⟨b, o, rfl, hb, hc⟩
  · exact .inl (by simp)
  · exact .inr ⟨b, o, rfl, hb, fun j hj => by
      have hj' : j < xs.length := by simp at hj; omega
      rw [hc j hj', List.getElem_take]⟩
theorem Vs.grown (h : Vs w B A xs) {row : Option Nat} (hg : w.grownBy w' row) (hB : B ≤ w.heap.size) (hr : ∀ g, row = some g → B ≤ g) : Vs w' B A xs :=
  h.keep fun p hp => World.cell?_of_block (hg.block p.block (by omega) (fun e => by have := hr _ e.symm; omega))
end

/-! ### a row of the call's own -/

/-- The slice value v is the call's own (blocks from base on), and holds xs. -/
def Own (w : World) (base : Nat) (e : TypeId) (v : Value) (xs : List Value) : Prop := w.ownsRow base e 1 v xs.length xs

section
variable {w w' : World} {base : Nat} {e : TypeId} {v : Value} {xs : List Value}
theorem Own.nil (w : World) (base : Nat) (e : TypeId) : Own w base e (.slice none 0 0) [] := World.ownsRow_nil w base e 1
theorem Own.form (h : Own w base e v xs) : ∃ A c, v = .slice A xs.length c ∧ xs.length ≤ c ∧ c ≤ maxLen ∧ Vs w w.heap.size A xs := by
  have hh := h
  obtain ⟨h1, h2⟩ := h
  rcases h2 with ⟨rfl, h0⟩ | ⟨g, cap, cur, rfl, hb, hg, hn, hm, _⟩
  · exact ⟨none, 0, by rw [h0], by omega, Nat.zero_le _, .inl (List.eq_nil_of_length_eq_zero h0)⟩
  · refine ⟨some ⟨g, 0, none⟩, cap, rfl, hn, hm, .inr ⟨g, 0, rfl, (Array.getElem?_eq_some_iff.1 hg).1, fun j hj => ?_⟩⟩
    have := World.ownsRow.cells hh (g := g) rfl j xs[j] (by simp [hj])
    have e : ({ block := g, off := 0, spot := none } : Addr).add j = ⟨g, 0 + j, none⟩ := by unfold Addr.add; split <;> simp_all
    rw [e] at this
    exact this
theorem Own.lt (h : Own w base e v xs) : ∀ k, v.ownBlock = some k → base ≤ k ∧ k < w.heap.size := World.ownsRow.lt h
theorem Own.kept {row : Option Nat} (h : Own w base e v xs) (hg : w.grownBy w' row) (hne : v.ownBlock = none ∨ v.ownBlock ≠ row) : Own w' base e v xs := World.ownsRow.kept h hg hne
theorem Own.alloc (h : Own w base e v xs) (o : Obj) : Own (w.alloc o) base e v xs := World.ownsRow.alloc h o
theorem Own.drewN (h : Own w base e v xs) (n : Nat) : Own (w.drewN n) base e v xs := h
theorem Own.below {B : Nat} (h : Own w base e v xs) (hb : Below B w w') (hB : w.heap.size ≤ B) : Own w' base e v xs :=
  World.ownsRow.kept h (row := none) ⟨hb.os, hb.tape, hb.output, hb.size, fun k hk _ => hb.block k (by omega)⟩ (by cases hv : v.ownBlock <;> simp)
theorem Own.mono {base' : Nat} (h : Own w base e v xs) (hb : base' ≤ base) : Own w base' e v xs := by
  obtain ⟨h1, h2⟩ := h
  refine ⟨h1, ?_⟩
  rcases h2 with h2 | ⟨g, cap, cur, hv, hg, r⟩
  · exact .inl h2
  · exact .inr ⟨g, cap, cur, hv, by omega, r⟩
end

/-- What is asked of an element type of one cell. -/
structure Elem (P : Program) (t e : TypeId) (z : Value) (bytes : Nat) : Prop where
  ty : P.underlying t = some (.slice e)
  info : ∃ i, P.info? e = some i ∧ i.zero = some z ∧ i.size = 1 ∧ i.bytes = bytes
  one : z.cells.size = 1

theorem Elem.mk' {P : Program} {t e : TypeId} {z : Value} {bytes : Nat} (ht : P.underlying t = some (.slice e)) (h : (P.info? e).map (fun i => (i.zero, i.size, i.bytes)) = some (some z, 1, bytes))
    (h1 : z.cells.size = 1) : Elem P t e z bytes := ⟨ht, let ⟨i, a, b, c, d⟩ := info_parts h; ⟨i, a, b, c, d⟩, h1⟩

section
variable {P : Program}
theorem run_append_empty (w : World) (base : Nat) (t ty e : TypeId) {z : Value} {bytes : Nat} (E : Elem P t e z bytes) (v : Value) (xs : List Value) (hown : Own w base e v xs) (A : Option Addr) (c : Nat) :
    (Builtin.append_ #[t, t] ty #[v, .slice A 0 c]).run P w = .ok v w := by
  obtain ⟨ht, ⟨i, hi, _, hs, _⟩, _⟩ := E
  rcases hown.2 with ⟨rfl, h0⟩ | ⟨g, cap, cur, rfl, _, _, hnc, _⟩
  · cases A <;> simp [Builtin.append_, run_underlying ht, sizeOf, typeInfo, hi, Builtin.lenOf, Builtin.firstCells, loadCells, loadCellsFrom]
  · cases A <;> simp [Builtin.append_, run_underlying ht, sizeOf, typeInfo, hi, Builtin.lenOf, Builtin.firstCells, hnc, storeCells, loadCells, loadCellsFrom]

/-- append onto a row of the call's own, whatever the source. -/
theorem run_app (w : World) (base : Nat) (t ty e : TypeId) {z : Value} {bytes : Nat} (E : Elem P t e z bytes) (v : Value) (xs : List Value) (hown : Own w base e v xs)
    (B : Nat) (A : Option Addr) (m c : Nat) (news : List Value) (hm : news.length = m) (hr : Vs w B A news) (h1 : ∀ u ∈ news, u.oneCell' = true)
    (h63 : xs.length + m ≤ maxLen) (hbytes : (xs.length + m) * bytes ≤ 140737488355328) (hbase : base ≤ w.heap.size) :
    ∃ v' w', (Builtin.append_ #[t, t] ty #[v, .slice A m c]).run P w = .ok v' w' ∧ Own w' base e v' (xs ++ news) ∧ w.grownBy w' v.ownBlock ∧
      (v'.ownBlock = v.ownBlock ∨ v'.ownBlock = some w.heap.size) := by
  subst hm
  rcases Nat.eq_zero_or_pos news.length with h0 | h0
  · have hn : news = [] := List.eq_nil_of_length_eq_zero h0
    subst hn
    exact ⟨v, w, run_append_empty w base t ty e E v xs hown A c, by simpa using hown, World.grownBy.refl w _, .inl rfl⟩
  · obtain ⟨b, o, rfl, _, hc⟩ := hr.at_ h0
    obtain ⟨ht, ⟨i, hi, hz, hs, hby⟩, hone⟩ := E
    obtain ⟨v', w', hrun, h2, h3, _, h5⟩ := run_append_own_at (P := P) w base t ty e i z 1 bytes ht hi hz hs hby hone (by omega) v xs.length xs hown ⟨b, o, none⟩ news.length c news (by omega)
      (fun j u hu => by
        obtain ⟨hj, rfl⟩ := List.getElem?_eq_some_iff.1 hu
        have e : ({ block := b, off := o, spot := none } : Addr).add j = ⟨b, o + j, none⟩ := by unfold Addr.add; split <;> simp_all
        rw [e]
        exact hc j hj) h1 h63 hbytes hbase
    exact ⟨v', w', hrun, by unfold Own; rw [List.length_append]; exact h2, h3, h5⟩

/-- append, behind a guard that stands (or none). -/
theorem wp_appG (w : World) {ops : Array Oper} {rest : List Oper} {o : Oper} {a : Act} {Q : Exit → Act → World → Prop} (hgd : Region.wanted o (yielded ops a.tmps) = true) (s x : Operand) (t : TypeId)
    (ho : o.op = .call { callee := .builtin .append, args := #[s, x], argTypes := #[t, t] })
    (base : Nat) (e : TypeId) {z : Value} {bytes : Nat} (E : Elem P t e z bytes) (v : Value) (xs : List Value) (hs : a.eval s = v) (hown : Own w base e v xs)
    (B : Nat) (A : Option Addr) (m c : Nat) (news : List Value) (hx : a.eval x = .slice A m c) (hm : news.length = m) (hr : Vs w B A news) (h1 : ∀ u ∈ news, u.oneCell' = true)
    (h63 : xs.length + m ≤ maxLen) (hbytes : (xs.length + m) * bytes ≤ 140737488355328) (hbase : base ≤ w.heap.size)
    (h : ∀ v' w', Own w' base e v' (xs ++ news) → w.grownBy w' v.ownBlock → (v'.ownBlock = v.ownBlock ∨ v'.ownBlock = some w.heap.size) → wpList P ops Q rest (a.put o.dst v') w') : wpList P ops Q (o :: rest) a w := by
  refine wpList_step fun _ hK => ?_
  rw [hgd, if_pos rfl]
  obtain ⟨v', w', hrun, h2, h3, h4⟩ := run_app w base t o.type e E v xs hown B A m c news hm hr h1 h63 hbytes hbase
  unfold Oper.wp execOp
  simp only [ho, resolve, invoke, builtin, Sem.run_bind, Sem.run_pure, Result.andThen_ok, List.map_toArray, List.map_cons, List.map_nil, hs, hx, hrun]
  exact hK _ _ (h v' w' h2 h3 h4)

theorem wp_app (w : World) {ops : Array Oper} {rest : List Oper} {o : Oper} {a : Act} {Q : Exit → Act → World → Prop} (hgd : o.guard = none) (s x : Operand) (t : TypeId)
    (ho : o.op = .call { callee := .builtin .append, args := #[s, x], argTypes := #[t, t] })
    (base : Nat) (e : TypeId) {z : Value} {bytes : Nat} (E : Elem P t e z bytes) (v : Value) (xs : List Value) (hs : a.eval s = v) (hown : Own w base e v xs)
    (B : Nat) (A : Option Addr) (m c : Nat) (news : List Value) (hx : a.eval x = .slice A m c) (hm : news.length = m) (hr : Vs w B A news) (h1 : ∀ u ∈ news, u.oneCell' = true)
    (h63 : xs.length + m ≤ maxLen) (hbytes : (xs.length + m) * bytes ≤ 140737488355328) (hbase : base ≤ w.heap.size)
    (h : ∀ v' w', Own w' base e v' (xs ++ news) → w.grownBy w' v.ownBlock → (v'.ownBlock = v.ownBlock ∨ v'.ownBlock = some w.heap.size) → wpList P ops Q rest (a.put o.dst v') w') : wpList P ops Q (o :: rest) a w :=
  wp_appG w (by simp [Region.wanted, hgd]) s x t ho base e E v xs hs hown B A m c news hx hm hr h1 h63 hbytes hbase h

/-- 'append(out, x)': x lies in a new block of its own first. -/
theorem wp_app1 (w : World) {ops : Array Oper} {rest : List Oper} {o : Oper} {a : Act} {Q : Exit → Act → World → Prop} (hgd : o.guard = none) (s x : Operand) (t : TypeId)
    (ho : o.op = .call { callee := .builtin .append, args := #[s, x], argTypes := #[t, t] })
    (base : Nat) (e : TypeId) {z : Value} {bytes : Nat} (E : Elem P t e z bytes) (v : Value) (xs : List Value) (hs : a.eval s = v) (hown : Own w base e v xs)
    (u : Value) (e' : TypeId) (c : Nat) (hx : a.eval x = .slice (some ⟨w.heap.size, 0, none⟩) 1 c) (h1 : u.oneCell' = true)
    (h63 : xs.length + 1 ≤ maxLen) (hbytes : (xs.length + 1) * bytes ≤ 140737488355328) (hbase : base ≤ w.heap.size)
    (h : ∀ v' w', Own w' base e v' (xs ++ [u]) → w.grownBy w' v.ownBlock → wpList P ops Q rest (a.put o.dst v') w') : wpList P ops Q (o :: rest) a (w.alloc (.cells #[u] e')) := by
  refine wp_app (w.alloc (.cells #[u] e')) hgd s x t ho base e E v xs hs (hown.alloc _) (w.heap.size + 1) _ 1 c [u] hx rfl
    (.inr ⟨w.heap.size, 0, rfl, by omega, fun j hj => ?_⟩) (by simpa using h1) h63 hbytes (by simp; omega) fun v' w' a1 a2 _ => h v' w' a1 ?_
  · obtain rfl : j = 0 := by simpa using hj
    simp
  · exact ⟨a2.os, a2.tape, a2.output, Nat.le_trans (by simp) a2.size, fun k hk hne => (a2.block k (by simp; omega) hne).trans (Below.heap_alloc w _ k hk)⟩
end

/-- 'grownBy' a row of the call's own leaves all below base. -/
theorem below_app {w w' : World} {base : Nat} {e : TypeId} {v : Value} {xs : List Value} (hown : Own w base e v xs) (hg : w.grownBy w' v.ownBlock) (hbase : base ≤ w.heap.size) : Below base w w' :=
  (Below.refl _ _).grown hg hbase fun k hk => (hown.lt k hk).1

theorem below_drewN {B : Nat} {a w : World} (h : Below B a w) (n : Nat) : Below B a (w.drewN n) := ⟨h.os, h.tape, h.output, h.size, h.block⟩

/-! ### bytes -/

/-- A byte's value. -/
def bv (x : UInt8) : Value := .int .u8 (x.toNat : Int)
theorem bv_one (l : List UInt8) : ∀ u ∈ l.map bv, u.oneCell' = true := by
  intro u hu
  obtain ⟨x, _, rfl⟩ := List.mem_map.1 hu
  rfl

/-- The bytes l stand at A, below block B. -/
def Bs (w : World) (B : Nat) (A : Option Addr) (l : List UInt8) : Prop := Vs w B A (l.map bv)

section
variable {w w' : World} {B B' : Nat} {A : Option Addr} {l : List UInt8}
theorem Bs.nil (w : World) (B : Nat) (A : Option Addr) : Bs w B A [] := .inl rfl
theorem Bs.at_ (h : Bs w B A l) (hl : 0 < l.length) :
    ∃ b o, A = some ⟨b, o, none⟩ ∧ b < B ∧ ∀ (j : Nat) (h : j < l.length), w.cell? ⟨b, o + j, none⟩ = some (.int .u8 (l[j].toNat : Int)) := by
  obtain ⟨b, o, e, hb, hc⟩ := Vs.at_ h (by simpa using hl)
  exact ⟨b, o, e, hb, fun j hj => by rw [hc j (by simpa using hj)]; simp [bv]⟩
theorem Bs.below (h : Bs w B A l) (hb : Below B' w w') (hB : B ≤ B') : Bs w' B A l := Vs.below h hb hB
theorem Bs.more (h : Bs w B A l) (hB : B ≤ B') : Bs w B' A l := Vs.more h hB
theorem Bs.drewN (h : Bs w B A l) (n : Nat) : Bs (w.drewN n) B A l := h
theorem Bs.alloc (h : Bs w B A l) (hB : B ≤ w.heap.size) (o : Obj) : Bs (w.alloc o) B A l := Vs.alloc h hB o
theorem Bs.take (h : Bs w B A l) (k : Nat) : Bs w B A (l.take k) := by
  have := Vs.take h k
  rwa [← List.map_take] at this
theorem Bs.drop (h : Bs w B A l) (k : Nat) {b o : Nat} (hA : A = some ⟨b, o, none⟩) : Bs w B (some ⟨b, o + k, none⟩) (l.drop k) := by
  rcases Nat.lt_or_ge k l.length with hk | hk
  · obtain ⟨b', o', e, hb, hc⟩ := h.at_ (by omega)
    rw [hA] at e
    simp at e
    obtain ⟨rfl, rfl⟩ := e
    refine .inr ⟨b, o + k, rfl, hb, fun j hj => ?_⟩
    have hj' : j < l.length - k := by simpa using hj
    rw [Nat.add_assoc, hc (k + j) (by omega)]
    simp [bv]
  · rw [List.drop_eq_nil_of_le hk]; exact .inl rfl
end

theorem Own.bform {w : World} {base : Nat} {e : TypeId} {v : Value} {l : List UInt8} (h : Own w base e v (l.map bv)) :
    ∃ A n c, v = .slice A n c ∧ Hid (l.length = n) ∧ n ≤ c ∧ c ≤ maxLen ∧ Bs w w.heap.size A l := by
  obtain ⟨A, c, rfl, h1, h2, h3⟩ := h.form
  simp only [List.length_map] at *
  exact ⟨A, _, c, rfl, Lib.hid rfl, h1, h2, h3⟩

/-- What the frame of a law tells of a slice of integers that came in. -/
def IsRow (k : IntKind) (w : World) (a : Option Addr) (len cap : Nat) (zs : List Int) : Prop :=
  (a = none ∧ len = 0 ∧ cap = 0 ∧ zs = []) ∨
  ∃ x, a = some x ∧ len ≤ cap ∧ cap ≤ maxLen ∧ zs.length = cap ∧ (∀ i, i < zs.length → w.cell? (x.add i) = some (.int k (zs.getD i 0))) ∧ ∀ n ∈ zs, (Lit.int k n).wf = true

theorem IsRow.vs {k : IntKind} {w : World} {a : Option Addr} {len cap : Nat} {zs : List Int} (h : IsRow k w a len cap zs) :
    ∃ l : List Int, l.length = len ∧ len ≤ cap ∧ cap ≤ maxLen ∧ Vs w w.heap.size a (l.map (Value.int k)) ∧ ∀ n ∈ l, (Lit.int k n).wf = true := by
  rcases h with ⟨rfl, rfl, rfl, rfl⟩ | ⟨⟨b, off, spot⟩, rfl, hl, hm, hz, hc, hw⟩
  · exact ⟨[], rfl, Nat.le_refl _, Nat.zero_le _, .inl rfl, by simp⟩
  · have hlen : (zs.take len).length = len := by simp; omega
    refine ⟨zs.take len, hlen, hl, hm, ?_, fun n hn => hw n (List.mem_of_mem_take hn)⟩
    rcases Nat.eq_zero_or_pos len with h0 | h0
    · exact .inl (by simp [h0])
    · have h1 := hc 0 (by omega)
      have hspot : spot = none := by simpa [Addr.add] using World.cell?_spot h1
      subst hspot
      refine .inr ⟨b, off, rfl, World.block_lt_of_cell? w ⟨b, off, none⟩ (by simpa [Addr.add] using h1), fun j hj => ?_⟩
      have hj' : j < zs.length := by simp at hj; omega
      have e : ({ block := b, off := off, spot := none } : Addr).add j = ⟨b, off + j, none⟩ := by unfold Addr.add; split <;> simp_all
      rw [← e, hc j hj']
      simp [List.getD, List.getElem?_eq_getElem hj']
theorem IsRow.bs {w : World} {a : Option Addr} {len cap : Nat} {zs : List Int} (h : IsRow .u8 w a len cap zs) :
    ∃ l : List UInt8, l.length = len ∧ len ≤ cap ∧ cap ≤ maxLen ∧ Bs w w.heap.size a l := by
  obtain ⟨l, h1, h2, h3, h4, h5⟩ := h.vs
  refine ⟨l.map fun n => UInt8.ofNat n.toNat, by simp [h1], h2, h3, ?_⟩
  unfold Bs
  have e : (l.map fun n => UInt8.ofNat n.toNat).map bv = l.map (Value.int .u8) := by
    rw [List.map_map]
    refine List.map_congr_left fun n hn => ?_
    have := Go.bounds_u8 (h5 n hn)
    simp [bv]
    omega
  rw [e]
  exact h4

/-- A call's answer: bytes l in memory of its own (element type e); nothing that was there has turned. -/
def RetO (e : TypeId) (l : List UInt8) (w : World) (x : Ending) (w' : World) : Prop :=
  ∃ A n c, x = .returned (.slice A n c) ∧ Hid (l.length = n) ∧ Own w' w.heap.size e (.slice A n c) (l.map bv) ∧ n ≤ c ∧ c ≤ maxLen ∧ Bs w' w'.heap.size A l ∧ Below w.heap.size w w'

theorem RetO.of {e : TypeId} {l : List UInt8} {w w' : World} {v : Value} {x : Ending} (hx : x = .returned v) (h : Own w' w.heap.size e v (l.map bv)) (hb : Below w.heap.size w w') : RetO e l w x w' := by
  obtain ⟨A, c, rfl, h1, h2, h3⟩ := h.form
  simp only [List.length_map] at *
  exact ⟨A, _, c, hx, Lib.hid rfl, h, h1, h2, h3, hb⟩

/-- A callee's answer, seen from an elder world. -/
theorem RetO.since {e : TypeId} {l : List UInt8} {w w0 w' : World} {x : Ending} (hb : Below w0.heap.size w0 w) (h : RetO e l w x w') : RetO e l w0 x w' := by
  obtain ⟨A, n, c, hx, hn, h1, h2, h3, h4, h5⟩ := h
  exact ⟨A, n, c, hx, hn, h1.mono hb.size, h2, h3, h4, hb.trans (h5.mono hb.size)⟩
theorem RetO.list {e : TypeId} {l l' : List UInt8} {w w' : World} {x : Ending} (h : RetO e l w x w') (hl : l = l') : RetO e l' w x w' := hl ▸ h

/-- A block that was just laid reads as its cells. -/
theorem Vs.new (w : World) (cs : Array Value) (t : TypeId) (fr : Nat × Nat) (xs : List Value) (h : cs.toList = xs) : Vs (w.alloc (.cells cs t fr)) (w.heap.size + 1) (some ⟨w.heap.size, 0, none⟩) xs := by
  subst h
  refine .inr ⟨w.heap.size, 0, rfl, by omega, fun j hj => ?_⟩
  rw [Nat.zero_add, cell_of_row _ _ _ _ _ fr (heap_alloc_new w _)]
  have e : cs[j]? = cs.toList[j]? := by simp
  rw [e, List.getElem?_eq_getElem hj]
theorem Bs.new (w : World) (cs : Array Value) (t : TypeId) (fr : Nat × Nat) (l : List UInt8) (h : cs.toList = l.map bv) : Bs (w.alloc (.cells cs t fr)) (w.heap.size + 1) (some ⟨w.heap.size, 0, none⟩) l := Vs.new w cs t fr _ h

/-! ### a row of the call's own: its address, its cells, a store -/
section
variable {w : World} {base : Nat} {e : TypeId} {A : Option Addr} {g n c : Nat} {xs : List Value}
theorem Own.length (h : Own w base e (.slice A n c) xs) : xs.length = n := by
  obtain ⟨A', c', e, _⟩ := h.form
  injection e with _ e2 _
  exact e2.symm
theorem Own.addr (h : Own w base e (.slice A n c) xs) (hn : 0 < n) : ∃ g, A = some ⟨g, 0, none⟩ ∧ base ≤ g ∧ g < w.heap.size := by
  have hl := h.length
  unfold Own at h
  rw [hl] at h
  obtain ⟨g, cap, hv, hb, hg⟩ := World.ownsRow.form h hn
  injection hv with e1 _ _
  exact ⟨g, e1, hb, hg⟩
theorem Own.cellAt (h : Own w base e (.slice (some ⟨g, 0, none⟩) n c) xs) (j : Nat) (hj : j < xs.length) : w.cell? ⟨g, j, none⟩ = some xs[j] := by
  have hl := h.length
  unfold Own at h
  rw [hl] at h
  rw [World.ownsRow.cellAt h j (by omega), List.getElem?_eq_getElem hj]
theorem Own.frozenAt (h : Own w base e (.slice (some ⟨g, 0, none⟩) n c) xs) (j : Nat) : w.frozen? ⟨g, j, none⟩ = false := by
  have hl := h.length
  unfold Own at h
  rw [hl] at h
  exact World.ownsRow.frozenAt h j
theorem Own.stored (h : Own w base e (.slice (some ⟨g, 0, none⟩) n c) xs) (j : Nat) (u : Value) :
    Own (w.setCell ⟨g, j, none⟩ u) base e (.slice (some ⟨g, 0, none⟩) n c) (xs.set j u) ∧ w.grownBy (w.setCell ⟨g, j, none⟩ u) (some g) := by
  have hl := h.length
  unfold Own at h ⊢
  rw [hl] at h
  rw [List.length_set, hl]
  exact World.ownsRow.stored h j u
theorem Own.bstored {l : List UInt8} (h : Own w base e (.slice (some ⟨g, 0, none⟩) n c) (l.map bv)) (j : Nat) (x : UInt8) :
    Own (w.setCell ⟨g, j, none⟩ (bv x)) base e (.slice (some ⟨g, 0, none⟩) n c) ((l.set j x).map bv) ∧ w.grownBy (w.setCell ⟨g, j, none⟩ (bv x)) (some g) := by
  rw [List.map_set]
  exact Own.stored h j (bv x)
end

/-! ### 'x[lo:]', 'x[:hi]': run equations, for a region that draws its order -/
theorem slice_from {P : Program} {t e : TypeId} {z : Value} {bytes : Nat} (E : Elem P t e z bytes) (w : World) (b o n c k : Nat) (h1 : k ≤ n) (h2 : k < c) :
    (Instr.slice t (.slice (some ⟨b, o, none⟩) n c) (some (.int .i64 (k : Int))) none none).run P w = .ok (.slice (some ⟨b, o + k, none⟩) (n - k) (c - k)) w := by
  obtain ⟨ht, ⟨i, hi, _, hs, _⟩, _⟩ := E
  have hk : (0 : Int) ≤ (k : Int) ∧ (k : Int) ≤ (n : Int) := by omega
  have hc : ¬ c = k := by omega
  have he : ({ block := b, off := o, spot := none } : Addr).add k = ⟨b, o + k, none⟩ := by unfold Addr.add; split <;> simp_all
  simp [Instr.slice, Instr.sliceBounds, Instr.sliceBound, run_underlying ht, sizeOf, typeInfo, hi, hs, hc, go_sem]
  intro hlt
  omega
theorem slice_to {P : Program} {t e : TypeId} {z : Value} {bytes : Nat} (E : Elem P t e z bytes) (w : World) (A : Option Addr) (n c k : Nat) (h1 : k ≤ c) :
    (Instr.slice t (.slice A n c) none (some (.int .i64 (k : Int))) none).run P w = .ok (.slice A k c) w := by
  obtain ⟨ht, ⟨i, hi, _, hs, _⟩, _⟩ := E
  have he : ∀ a : Addr, a.add 0 = a := fun a => by unfold Addr.add; simp
  simp [Instr.slice, Instr.sliceBounds, Instr.sliceBound, run_underlying ht, sizeOf, typeInfo, hi, he, go_sem]
  intro hlt
  omega
end Go.Proofs.Ytoielghmgjdknaa
