/-
  A disk in memory: a struct, its map of pointers to files, their cells, their bytes; what is to be shown where it changes; New. A disk's calls: Down, Up, Arm. A disk's Size: all files' bytes.
-/
import Derived.Test.YtjdjidlopmanbaaPMap
import Derived.Test.YtjdjidlopmanbaaDiskZ
import Derived.Test.YtjdjidlopmanbaaBlk
namespace Go.Proofs.Ytjdjidlopmanbaa
open Go.RowKit
set_option linter.unusedVariables false

def pcells (mb : Nat) (st : DSt) : List Value := [.int .i64 st.cap, .map (some mb), .int .u64 (st.calls : Int), .bool st.down, .bool st.armed, .int .u64 (st.left : Int), .int .i64 st.keep]
def fcells (f : Fil) : List Value := [.slice f.A f.n f.c, .int .i64 (f.sure : Int)]
/-- The blocks that a file has. -/
def Pil.has (x : Pil) (b : Nat) : Prop := b = x.p ∨ (Value.slice x.f.A x.f.n x.f.c).ownBlock = some b
/-- A file's cells and bytes. -/
structure FileAt (w : World) (x : Pil) : Prop where
  cell : Bk w x.p 75 (fcells x.f)
  own : Own w 0 5 (.slice x.f.A x.f.n x.f.c) (x.f.data.map bv)
  ne : (Value.slice x.f.A x.f.n x.f.c).ownBlock ≠ some x.p
theorem Own.same {w w' : World} {base : Nat} {e : TypeId} {v : Value} {xs : List Value} (h : Own w base e v xs) (hb : ∀ g, v.ownBlock = some g → w'.heap[g]? = w.heap[g]?) : Own w' base e v xs := by
  obtain ⟨h1, h2⟩ := h
  refine ⟨h1, ?_⟩
  rcases h2 with h2 | ⟨g, cap, cur, rfl, hg, hc, r⟩
  · exact .inl h2
  · exact .inr ⟨g, cap, cur, rfl, hg, (hb g rfl).trans hc, r⟩
theorem FileAt.len {w : World} {x : Pil} (h : FileAt w x) : x.f.data.length = x.f.n := by
  have := h.own.length
  simpa using this
theorem FileAt.caps {w : World} {x : Pil} (h : FileAt w x) : x.f.n ≤ x.f.c ∧ x.f.c ≤ maxLen := by
  obtain ⟨A, c, e, h1, h2, _⟩ := h.own.form
  simp only [List.length_map, h.len, Value.slice.injEq] at e h1
  obtain ⟨_, _, e3⟩ := e
  rw [e3]
  exact ⟨h1, h2⟩
theorem FileAt.keep {w w' : World} {x : Pil} (h : FileAt w x) (hb : ∀ b, x.has b → w'.heap[b]? = w.heap[b]?) : FileAt w' x :=
  ⟨(hb _ (.inl rfl)).trans h.cell, h.own.same fun g hg => hb g (.inr hg), h.ne⟩
theorem FileAt.lt {w : World} {x : Pil} (h : FileAt w x) {b : Nat} (hb : x.has b) : b < w.heap.size := by
  rcases hb with rfl | hb
  · exact h.cell.lt
  · exact (h.own.lt b hb).2

structure PDsk (w : World) (O : Nat → Prop) (d : Nat) (st : DSt) (mb : Nat) (L : List Pil) : Prop where
  blk : Bk w d 61 (pcells mb st)
  map_ : PMapIs w mb L
  files : ∀ x ∈ L, FileAt w x
  apart : ∀ x ∈ L, ∀ y ∈ L, bl x.name ≠ bl y.name → ∀ b, x.has b → ¬ y.has b
  has : ∀ x ∈ L, ∀ b, x.has b → O b ∧ b ≠ d ∧ b ≠ mb
  pf : L.map Pil.pf = st.files
  od : O d
  om : O mb
  ne : d ≠ mb
  lt : ∀ b, O b → b < w.heap.size
  good : GoodS st
  names : ∀ x ∈ L, x.name.size ≤ 65536
  count : L.length ≤ 1024
  cap : (Lit.int .i64 st.cap).wf = true
  cap0 : 0 ≤ st.cap
  calls : st.calls < 18446744073709551616
  left : st.left < 18446744073709551616
  keep : (Lit.int .i64 st.keep).wf = true
def IsP (w : World) (O : Nat → Prop) (d : Nat) (st : DSt) : Prop := ∃ mb L, PDsk w O d st mb L

theorem PDsk.stay {w w' : World} {O : Nat → Prop} {d : Nat} {st : DSt} {mb : Nat} {L : List Pil} (h : PDsk w O d st mb L) (hb : ∀ b, O b → w'.heap[b]? = w.heap[b]?) (hs : w.heap.size ≤ w'.heap.size) : PDsk w' O d st mb L :=
  { h with
    blk := (hb d h.od).trans h.blk
    map_ := h.map_.keep (hb mb h.om)
    files := fun x hx => (h.files x hx).keep fun b hq => hb b (h.has x hx b hq).1
    lt := fun b hO => Nat.lt_of_lt_of_le (h.lt b hO) hs }
theorem PDsk.below {w w' : World} {O : Nat → Prop} {d : Nat} {st : DSt} {mb : Nat} {L : List Pil} (h : PDsk w O d st mb L) (hb : Below w.heap.size w w') : PDsk w' O d st mb L :=
  h.stay (fun b hO => hb.block b (h.lt b hO)) hb.size
theorem PDsk.more {w : World} {O O' : Nat → Prop} {d : Nat} {st : DSt} {mb : Nat} {L : List Pil} (h : PDsk w O d st mb L) (hO : ∀ b, O b → O' b) (hl : ∀ b, O' b → b < w.heap.size) : PDsk w O' d st mb L :=
  { h with
    has := fun x hx b hq => ⟨hO b (h.has x hx b hq).1, (h.has x hx b hq).2⟩
    od := hO d h.od
    om := hO mb h.om
    lt := hl }
/-- The struct's cells are others, and the state as they tell it. -/
theorem PDsk.row {w : World} {O : Nat → Prop} {d : Nat} {st : DSt} {mb : Nat} {L : List Pil} (h : PDsk w O d st mb L) (st' : DSt) (hf : st'.files = st.files) (hc : st'.cap = st.cap) (h1 : st'.calls < 18446744073709551616) (h2 : st'.left < 18446744073709551616) (h3 : (Lit.int .i64 st'.keep).wf = true) {w' : World}
    (hw : Bk w' d 61 (pcells mb st')) (hb : ∀ b, b ≠ d → w'.heap[b]? = w.heap[b]?) (hs : w'.heap.size = w.heap.size) : PDsk w' O d st' mb L :=
  { h with
    blk := hw
    map_ := h.map_.keep (hb mb (Ne.symm h.ne))
    files := fun x hx => (h.files x hx).keep fun b hq => hb b (h.has x hx b hq).2.1
    pf := by rw [hf]; exact h.pf
    lt := fun b hO => by rw [hs]; exact h.lt b hO
    good := ⟨by rw [hf]; exact h.good.apart, by rw [hf]; exact h.good.sure⟩
    cap := by rw [hc]; exact h.cap
    cap0 := by rw [hc]; exact h.cap0
    calls := h1
    left := h2
    keep := h3 }
theorem DP_map (F : Pil → Pil) (hn : ∀ y, (F y).name = y.name) (hp : ∀ y, (F y).p = y.p) (L : List Pil) : DP (L.map F) = DP L := by
  unfold DP
  rw [List.map_map]
  congr 1
  refine List.map_congr_left fun y _ => ?_
  show (Lit.string (bl (F y).name), DataW.held (F y).val) = _
  rw [hn]
  unfold Pil.val
  rw [hp]
  rfl
/-- Files are others, at the same names and blocks; one of them may have a new block of bytes. -/
theorem PDsk.change {w w' : World} {O : Nat → Prop} {d : Nat} {st : DSt} {mb : Nat} {L : List Pil} (h : PDsk w O d st mb L) (F : Pil → Pil) (nm : List UInt8) (hn : ∀ y, (F y).name = y.name) (hp : ∀ y, (F y).p = y.p)
    (hf : ∀ y ∈ L, FileAt w' (F y)) (hh : ∀ y ∈ L, ∀ b, (F y).has b → y.has b ∨ bl y.name = nm ∧ w.heap.size ≤ b)
    (hd : w'.heap[d]? = w.heap[d]?) (hm : w'.heap[mb]? = w.heap[mb]?) (hs : w.heap.size ≤ w'.heap.size) (hg : GoodS { st with files := (L.map F).map Pil.pf }) :
    PDsk w' (fun b => O b ∨ w.heap.size ≤ b ∧ b < w'.heap.size) d { st with files := (L.map F).map Pil.pf } mb (L.map F) where
  blk := hd.trans h.blk
  map_ := by
    have := h.map_.keep hm
    unfold PMapIs at this ⊢
    rw [DP_map F hn hp, List.length_map]
    exact this
  files := fun x hx => by
    obtain ⟨y, hy, rfl⟩ := List.mem_map.1 hx
    exact hf y hy
  apart := fun x hx x' hx' hne b h1 h2 => by
    obtain ⟨y, hy, rfl⟩ := List.mem_map.1 hx
    obtain ⟨z, hz, rfl⟩ := List.mem_map.1 hx'
    rw [hn, hn] at hne
    rcases hh y hy b h1 with h3 | ⟨h3, h4⟩ <;> rcases hh z hz b h2 with h5 | ⟨h5, h6⟩
    · exact h.apart y hy z hz hne b h3 h5
    · have := (h.files y hy).lt h3
      omega
    · have := (h.files z hz).lt h5
      omega
    · exact hne (h3.trans h5.symm)
  has := fun x hx b hb => by
    obtain ⟨y, hy, rfl⟩ := List.mem_map.1 hx
    have hl := (hf y hy).lt hb
    rcases hh y hy b hb with h3 | ⟨_, h4⟩
    · exact ⟨.inl (h.has y hy b h3).1, (h.has y hy b h3).2⟩
    · have h1 := h.lt d h.od
      have h2 := h.lt mb h.om
      exact ⟨.inr ⟨h4, hl⟩, by omega, by omega⟩
  pf := rfl
  od := .inl h.od
  om := .inl h.om
  ne := h.ne
  lt := fun b hb => by
    rcases hb with hb | hb
    · exact Nat.lt_of_lt_of_le (h.lt b hb) hs
    · exact hb.2
  good := hg
  names := fun x hx => by
    obtain ⟨y, hy, rfl⟩ := List.mem_map.1 hx
    rw [hn]
    exact h.names y hy
  count := by rw [List.length_map]; exact h.count
  cap := h.cap
  cap0 := h.cap0
  calls := h.calls
  left := h.left
  keep := h.keep
/-- Only some of the files are left. -/
theorem PDsk.sub {w w' : World} {O : Nat → Prop} {d : Nat} {st : DSt} {mb : Nat} {L L' : List Pil} (h : PDsk w O d st mb L) (hL : ∀ x ∈ L', x ∈ L) (hl : L'.length ≤ L.length) (hm : PMapIs w' mb L')
    (hb : ∀ b, O b → b ≠ mb → w'.heap[b]? = w.heap[b]?) (hs : w.heap.size ≤ w'.heap.size) (hg : GoodS { st with files := L'.map Pil.pf }) : PDsk w' O d { st with files := L'.map Pil.pf } mb L' where
  blk := (hb d h.od h.ne).trans h.blk
  map_ := hm
  files := fun x hx => (h.files x (hL x hx)).keep fun b hq => hb b (h.has x (hL x hx) b hq).1 (h.has x (hL x hx) b hq).2.2
  apart := fun x hx y hy => h.apart x (hL x hx) y (hL y hy)
  has := fun x hx => h.has x (hL x hx)
  pf := rfl
  od := h.od
  om := h.om
  ne := h.ne
  lt := fun b hO => Nat.lt_of_lt_of_le (h.lt b hO) hs
  good := hg
  names := fun x hx => h.names x (hL x hx)
  count := Nat.le_trans hl h.count
  cap := h.cap
  cap0 := h.cap0
  calls := h.calls
  left := h.left
  keep := h.keep
/-- A file is put. -/
theorem PDsk.add {w w' : World} {O O' : Nat → Prop} {d : Nat} {st : DSt} {mb : Nat} {L : List Pil} (h : PDsk w O d st mb L) (x : Pil) (hx : FileAt w' x) (hn : x.name.size ≤ 65536) (hl : (putPil x L).length ≤ 1024) (hm : PMapIs w' mb (putPil x L))
    (ha : ∀ b, x.has b → O' b ∧ b ≠ d ∧ b ≠ mb ∧ ∀ y ∈ L, bl y.name ≠ bl x.name → ¬ y.has b) (hO : ∀ b, O b → O' b) (hlt : ∀ b, O' b → b < w'.heap.size)
    (hb : ∀ b, O b → b ≠ mb → w'.heap[b]? = w.heap[b]?) (hg : GoodS { st with files := (putPil x L).map Pil.pf }) : PDsk w' O' d { st with files := (putPil x L).map Pil.pf } mb (putPil x L) where
  blk := (hb d h.od h.ne).trans h.blk
  map_ := hm
  files := fun y hy => by
    rcases mem_putPil.1 hy with rfl | ⟨hy, _⟩
    · exact hx
    · exact (h.files y hy).keep fun b hq => hb b (h.has y hy b hq).1 (h.has y hy b hq).2.2
  apart := fun y hy z hz hne b h1 h2 => by
    rcases mem_putPil.1 hy with rfl | ⟨hy1, _⟩ <;> rcases mem_putPil.1 hz with rfl | ⟨hz1, _⟩
    · exact hne rfl
    · exact (ha b h1).2.2.2 z hz1 hne.symm h2
    · exact (ha b h2).2.2.2 y hy1 hne h1
    · exact h.apart y hy1 z hz1 hne b h1 h2
  has := fun y hy b hq => by
    rcases mem_putPil.1 hy with rfl | ⟨hy, _⟩
    · exact ⟨(ha b hq).1, (ha b hq).2.1, (ha b hq).2.2.1⟩
    · exact ⟨hO b (h.has y hy b hq).1, (h.has y hy b hq).2⟩
  pf := rfl
  od := hO d h.od
  om := hO mb h.om
  ne := h.ne
  lt := hlt
  good := hg
  names := fun y hy => by
    rcases mem_putPil.1 hy with rfl | ⟨hy, _⟩
    · exact hn
    · exact h.names y hy
  count := hl
  cap := h.cap
  cap0 := h.cap0
  calls := h.calls
  left := h.left
  keep := h.keep

theorem pdskNew_any (w : World) (cap : Int) (hc : (Lit.int .i64 cap).wf = true) : Calls Try.prog 10 #[.int .i64 cap] w fun e w' => ∃ d, RetD IsP (dptr d) (newS cap) d (fun _ => False) w e w' := by
  have hmk : ∀ W : World, (Instr.makeMap 59 none).run Try.prog W = .ok (.map (some W.heap.size)) (W.alloc (.map #[] 0)) := fun W => rfl
  have hne : ¬ w.heap.size + 1 = w.heap.size := by omega
  have hres : ∀ C : Array Value, C = (pcells w.heap.size (newS cap)).toArray → IsP ((w.alloc (.map #[] 0)).alloc (.cells C 61)) (fun b => w.heap.size ≤ b ∧ b < w.heap.size + 2) (w.heap.size + 1) (newS cap) := fun C hC => by
    subst hC
    have e1 : (w.alloc (.map #[] 0)).heap.size = w.heap.size + 1 := by show (w.heap.push _).size = _; simp
    have e2 := heap_alloc_new (w.alloc (.map #[] 0)) (.cells (pcells w.heap.size (newS cap)).toArray 61)
    rw [e1] at e2
    have e3 : ((w.alloc (.map #[] 0)).alloc (.cells (pcells w.heap.size (newS cap)).toArray 61)).heap.size = w.heap.size + 2 := by show ((w.alloc _).heap.push _).size = _; simp [e1]
    exact ⟨w.heap.size, [], {
      blk := e2
      map_ := (PMapIs.made w).keep (Below.heap_alloc _ _ _ (by rw [e1]; omega))
      files := fun f hf => by cases hf
      apart := fun f hf => by cases hf
      has := fun f hf => by cases hf
      pf := rfl
      od := ⟨by omega, by omega⟩
      om := ⟨Nat.le_refl _, by omega⟩
      ne := hne
      lt := fun b hb => by rw [e3]; exact hb.2
      good := ⟨List.Pairwise.nil, fun f hf => by cases hf⟩
      names := fun f hf => by cases hf
      count := Nat.zero_le _
      cap := by
        show (Lit.int .i64 (if cap < 0 then 0 else cap)).wf = true
        split
        · decide
        · exact hc
      cap0 := by
        show 0 ≤ (if cap < 0 then 0 else cap)
        split <;> omega
      calls := show 0 < 18446744073709551616 by decide
      left := show 0 < 18446744073709551616 by decide
      keep := show (Lit.int .i64 0).wf = true by decide }⟩
  have hE : ∀ C : Array Value, Eff (fun _ => False) (fun b => w.heap.size ≤ b ∧ b < w.heap.size + 2) w ((w.alloc (.map #[] 0)).alloc (.cells C 61)) := fun C => by
    have hb : Below w.heap.size w ((w.alloc (.map #[] 0)).alloc (.cells C 61)) := ((Below.refl _ w).alloc (Nat.le_refl _) _).alloc (by show _ ≤ (w.heap.push _).size; simp) _
    exact ⟨hb.os, hb.tape, hb.output, hb.size, fun b h _ => hb.block b h, fun b h => .inr h.1⟩
  have HR := Lib.hid hres
  have HE := Lib.hid hE
  clear hres hE hc hne
  go_enter Try.func10, Try.ntmps10
  go_wp2_with fail
  all_goals
    go_ret
    refine ⟨_, _, rfl, HR.out _ ?_, HE.out _⟩
    unfold pcells newS
    simp only
    first
      | (rw [if_neg (by omega)]; rfl)
      | (rw [if_pos (by omega)]; rfl)
end Go.Proofs.Ytjdjidlopmanbaa

namespace Go.Proofs.Ytjdjidlopmanbaa
open Go.RowKit
set_option linter.unusedVariables false

set_option maxRecDepth 100000 in
theorem pdskDown_any {w : World} {O : Nat → Prop} {d : Nat} {st : DSt} {mb : Nat} {L : List Pil} (h : PDsk w O d st mb L) :
    Calls Try.prog 17 #[dptr d] w fun e w' => e = .returned (.bool st.down) ∧ w = w' := by
  have c3 : w.cell? ⟨d, 3, none⟩ = some (.bool st.down) := h.blk.cellAt 3 (show 3 < 7 by decide)
  clear h
  go_enter Try.func17, Try.ntmps17
  go_wp2_with fail
  go_ret
  exact ⟨rfl, rfl⟩
theorem eff_set {w w' : World} {O : Nat → Prop} {d : Nat} (hd : O d) (hg : w.grownBy w' (some d)) : Eff O O w w' :=
  ⟨hg.os, hg.tape, hg.output, hg.size, fun b hb ho => hg.block b hb (fun e => ho (by cases e; exact hd)), fun b h => .inl h⟩
set_option maxRecDepth 100000 in
theorem pdskArm_any {w : World} {O : Nat → Prop} {d : Nat} {st : DSt} {mb : Nat} {L : List Pil} (h : PDsk w O d st mb L) (n keep : Int) (hn : (Lit.int .u64 n).wf = true) (hk : (Lit.int .i64 keep).wf = true) :
    Calls Try.prog 11 #[dptr d, .int .u64 n, .int .i64 keep] w (RetD IsP (.tuple #[]) { st with armed := true, left := n.toNat, keep := keep } d O w) := by
  have hB := h.blk
  have hn0 := Go.bounds_u64 hn
  have c4 : w.cell? ⟨d, 4, none⟩ = some (.bool st.armed) := hB.cellAt 4 (show 4 < 7 by decide)
  have f4 : w.frozen? ⟨d, 4, none⟩ = false := hB.frozen 4
  have hB1 := hB.set_ 4 (.bool true)
  have hB2 := hB1.set_ 5 (.int .u64 n)
  have c5 : (w.setCell ⟨d, 4, none⟩ (.bool true)).cell? ⟨d, 5, none⟩ = some (.int .u64 (st.left : Int)) := hB1.cellAt 5 (show 5 < 7 by decide)
  have f5 : (w.setCell ⟨d, 4, none⟩ (.bool true)).frozen? ⟨d, 5, none⟩ = false := hB1.frozen 5
  have c6 : ((w.setCell ⟨d, 4, none⟩ (.bool true)).setCell ⟨d, 5, none⟩ (.int .u64 n)).cell? ⟨d, 6, none⟩ = some (.int .i64 st.keep) := hB2.cellAt 6 (show 6 < 7 by decide)
  have f6 : ((w.setCell ⟨d, 4, none⟩ (.bool true)).setCell ⟨d, 5, none⟩ (.int .u64 n)).frozen? ⟨d, 6, none⟩ = false := hB2.frozen 6
  have hres : RetD IsP (.tuple #[]) { st with armed := true, left := n.toNat, keep := keep } d O w (.returned (.tuple #[])) (((w.setCell ⟨d, 4, none⟩ (.bool true)).setCell ⟨d, 5, none⟩ (.int .u64 n)).setCell ⟨d, 6, none⟩ (.int .i64 keep)) := by
    refine ⟨O, rfl, ⟨mb, L, h.row { st with armed := true, left := n.toNat, keep := keep } rfl rfl h.calls (show n.toNat < _ by omega) hk ?_ (fun b hb => ?_) (by simp)⟩,
      eff_set h.od (((grown_set w d 4 _).andThen (grown_set _ d 5 _) (fun j e => .inr e)).andThen (grown_set _ d 6 _) (fun j e => .inr e))⟩
    · have := hB2.set_ 6 (.int .i64 keep)
      have e : ((n.toNat : Nat) : Int) = n := by omega
      unfold pcells
      simp only
      rw [e]
      exact this
    · rw [heap_setCell_other _ ⟨d, 6, none⟩ b _ hb, heap_setCell_other _ ⟨d, 5, none⟩ b _ hb, heap_setCell_other _ ⟨d, 4, none⟩ b _ hb]
  have HR := Lib.hid hres
  clear h hB hB1 hB2 hres hn hk hn0
  go_enter Try.func11, Try.ntmps11
  go_wp2_with fail
  (first | go_end0 | (refine bodyPost_ret (results_none rfl _ _ _) rfl ?_))
  exact HR.out
end Go.Proofs.Ytjdjidlopmanbaa

namespace Go.Proofs.Ytjdjidlopmanbaa
open Go.RowKit
set_option linter.unusedVariables false

/-- What comes out of the map, gone through. -/
theorem pil_of {L : List Pil} {x : List UInt8} {o : Option Nat} {y : DataW Value × List MemPlace} (hv : gP (.pointer (o.map fun p => ⟨p, 0, none⟩)) = some y) (hat : ∀ zd, (DP L).atKey (.string x) zd = y.1) : ∃ g ∈ L, o = some g.p ∧ bl g.name = x := by
  have h1 := hat .nil
  rw [atKey_DP, gP_held _ _ hv] at h1
  cases hf : findPil x L with
  | none => rw [hf] at h1; cases h1
  | some g =>
    rw [hf] at h1
    obtain ⟨h2, h3⟩ := findPil_some hf
    refine ⟨g, h2, ?_, h3⟩
    have h4 : g.val = .pointer (o.map fun p => ⟨p, 0, none⟩) := by simpa using h1
    unfold Pil.val at h4
    cases o with
    | none => simp at h4
    | some p => simp at h4; rw [h4]
theorem sum_sizeP {L : List Pil} (h : ∀ x ∈ L, x.f.data.length = x.f.n) : (L.map fun x => x.f.n).sum = sizeF (L.map Pil.pf) := by
  induction L with
  | nil => rfl
  | cons f r ih =>
    rw [List.map_cons, List.map_cons, sizeF_cons, List.sum_cons, ih (fun x hx => h x (List.mem_cons_of_mem _ hx))]
    have := h f (List.mem_cons_self ..)
    show _ = f.f.data.length + _
    omega
theorem sumP_le {left : Lit → Bool} : ∀ L : List Pil, sumDP left L ≤ (L.map fun x => x.f.n).sum
  | [] => Nat.le_refl _
  | f :: r => by
    have := sumP_le (left := left) r
    rw [sumD_consP, List.map_cons, List.sum_cons]
    split <;> omega

set_option maxRecDepth 100000 in
set_option maxHeartbeats 1600000 in
theorem pdskSize_any {w : World} {O : Nat → Prop} {d : Nat} {st : DSt} {mb : Nat} {L : List Pil} (h : PDsk w O d st mb L) (hz : sizeF st.files ≤ 1099511627776) :
    Calls Try.prog 47 #[dptr d] w fun e w' => e = .returned (.int .i64 (sizeF st.files : Int)) ∧ Below w.heap.size w w' := by
  have hm := h.map_
  have hsum : (L.map fun x => x.f.n).sum = sizeF st.files := by rw [← h.pf]; exact sum_sizeP fun x hx => (h.files x hx).len
  have c1 : w.cell? ⟨d, 1, none⟩ = some (.map (some mb)) := h.blk.cellAt 1 (show 1 < 7 by decide)
  have HRIS := Lib.hid hm.rising
  have HSUM := Lib.hid hsum
  have HF := Lib.hid h.files
  have hmlt := hm.lt
  have HZ := Lib.hid hz
  clear h hsum hz
  go_enter Try.func47, Try.ntmps47
  go_wp2_with (first | (at_range; refine wpList_range_own _ rfl _ 59 rfl 9 72 strKeyedP Try.underlying59 gP mb L.length (DP L) rfl hm ?_; intro w0 hrg0 hg0 hs0))
  have hb0 : Hid (Below w.heap.size w w0) := ⟨hg0.os, hg0.tape, hg0.output, hg0.size, fun k hk => hg0.block k hk (by simp)⟩
  clear hg0 hs0
  go_frame
  go_loopw [3, 5] (fun v _ wr => ∃ left cnt, v = .int .i64 (sumDP left L : Int) ∧ wr.ranges Try.prog 9 gP mb w.heap.size L.length (DP L) left cnt ∧ Hid (Below w.heap.size w wr)) (fun _ _ wr => wr.rangeLeft mb w.heap.size)
  case atStart =>
    refine ⟨_, _, ?_, hrg0, hb0⟩
    rw [sumD_noneP]
    · rfl
    · intro f hf
      show Maps.has (DP L) (.string (bl f.name)) = true
      rw [has_DP]
      unfold findPil
      rw [List.find?_isSome]
      exact ⟨f, hf, by simp⟩
  case round =>
    obtain ⟨left, cnt, rfl, hrg, hb⟩ := hrel
    have HM := Lib.hid hrg.left_eq
    go_wp2_with (first | (at_next; refine wpList_next_ranges _ rfl _ rfl 9 strKeyedP gP encStr (fun o : Option Nat => Value.pointer (o.map fun p => ⟨p, 0, none⟩)) (fun key kl hk => by obtain ⟨x, hx, _⟩ := Maps.keyOf_str Try.underlying9 hk; exact ⟨x, hx⟩) gP_inv mb w.heap.size L.length _ _ _ rfl hrg ?_ ?_))
    · intro hc0 hl0
      have HV : Hid (sumDP left L = sizeF st.files) := by show _ = _; rw [sumD_allP hl0, HSUM.out]
      clear hc0 hl0 hrg
      go_wp2_with fail
      go_ret
      exact ⟨by rw [← HV.out]; rfl, hb.out⟩
    · intro x o kl yd yp w2 cnt2 hkey hlk hv hat hrg2 hlt hg2 hs2 hen
      obtain ⟨x', ex, rfl, _⟩ := Maps.keyOf_str Try.underlying9 hkey
      obtain rfl : x = x' := encStr_inj ex
      obtain ⟨g, hg, rfl, rfl⟩ := pil_of hv hat
      have hst := sumD_stepP HRIS.out hg hlk
      have hle := sumP_le (left := fun z => left z && !z.sameKey (.string (bl g.name))) L
      rw [HSUM.out] at hle
      have hz := HZ.out
      obtain ⟨s2, hs2'⟩ : ∃ s2, sumDP (fun z => left z && !z.sameKey (.string (bl g.name))) L = s2 := ⟨_, rfl⟩
      rw [hs2'] at hst hle
      have hw : IntKind.i64.wrap ((sumDP left L : Int) + (g.f.n : Int)) = (s2 : Int) := by rw [IntKind.wrap_i64]; omega
      have hbb : Below w.heap.size w w2 := hb.out.trans ⟨hg2.os, hg2.tape, hg2.output, hg2.size, fun k hk => hg2.block k (Nat.lt_of_lt_of_le hk hb.out.size) (by simp; omega)⟩
      have hF := HF.out g hg
      have hcell : w2.cell? ⟨g.p, 0, none⟩ = some (.slice g.f.A g.f.n g.f.c) := (World.cell?_of_block (hbb.block g.p (hF.lt (.inl rfl)))).trans (hF.cell.cellAt 0 (show 0 < 2 by decide))
      have HRG := Lib.hid hrg2
      have HB2 := Lib.hid hbb
      have HS2 := Lib.hid hs2'
      clear hst hle hz hs2' hbb hrg2 hg2 hs2 hkey hv hat hrg hF hm
      simp only [Option.map_some] at hen ⊢
      go_wp2_with fail
      go_roundw
      case rel => exact ⟨_, cnt2, by rw [HS2.out], HRG.out, HB2.out⟩
      case measure =>
        rw [HRG.out.left_eq, HM.out]
        exact hlt
end Go.Proofs.Ytjdjidlopmanbaa
