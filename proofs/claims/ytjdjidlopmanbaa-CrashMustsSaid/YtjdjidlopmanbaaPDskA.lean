/-
  A disk's Files. A disk with a bound on its bytes.
-/
import Derived.Test.YtjdjidlopmanbaaPDsk9
namespace Go.Proofs.Ytjdjidlopmanbaa
open Go.RowKit
set_option linter.unusedVariables false

/-- append of structs onto a row of the call's own, as a step of a region that draws its order. -/
theorem step_appN {P : Program} (w : World) {ops : Array Oper} {o : Oper} {a : Act} {K : Act → World → Prop} {Q : Exit → Act → World → Prop} {E0 : Prop} (hgd : o.guard = none) (s x : Operand) (t : TypeId)
    (ho : o.op = .call { callee := .builtin .append, args := #[s, x], argTypes := #[t, t] })
    (base : Nat) (e : TypeId) {i : TypeInfo} {z : Value} {size bytes : Nat} (ht : P.underlying t = some (.slice e)) (hi : P.info? e = some i) (hz : i.zero = some z) (hsize : i.size = size) (hby : i.bytes = bytes) (hzs : z.cells.size = size) (hsz : 0 < size)
    (v : Value) (n : Nat) (xs : List Value) (hs : a.eval s = v) (hown : w.ownsRow base e size v n xs)
    (ad : Addr) (m c : Nat) (news : List Value) (hx : a.eval x = .slice (some ad) m c) (hl : news.length = m * size) (hnews : ∀ j u, news[j]? = some u → w.cell? (ad.add j) = some u) (h1 : ∀ u ∈ news, u.oneCell' = true)
    (h63 : n + m ≤ maxLen) (hbytes : (n + m) * bytes ≤ 140737488355328) (hbase : base ≤ w.heap.size)
    (h : ∀ v' w', w'.ownsRow base e size v' (n + m) (xs ++ news) → w.grownBy w' v.ownBlock → (v'.ownBlock = v.ownBlock ∨ v'.ownBlock = some w.heap.size) → K (a.put o.dst v') w') :
    if Region.wanted o (yielded ops a.tmps) = true then Oper.wp P o a w K Q else E0 := by
  rw [if_pos (by simp [Region.wanted, hgd])]
  obtain ⟨v', w', hrun, h2, h3, _, h4⟩ := run_append_own_at (P := P) w base t o.type e i z size bytes ht hi hz hsize hby hzs hsz v n xs hown ad m c news hl hnews h1 h63 hbytes hbase
  unfold Oper.wp execOp
  simp only [ho, resolve, invoke, builtin, Sem.run_bind, Sem.run_pure, Result.andThen_ok, List.map_toArray, List.map_cons, List.map_nil, hs, hx, hrun]
  exact h v' w' h2 h3 h4
theorem cells_new (w : World) (l : List Value) (t : TypeId) (j : Nat) (u : Value) (h : l[j]? = some u) : (w.alloc (.cells l.toArray t)).cell? ((⟨w.heap.size, 0, none⟩ : Addr).add j) = some u := by
  have e : ((⟨w.heap.size, 0, none⟩ : Addr).add j) = ⟨w.heap.size, j, none⟩ := by unfold Addr.add; split <;> simp_all
  rw [e, cell_of_row _ _ _ _ _ (0, 0) (heap_alloc_new w (.cells l.toArray t))]
  simpa using h

/-- Files that have come to a list lv of the call's own. -/
structure FilesAt (w1 wr : World) (B : Nat) (lv : Value) (l : List Fil) : Prop where
  row : wr.ownsRow w1.heap.size 50 3 lv l.length (l.flatMap Fil.cells)
  fil : ∀ f ∈ l, FilOk wr (fun b => B ≤ b ∧ lv.ownBlock ≠ some b) f
  below : Below w1.heap.size w1 wr
theorem FilOk.keepP {w w' : World} {Q Q' : Nat → Prop} {f : Fil} (h : FilOk w Q f) (hb : ∀ b, b < w.heap.size → Q b → w'.heap[b]? = w.heap[b]?) (hs : w.heap.size ≤ w'.heap.size) (hq : ∀ b, b < w.heap.size → Q b → Q' b) : FilOk w' Q' f := by
  refine ⟨h.len, h.cap, h.max, ?_⟩
  rcases h.data with h | ⟨b, o, e, hlt, hq', hc⟩
  · exact .inl h
  · exact .inr ⟨b, o, e, Nat.lt_of_lt_of_le hlt hs, hq b hlt hq', fun j hj => (World.cell?_of_block (hb b hlt hq')).trans (hc j hj)⟩
theorem FilesAt.push {w1 wr W4 W6 V : World} {B : Nat} {lv v' : Value} {l : List Fil} (h : FilesAt w1 wr B lv l) (hB : B ≤ w1.heap.size) (f : Fil) (h4 : Below wr.heap.size wr W4) (hf : FilOk W4 (fun b => wr.heap.size ≤ b) f) (h6 : Below W4.heap.size W4 W6)
    (hV : V.ownsRow w1.heap.size 50 3 v' (l.length + 1) (l.flatMap Fil.cells ++ f.cells)) (hg : W6.grownBy V lv.ownBlock) (hor : v'.ownBlock = lv.ownBlock ∨ v'.ownBlock = some W6.heap.size) : FilesAt w1 V B v' (l ++ [f]) := by
  have s1 := h4.size
  have s2 := h6.size
  have s3 := hg.size
  have s0 := h.below.size
  have hlv : ∀ k, lv.ownBlock = some k → w1.heap.size ≤ k ∧ k < wr.heap.size := h.row.lt
  have hne : ∀ b, b < W6.heap.size → lv.ownBlock ≠ some b → v'.ownBlock ≠ some b := fun b h1 h2 e => by
    rcases hor with h3 | h3
    · exact h2 (h3 ▸ e)
    · have := Option.some.inj (h3.symm.trans e)
      omega
  have hk6 : Below wr.heap.size wr W6 := h4.trans (h6.mono s1)
  refine ⟨?_, fun g hg' => ?_, ?_⟩
  · rw [List.length_append, List.flatMap_append]
    simpa using hV
  · rcases List.mem_append.1 hg' with hg1 | hg1
    · exact (h.fil g hg1).keepP (fun b hb hq => (hg.block b (by omega) (fun e => hq.2 e.symm)).trans (hk6.block b hb)) (by omega) (fun b hb hq => ⟨hq.1, hne b (by omega) hq.2⟩)
    · obtain rfl : g = f := by simpa using hg1
      have hlvb : ∀ b, wr.heap.size ≤ b → lv.ownBlock ≠ some b := fun b hb e => by
        have := (hlv b e).2
        omega
      exact hf.keepP (fun b hb hq => (hg.block b (by omega) (fun e => hlvb b hq e.symm)).trans (h6.block b hb)) (by omega) (fun b hb hq => ⟨by omega, hne b (by omega) (hlvb b hq)⟩)
  · have hlow : ∀ k, k < w1.heap.size → (some k : Option Nat) ≠ lv.ownBlock := fun k hk e => by
      have := (hlv k e.symm).1
      omega
    exact ⟨hg.os.trans (hk6.os.trans h.below.os), hg.tape.trans (hk6.tape.trans h.below.tape), hg.output.trans (hk6.output.trans h.below.output), by omega,
      fun k hk => (hg.block k (by omega) (hlow k hk)).trans ((hk6.block k (by omega)).trans (h.below.block k hk))⟩
/-- At the end: files in a slice. -/
theorem cells_flat : ∀ (l : List Fil) (i : Nat) (h : i < l.length) (j : Nat) (v : Value), l[i].cells[j]? = some v → (l.flatMap Fil.cells)[i * 3 + j]? = some v
  | f :: r, 0, _, j, v, e => by
    have e' : f.cells[j]? = some v := e
    have hj : j < f.cells.length := (List.getElem?_eq_some_iff.1 e').1
    rw [List.flatMap_cons, Nat.zero_mul, Nat.zero_add, List.getElem?_append_left hj, e']
  | f :: r, i + 1, h, j, v, e => by
    have ih := cells_flat r i (by simpa using h) j v (by simpa using e)
    have hl : f.cells.length = 3 := rfl
    rw [List.flatMap_cons, List.getElem?_append_right (by rw [hl]; omega), hl, ← ih]
    congr 1
    omega
theorem FilesAt.done {w1 wr : World} {B : Nat} {lv : Value} {l : List Fil} (h : FilesAt w1 wr B lv l) (hB : B ≤ w1.heap.size) : ∃ A c, lv = .slice A l.length c ∧ IsFiles wr (fun b => B ≤ b) A l ∧ l.length ≤ c ∧ c ≤ maxLen := by
  have hfil : ∀ f ∈ l, FilOk wr (fun b => B ≤ b) f := fun f hf => (h.fil f hf).keepP (fun _ _ _ => rfl) (Nat.le_refl _) (fun _ _ hq => hq.1)
  have hr := h.row
  rcases hr.2 with ⟨h1, h2⟩ | ⟨g, cap, cur, h1, h2, h3, h4, h5, h6, h7⟩
  · exact ⟨none, 0, by rw [h1, h2], ⟨hfil, .inl (List.eq_nil_of_length_eq_zero h2)⟩, by omega, Nat.zero_le _⟩
  · refine ⟨some ⟨g, 0, none⟩, cap, h1, ⟨hfil, .inr ⟨g, 0, rfl, (Array.getElem?_eq_some_iff.1 h3).1, Nat.le_trans hB h2, fun i hi j v hv => ?_⟩⟩, h4, h5⟩
    have := hr.cells (g := g) (by rw [h1]; rfl) (i * 3 + j) v (cells_flat l i hi j v hv)
    have e : ((⟨g, 0, none⟩ : Addr).add (i * 3 + j)) = ⟨g, 0 + (i * 3 + j), none⟩ := by unfold Addr.add; split <;> simp_all
    rw [e] at this
    exact this

theorem gofP {a w : World} (hb : Below a.heap.size a w) (row : Option Nat) : a.grownBy w row := ⟨hb.os, hb.tape, hb.output, hb.size, fun k hk _ => hb.block k hk⟩
theorem grownP {a b c : World} {row : Option Nat} (h : a.grownBy b row) (k : b.grownBy c row) : a.grownBy c row :=
  ⟨k.os.trans h.os, k.tape.trans h.tape, k.output.trans h.output, Nat.le_trans h.size k.size, fun i hi hne => (k.block i (Nat.lt_of_lt_of_le hi h.size) hne).trans (h.block i hi hne)⟩
theorem FilOk.own {w : World} {B : Nat} {f : Fil} (h : Own w B 5 (.slice f.A f.n f.c) (f.data.map bv)) (hl : f.data.length = f.n) (hc : f.n ≤ f.c) (hm : f.c ≤ maxLen) : FilOk w (fun b => B ≤ b) f := by
  refine ⟨hl, hc, hm, ?_⟩
  rcases Nat.eq_zero_or_pos f.n with h0 | h0
  · exact .inl (List.eq_nil_of_length_eq_zero (by omega))
  · obtain ⟨g, hA, hB, hg⟩ := h.addr h0
    refine .inr ⟨g, 0, hA, hg, hB, fun j hj => ?_⟩
    rw [hA] at h
    rw [Nat.zero_add]
    exact h.cellAt j hj
def zfile : Value := .agg #[.string ⟨#[]⟩, .slice none 0 0, .int .i64 0]
theorem zfile_info : ∃ i, Try.prog.info? 50 = some i ∧ i.zero = some zfile ∧ i.size = 3 ∧ i.bytes = 48 := by
  obtain ⟨i, hi, hz, h3, h4⟩ := info_parts (P := Try.prog) (e := 50) (z := zfile) (size := 3) (bytes := 48) (by kernel_rfl)
  exact ⟨i, hi, hz, h3, h4⟩

set_option maxRecDepth 100000 in
set_option maxHeartbeats 3200000 in
theorem pdskFiles_any {w : World} {O : Nat → Prop} {d : Nat} {st : DSt} {mb : Nat} {L : List Pil} (h : PDsk w O d st mb L) (hz : sizeF st.files ≤ 1099511627776) :
    Calls Try.prog 16 #[dptr d] w fun e w' =>
      ∃ A c l, e = .returned (.slice A l.length c) ∧ IsFiles w' (fun b => w.heap.size ≤ b) A l ∧ l.length ≤ c ∧ c ≤ maxLen ∧ l.map Fil.pf = st.files ∧ Below w.heap.size w w' := by
  have HL := Lib.hid (pdskList_any h)
  have HH := Lib.hid h
  have HZ := Lib.hid hz
  clear h hz
  go_enter Try.func16, Try.ntmps16
  go_wp2_with fail
  refine HL.out.mono ?_
  rintro e w1 ⟨nv, rfl, hnv, hb1⟩
  obtain ⟨m, hm⟩ : ∃ m, L.length = m := ⟨_, rfl⟩
  obtain ⟨NA, nc, rfl, hnl, hnc, hnvs⟩ := hnv.form
  rw [List.length_map, hm] at hnl hnv ⊢
  have HM := Lib.hid hm
  have hm2 := HH.out.count
  rw [hm] at hm2
  have h1 := HH.out.below hb1
  have c1 : ∀ V : World, Below w1.heap.size w1 V → V.cell? ⟨d, 1, none⟩ = some (.map (some mb)) := fun V hV => (h1.below hV).blk.cellAt 1 (show 1 < 7 by decide)
  have HH1 := Lib.hid h1
  have HNV := Lib.hid hnv
  have HB1 := Lib.hid hb1
  clear h1 hnv hb1 hnvs hm
  go_wp2_with fail
  go_loopw [3, 5, 6, 10] (fun lv _ _ iv wr => ∃ (i : Nat) (l : List Fil), Hid (l.length = i) ∧ iv = .int .i64 (i : Int) ∧ i ≤ m ∧ Hid (FilesAt w1 wr w.heap.size lv l) ∧ Hid (l.map Fil.pf = (L.take i).map Pil.pf)) (fun _ _ _ iv _ => m - (intOf iv).toNat)
  case atStart =>
    exact ⟨0, [], Lib.hid rfl, rfl, Nat.zero_le _, ⟨World.ownsRow_nil _ _ _ _, (fun f hf => by cases hf), Below.refl _ _⟩, Lib.hid rfl⟩
  case round =>
    obtain ⟨i, l, hli, rfl, him, hfa, hpf⟩ := hrel
    by_cases hlt : i < m
    · obtain ⟨g, rfl, hg1, hg2⟩ := HNV.out.addr (by omega)
      have hiL : i < L.length := by rw [HM.out]; exact hlt
      obtain ⟨x, hx⟩ : ∃ x, L[i] = x := ⟨_, rfl⟩
      have hxL : x ∈ L := by rw [← hx]; exact List.getElem_mem hiL
      have hbr := hfa.out.below
      have hnr := HNV.out.below hbr (Nat.le_refl _)
      have cn : wr.cell? ⟨g, i, none⟩ = some (.string x.name) := by
        have := hnr.cellAt i (by rw [List.length_map]; exact hiL)
        rw [this, List.getElem_map, hx]
      have hr := HH1.out.below hbr
      have cd := c1 wr hbr
      have hxf := hr.files x hxL
      have hxname := hr.names x hxL
      have hlk := hr.map_.look1 x.name (by unfold maxLen; omega)
      have hfind : findPil (bl x.name) L = some x := by
        cases hf : findPil (bl x.name) L with
        | none =>
          have := List.find?_eq_none.1 hf x hxL
          simp at this
        | some y =>
          obtain ⟨h8, h9⟩ := findPil_some hf
          rw [hr.map_.rising.one h8 hxL h9]
      rw [hfind] at hlk
      simp only [Option.elim, Pil.val] at hlk
      have hrow := hfa.out.row
      have hxp1 : x.p < w1.heap.size := (HH1.out.files x hxL).lt (.inl rfl)
      have hlv : ∀ k, u3.ownBlock = some k → w1.heap.size ≤ k ∧ k < wr.heap.size := hrow.lt
      have hpl : x.p < wr.heap.size := hxf.lt (.inl rfl)
      have hxne : (some x.p : Option Nat) ≠ u3.ownBlock := fun e => by
        have := (hlv x.p e.symm).1
        omega
      have k0 : ∀ V : World, wr.grownBy V u3.ownBlock → V.cell? ⟨x.p, 0, none⟩ = some (.slice x.f.A x.f.n x.f.c) := fun V hV => (hxf.cell.grown hV hxne).cellAt 0 (show 0 < 2 by decide)
      have k1 : ∀ V : World, wr.grownBy V u3.ownBlock → V.cell? ⟨x.p, 1, none⟩ = some (.int .i64 (x.f.sure : Int)) := fun V hV => (hxf.cell.grown hV hxne).cellAt 1 (show 1 < 2 by decide)
      have hbsx : Bs wr wr.heap.size x.f.A x.f.data := by
        obtain ⟨A', c', e, _, _, h9⟩ := hxf.own.form
        have e1 : x.f.A = A' := by simpa using (Value.slice.inj e).1
        rw [e1]
        exact h9
      have HNX : Hid (x.f.data.length = x.f.n) := hxf.len
      have hxs : x.f.n ≤ 140737488355328 := by
        have h9 := sizeF_drop_mem (nm := bl x.name) (f := x.pf) rfl (l := st.files) (by rw [← HH.out.pf]; exact List.mem_map_of_mem hxL)
        have h8 : x.pf.data.length = x.f.n := HNX.out
        have h7 := HZ.out
        omega
      have hw : IntKind.i64.wrap ((i : Int) + 1) = ((i + 1 : Nat) : Int) := by rw [IntKind.wrap_i64]; omega
      have HROW := Lib.hid hrow
      have HI0 : ((0 : Int) ≤ (i : Int)) := by omega
      have hbsd : Bs wr.drew wr.heap.size x.f.A x.f.data := hbsx
      have hw1r : w1.heap.size ≤ wr.heap.size := hbr.size
      obtain ⟨zi, hzi, hzz, hzs, hzb⟩ := zfile_info
      have hl1 : ∀ u ∈ ([.string x.name] : List Value), u.oneCell' = true := fun u hu => by
        obtain rfl : u = .string x.name := by simpa using hu
        rfl
      have h63 : l.length + 1 ≤ maxLen := by rw [hli.out]; unfold maxLen; omega
      have hbytes : (l.length + 1) * 48 ≤ 140737488355328 := by rw [hli.out]; omega
      clear hfind hr hxf hrow hlv hbr hnr
      go_wp2_with fail
      go_region_held3 (fun V => wr.grownBy V u3.ownBlock) (first | assumption | exact gofP (below_drewN (Below.refl _ _) 1) _ | exact gofP (Below.refl _ _) _ | exact gofP (by assumption) _ | exact gofP (hb4.alloc hb4.size _) _) (first
        | (go_at_call 37; (with_reducible refine (cloneP_any x.f.A x.f.n x.f.c x.f.data wr.heap.size wr.drew HNX hbsd (Nat.le_refl _) hxs).mono ?_); rintro e w4 ⟨A4, n4, c4, rfl, hn4, hO4, hnc4, hc4, hbs4, hb4⟩; have hb4 : Below wr.heap.size wr w4 := (below_drewN (Below.refl _ _) 1).trans hb4; have hrow4 : w4.ownsRow w1.heap.size 50 3 u3 l.length (l.flatMap Fil.cells) := HROW.out.kept (row := none) ⟨hb4.os, hb4.tape, hb4.output, hb4.size, fun k hk _ => hb4.block k hk⟩ (by cases hv : u3.ownBlock <;> simp); have hone : ∀ u ∈ ([.string x.name, .slice A4 n4 c4, .int .i64 (x.f.sure : Int)] : List Value), u.oneCell' = true := (fun u hu => by simp only [List.mem_cons, List.not_mem_nil, or_false] at hu; rcases hu with rfl | rfl | rfl <;> rfl); have hsz4 : w1.heap.size ≤ (w4.alloc (.cells #[.string x.name, .slice A4 n4 c4, .int .i64 (x.f.sure : Int)] 50)).heap.size := (by have := hb4.size; simp; omega))
        | ((refine step_appN _ (by rfl) (.tmp 20) (.tmp 32) _ (by rfl) w1.heap.size 50 Try.underlying28 hzi hzz hzs hzb (by rfl) (by decide) u3 l.length (l.flatMap Fil.cells) (by rfl) (by exact hrow4.alloc _) ⟨w4.heap.size, 0, none⟩ 1 _ ([.string x.name, .slice A4 n4 c4, .int .i64 (x.f.sure : Int)] : List Value) (by rfl) (by rfl) (by exact cells_new w4 [.string x.name, .slice A4 n4 c4, .int .i64 (x.f.sure : Int)] _) hone h63 hbytes hsz4 ?_); intro v7 w7 hR7 hG7 hv7; have hS7 : wr.grownBy w7 u3.ownBlock := grownP (gofP (hb4.alloc hb4.size _) _) hG7))
      all_goals
        have hfo : FilOk w4 (fun b => wr.heap.size ≤ b) ⟨x.name, A4, n4, c4, x.f.data, x.f.sure⟩ := FilOk.own hO4 hn4.out hnc4 hc4
        have hpush := hfa.out.push HB1.out.size ⟨x.name, A4, n4, c4, x.f.data, x.f.sure⟩ hb4 hfo ((Below.refl _ w4).alloc (Nat.le_refl _) _) hR7 hG7 hv7
        have HP := Lib.hid hpush
        clear hpush hfo hR7 hG7 hv7 hrow4 hone hsz4 hl1 hO4 hbs4 k0 k1
        try go_wp2_with fail
        go_roundw
        case rel =>
          refine ⟨i + 1, l ++ [⟨x.name, A4, n4, c4, x.f.data, x.f.sure⟩], ?_, by go_num, by omega, HP, ?_⟩
          · show _ = _
            rw [List.length_append, hli.out]
            rfl
          · show _ = _
            rw [List.map_append, hpf.out, List.take_succ_eq_append_getElem hiL, List.map_append, hx]
            rfl
        case measure => simp [intOf]; omega
    · have HLT : Hid (i = m) := by show _ = _; omega
      go_wp2_with fail
      go_ret
      obtain ⟨A, c, rfl, h1, h2, h3⟩ := hfa.out.done HB1.out.size
      refine ⟨A, c, l, rfl, h1, h2, h3, ?_, HB1.out.trans (hfa.out.below.mono HB1.out.size)⟩
      rw [hpf.out, HLT.out, ← HM.out, List.take_length]
      exact HH.out.pf
end Go.Proofs.Ytjdjidlopmanbaa

namespace Go.Proofs.Ytjdjidlopmanbaa
open Go.RowKit
set_option linter.unusedVariables false

def IsQ (w : World) (O : Nat → Prop) (d : Nat) (st : DSt) : Prop := IsP w O d st ∧ sizeF st.files ≤ 1099511627776
theorem RetD.size {v : Value} {st : DSt} {d : Nat} {O : Nat → Prop} {w w' : World} {e : Ending} (h : RetD IsP v st d O w e w') (hs : sizeF st.files ≤ 1099511627776) : RetD IsQ v st d O w e w' := by
  obtain ⟨O', h1, h2, h3⟩ := h
  exact ⟨O', h1, ⟨h2, hs⟩, h3⟩
end Go.Proofs.Ytjdjidlopmanbaa
